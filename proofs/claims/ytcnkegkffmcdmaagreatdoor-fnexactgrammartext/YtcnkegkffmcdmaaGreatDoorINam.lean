/- Sealed and Unsealed: what the program answers. -/
/- The program's RuleName. -/
import Derived.Test.YtcnkegkffmcdmaaGreatDoorSumImpl
import Derived.Test.YtcnkegkffmcdmaaGreatDoorGRule
import Derived.Test.YtcnkegkffmcdmaaGreatDoorSetRead
namespace Go.Proofs.YtcnkegkffmcdmaaGreatDoor
open Go.RowKit

theorem strClone3 (s : ByteArray) (w : World) (h : s.size ≤ 1048576) :
    Calls Tryz.prog 124 #[.string s] w fun e w' => e = .returned (.string s) ∧ Below w.heap.size w w' := by
  go_enter Tryz.func124, Tryz.ntmps124
  go_wp2_with (go_at_call 135; refine (Tryz.stringslite_Clone _ _ (by omega)).mono ?_; rintro e w1 ⟨rfl, hb1⟩)
  go_ret
  exact ⟨rfl, hb1⟩

theorem turns_drew {w : World} (T : Turns w) : Turns w.drew := T

theorem sealed_yes (s : ByteArray) (w : World) (hs : s.size ≤ 20000) (T : Turns w) :
    Calls Tryz.prog 19 #[.string s] w fun e w' => e = .returned (.tuple #[.string (str (sealB s.data.toList)), .bool true]) ∧ Below w.heap.size w w' := by
  have HE : Hid (s ++ str (four (sumB 4294967295 s.data.toList)) = str (sealB s.data.toList)) := by
    have := str_add2 s.data.toList (four (sumB 4294967295 s.data.toList))
    rw [str_self] at this
    exact this
  have hlt := sumB_lt s.data.toList 4294967295 (by omega)
  have hz : (str (four (sumB 4294967295 s.data.toList))).size = 4 := by rw [str_size, four_len]
  have hadd := fun W => run_string_add_sum (P := Tryz.prog) (w := W) s (str (four (sumB 4294967295 s.data.toList))) (by omega)
  clear hz
  have HT : Hid (Turns w) := T
  clear T
  go_enter Tryz.func19, Tryz.ntmps19
  go_wp2_with (first
    | (go_at_call 37; refine (sumOf_any s _ (by omega) HT.out).mono ?_; rintro e w1 ⟨rfl, rfl⟩)
    | (go_at_call 38; refine (bytes_any _ _ hlt).mono ?_; rintro e w2 ⟨rfl, hb2⟩))
  go_ret2
  rw [← HE.out]
  exact ⟨rfl, hb2⟩

theorem sealed_no (s : ByteArray) (w : World) (hs : 20000 < s.size) :
    Calls Tryz.prog 19 #[.string s] w fun e w' => e = .returned (.tuple #[.string (str []), .bool false]) ∧ w' = w := by
  have hs1 : (20000 : Int) < s.size := by omega
  go_enter Tryz.func19, Tryz.ntmps19
  go_wp2
  go_ret2
  exact ⟨rfl, rfl⟩

end Go.Proofs.YtcnkegkffmcdmaaGreatDoor

namespace Go.Proofs.YtcnkegkffmcdmaaGreatDoor
open Go.RowKit

def greatB (b : Nat) : Bool := decide (65 ≤ b) && decide (b ≤ 90)
theorem great_any (b : Nat) (w : World) :
    Calls Tryz.prog 84 #[.int .u8 b] w fun e w' => e = .returned (.bool (greatB b)) ∧ w' = w := by
  by_cases h1 : 65 ≤ b
  · by_cases h2 : b ≤ 90
    · have HV : Hid (greatB b = true) := by simp [Hid, greatB, h1, h2]
      have e90 : decide ((b : Int) ≤ 90) = true := by rw [decide_eq_true]; omega
      go_enter Tryz.func84, Tryz.ntmps84
      go_wp2
      go_ret
      rw [HV.out]
      exact ⟨rfl, rfl⟩
    · have HV : Hid (greatB b = false) := by simp [Hid, greatB, h2]
      have e90 : decide ((b : Int) ≤ 90) = false := by rw [decide_eq_false]; omega
      go_enter Tryz.func84, Tryz.ntmps84
      go_wp2
      go_ret
      rw [HV.out]
      exact ⟨rfl, rfl⟩
  · have HV : Hid (greatB b = false) := by simp [Hid, greatB, h1]
    have h2 : b < 65 := by omega
    go_enter Tryz.func84, Tryz.ntmps84
    go_wp2
    go_ret
    rw [HV.out]
    exact ⟨rfl, rfl⟩

theorem rnC_of (i b : Nat) : rnC i b = (decide (kindP b = 2) || greatB b || (decide (0 < i) && decide (kindP b = 1))) := by
  unfold rnC kindP greatB
  by_cases h1 : 48 ≤ b ∧ b ≤ 57
  · rw [if_pos h1, Bool.eq_iff_iff]; simp; omega
  · rw [if_neg h1]
    by_cases h2 : 97 ≤ b ∧ b ≤ 122
    · rw [if_pos h2, Bool.eq_iff_iff]; simp; omega
    · rw [if_neg h2, Bool.eq_iff_iff]; simp; omega
theorem kindP_of (b : Nat) : kindP b = 0 ∨ kindP b = 1 ∨ kindP b = 2 := by
  unfold kindP; split
  · exact .inr (.inl rfl)
  · split
    · exact .inr (.inr rfl)
    · exact .inl rfl

set_option maxHeartbeats 1600000 in
set_option maxRecDepth 100000 in
theorem implRuleName_any (s : ByteArray) (w : World) (hs : s.size ≤ 1048576) :
    Calls Tryz.prog 68 #[.string s] w fun e w' => e = .returned (.bool (ruleNameB s)) ∧ w' = w := by
  have HB : Hid (ruleNameB s = (rnTo s s.size && decide ((1 : Int) ≤ s.size ∧ (s.size : Int) ≤ 6))) := rfl
  by_cases h1 : s.size < 1
  · have HV : Hid (ruleNameB s = false) := by rw [Hid, HB.out]; simp; omega
    go_enter Tryz.func68, Tryz.ntmps68
    go_wp2
    go_ret
    rw [HV.out]
    exact ⟨rfl, rfl⟩
  by_cases h6 : 6 < s.size
  · have HV : Hid (ruleNameB s = false) := by rw [Hid, HB.out]; simp; omega
    go_enter Tryz.func68, Tryz.ntmps68
    go_wp2
    go_ret
    rw [HV.out]
    exact ⟨rfl, rfl⟩
  have h0 : 0 < s.size := by omega
  have HL : Hid (ruleNameB s = rnTo s s.size) := by rw [Hid, HB.out]; simp; omega
  have HNo : Hid (∀ k (h : k < s.size), rnC k s[k].toNat = false → ruleNameB s = false) := fun k hk h => by rw [HL.out, rnTo_no s k hk h]
  have hu0 := s[0].toNat_lt
  by_cases hf : kindP s[0].toNat = 1
  · have HV : Hid (ruleNameB s = false) := HNo.out 0 h0 (by
      rw [rnC_of, hf]
      have : greatB s[0].toNat = false := by
        unfold kindP at hf
        split at hf
        · unfold greatB; simp; omega
        · split at hf <;> cases hf
      rw [this]; rfl)
    have HK : Hid (∀ W, Calls Tryz.prog 83 #[.int .u8 s[0].toNat] W fun e w' => e = .returned (.int .i64 1) ∧ w' = W) := fun W => by
      have := kind_any s[0].toNat (by omega) W
      rwa [hf] at this
    clear hf
    go_enter Tryz.func68, Tryz.ntmps68
    go_wp2_with (go_at_call 83; refine (HK.out _).mono ?_; rintro e wq ⟨rfl, hw⟩; rw [hw]; clear hw)
    go_ret
    rw [HV.out]
    exact ⟨rfl, rfl⟩
  obtain ⟨q0, hq0⟩ : ∃ q : Int, q = kindP s[0].toNat := ⟨_, rfl⟩
  have HK : Hid (∀ W, Calls Tryz.prog 83 #[.int .u8 s[0].toNat] W fun e w' => e = .returned (.int .i64 q0) ∧ w' = W) := fun W => by
    have := kind_any s[0].toNat (by omega) W
    rwa [← hq0] at this
  have hq1 : ¬ q0 = 1 := by rw [hq0]; exact hf
  have HQ : Hid (q0 = kindP s[0].toNat) := hq0
  clear hf hq0
  have d1 : decide ((s.size : Int) < 1) = false := by rw [decide_eq_false]; omega
  have d2 : decide ((6 : Int) < (s.size : Int)) = false := by rw [decide_eq_false]; omega
  have d3 : (q0 == 1) = false := by simpa using hq1
  go_enter Tryz.func68, Tryz.ntmps68
  go_wp2_with (go_at_call 83; refine (HK.out _).mono ?_; rintro e wq ⟨rfl, hw⟩; rw [hw]; clear hw)
  go_loopw [20] (fun iv wr => ∃ k : Nat, iv = .int .i64 k ∧ k ≤ s.size ∧ rnTo s k = true ∧ wr = w) (fun iv _ => s.size - (intOf iv).toNat)
  case atStart => exact ⟨0, rfl, Nat.zero_le _, rfl, rfl⟩
  case round =>
    obtain ⟨k, rfl, hk, hto, hwr⟩ := hrel
    rw [hwr]
    clear hwr
    have HTo : Hid (rnTo s k = true) := hto
    clear hto
    by_cases hlt : k < s.size
    · have hu := s[k].toNat_lt
      have HNx : Hid (_ = _) := rnTo_next s k hlt
      have i4 : (k : Int) < (s.size : Int) := by omega
      have HKk : Hid (∀ W, _) := fun W => kind_any s[k].toNat (by omega) W
      by_cases hz : kindP s[k].toNat = 0
      · rw [hz] at HKk
        have HG : Hid (∀ W, _) := fun W => great_any s[k].toNat W
        cases hg : greatB s[k].toNat with
        | true =>
          rw [hg] at HG
          have HY : Hid (rnC k s[k].toNat = true) := by rw [Hid, rnC_of, hg]; simp
          clear hz hg
          go_wp2_with (first
            | (go_at_call 83; refine (HKk.out _).mono ?_; rintro e wq ⟨rfl, hw⟩; rw [hw]; clear hw)
            | (go_at_call 84; refine (HG.out _).mono ?_; rintro e wq ⟨rfl, hw⟩; rw [hw]; clear hw))
          go_roundw
          case rel => exact ⟨k + 1, by go_num, by omega, by rw [HNx.out, HTo.out, HY.out]; rfl, (by first | rfl | trivial)⟩
          case measure => simp [intOf]; omega
        | false =>
          rw [hg] at HG
          have HV : Hid (ruleNameB s = false) := HNo.out k hlt (by rw [rnC_of, hg, hz]; simp)
          clear hz hg
          go_wp2_with (first
            | (go_at_call 83; refine (HKk.out _).mono ?_; rintro e wq ⟨rfl, hw⟩; rw [hw]; clear hw)
            | (go_at_call 84; refine (HG.out _).mono ?_; rintro e wq ⟨rfl, hw⟩; rw [hw]; clear hw))
          go_ret
          rw [HV.out]
          exact ⟨rfl, rfl⟩
      · have HY : Hid (rnC k s[k].toNat = true) := by
          rw [Hid, rnC_of]
          rcases kindP_of s[k].toNat with h | h | h
          · exact absurd h hz
          · by_cases hk0 : k = 0
            · subst hk0
              exact absurd (HQ.out.trans h) hq1
            · have : 0 < k := by omega
              simp [h, this]
          · simp [h]
        obtain ⟨q, hq⟩ : ∃ q : Int, q = kindP s[k].toNat := ⟨_, rfl⟩
        rw [← hq] at HKk hz
        clear hq
        go_wp2_with (go_at_call 83; refine (HKk.out _).mono ?_; rintro e wq ⟨rfl, hw⟩; rw [hw]; clear hw)
        go_roundw
        case rel => exact ⟨k + 1, by go_num, by omega, by rw [HNx.out, HTo.out, HY.out]; rfl, (by first | rfl | trivial)⟩
        case measure => simp [intOf]; omega
    · obtain rfl : k = s.size := by omega
      have HV : Hid (ruleNameB s = true) := by rw [Hid, HL.out, HTo.out]
      go_wp2
      go_ret
      rw [HV.out]
      exact ⟨rfl, rfl⟩

end Go.Proofs.YtcnkegkffmcdmaaGreatDoor
