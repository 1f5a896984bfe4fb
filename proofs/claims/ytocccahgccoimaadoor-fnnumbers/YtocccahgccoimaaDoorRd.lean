/- What the two functions that read decimal figures answer, and the law on them. -/
import Derived.Test.YtocccahgccoimaaDoorDecLaw
import Derived.Test.YtocccahgccoimaaDoorRdPure
import Derived.WalkMore
namespace Go.Proofs.YtocccahgccoimaaDoor
open Go.RowKit

/-- What holds at each round's head: the first k bytes are figures that tell the number. -/
def RdSlots (s : ByteArray) (nv iv : Value) : Prop :=
  ∃ k : Nat, iv = .int .i64 k ∧ nv = .int .i64 (valD (s.data.toList.take k)) ∧ k ≤ s.size ∧ ∀ b ∈ s.data.toList.take k, b.toNat ≤ 57

theorem rdSlots_step {s : ByteArray} {k v : Nat} (hk : k < s.size) (hv : valD (s.data.toList.take k) = v) (h48 : 48 ≤ s[k].toNat) (h57 : s[k].toNat ≤ 57) (hall : ∀ b ∈ s.data.toList.take k, b.toNat ≤ 57) {z : Int} (hz : z = (v : Int) * 10 + ((s[k].toNat : Int) - 48)) :
    RdSlots s (.int .i64 z) (.int .i64 ((k : Int) + 1)) := by
  refine ⟨k + 1, by simp, ?_, by omega, ?_⟩
  · rw [take_snoc2 s k hk, valD_snoc, hv, hz]
    refine congrArg (Value.int .i64) ?_
    omega
  · rw [take_snoc2 s k hk]
    intro b hb
    rcases List.mem_append.1 hb with hb | hb
    · exact hall b hb
    · rw [List.mem_singleton.1 hb]; exact h57

theorem take_all (s : ByteArray) : s.data.toList.take s.size = s.data.toList := List.take_of_length_le (by simp)

theorem rd_way_no {s : ByteArray} {v : Nat} (hv : valD s.data.toList = v) (ht : (1000000000 : Int) < (v : Int) ∨ (!(str (Lib.itoa (v : Int))).toList == s.toList) = true) : ¬ rdYes s.data.toList := by
  rintro ⟨h1, h2⟩
  rw [hv] at h1 h2
  rcases ht with h | h
  · omega
  · rw [rd_test] at h
    simp [h2] at h

theorem rd_way_yes {s : ByteArray} {v : Nat} (hv : valD s.data.toList = v) (ht : (v : Int) ≤ 1000000000 ∧ (!(str (Lib.itoa (v : Int))).toList == s.toList) = false) : rdVal s.data.toList = .tuple #[.int .i64 v, .bool true] := by
  have h : rdYes s.data.toList := by
    obtain ⟨h1, h2⟩ := ht
    rw [rd_test] at h2
    refine ⟨by omega, ?_⟩
    rw [hv]
    simpa using h2
  rw [rdVal_yes h, hv]


set_option maxHeartbeats 800000 in
set_option maxRecDepth 100000 in
theorem implRd_any (s : ByteArray) (w : World) (hs : s.size ≤ 1048576) (hT : Pow10 w) :
    Calls Tryd.prog 8 #[.string s] w fun e w' => e = .returned (rdVal s.data.toList) ∧ Below w.heap.size w w' := by
  have HP : Hid (Pow10 w) := hT
  clear hT
  go_enter Tryd.func8, Tryd.ntmps8
  go_wp2
  go_step3
  go_wp2
  go_step3
  go_wp2
  go_loop [4, 9] (fun nv iv => RdSlots s nv iv ∧ intOf nv ≤ 10000000009) (fun _ iv => s.size - (intOf iv).toNat)
  case atStart => exact ⟨⟨0, rfl, rfl, Nat.zero_le _, by simp⟩, by simp [intOf]⟩
  case round =>
    obtain ⟨⟨k, rfl, rfl, hk, hall⟩, hle0⟩ := hrel
    have hle : valD (s.data.toList.take k) ≤ 10000000009 := by simp only [intOf] at hle0; omega
    have HA : Hid (∀ b ∈ s.data.toList.take k, b.toNat ≤ 57) := hall
    clear hall hle0
    have HG : Hid (1000000000 < valD (s.data.toList.take k) → ¬ rdYes s.data.toList) := rd_great
    generalize hv : valD (s.data.toList.take k) = v at *
    have HV : Hid (valD (s.data.toList.take k) = v) := hv
    clear hv
    by_cases hlt : k < s.size
    · have hbyte : s[k].toNat < 256 := s[k].toNat_lt
      by_cases hbad : s[k].toNat < 48 ∨ 57 < s[k].toNat ∨ 1000000000 < v
      · have HN : Hid (¬ rdYes s.data.toList) := by
          rcases hbad with h | h | h
          · exact rd_bad (byte_mem s k hlt) (.inl h)
          · exact rd_bad (byte_mem s k hlt) (.inr h)
          · exact HG.out h
        have HM : Hid (v ≤ 1000000000 → Lib.decDigits v ≠ s.data.toList) := by
          intro hv1 he
          rcases hbad with h | h | h
          · have := dec_figs v s[k] (by rw [he]; exact byte_mem s k hlt); omega
          · have := dec_figs v s[k] (by rw [he]; exact byte_mem s k hlt); omega
          · omega
        have HE : Hid (_ = _) := rdVal_no HN.out
        by_cases hv1 : 1000000000 < v
        · clear HM HN hbad
          by_cases h1 : s[k].toNat < 48
          · go_wp2
            (try rw [Exit.noGoto_ret])
            go_ret2
            exact ⟨congrArg _ HE.out.symm, Below.refl _ _⟩
          · by_cases h2 : 57 < s[k].toNat
            · go_wp2
              (try rw [Exit.noGoto_ret])
              go_ret2
              exact ⟨congrArg _ HE.out.symm, Below.refl _ _⟩
            · go_wp2
              (try rw [Exit.noGoto_ret])
              go_ret2
              exact ⟨congrArg _ HE.out.symm, Below.refl _ _⟩
        · have ht : ((str (Lib.itoa (v : Int))).toList == s.toList) = false := by
            rw [rd_test]
            simpa using HM.out (by omega)
          have hb2 : s[k].toNat < 48 ∨ 57 < s[k].toNat := by omega
          clear HM HN hbad
          by_cases h1 : s[k].toNat < 48
          · clear hb2
            go_wp2_with (go_at_call 9; refine (implDec_any _ _ (by omega) (by omega) HP.out).mono ?_; rintro e w1 ⟨rfl, hb1⟩)
            (try rw [Exit.noGoto_ret])
            go_ret2
            exact ⟨congrArg _ HE.out.symm, hb1⟩
          · have h2 : 57 < s[k].toNat := by omega
            clear hb2
            go_wp2_with (go_at_call 9; refine (implDec_any _ _ (by omega) (by omega) HP.out).mono ?_; rintro e w1 ⟨rfl, hb1⟩)
            (try rw [Exit.noGoto_ret])
            go_ret2
            exact ⟨congrArg _ HE.out.symm, hb1⟩
      · have g1 : 48 ≤ s[k].toNat := by omega
        have g2 : s[k].toNat ≤ 57 := by omega
        have g3 : v ≤ 1000000000 := by omega
        clear hbad
        have R := rdSlots_step (z := (v : Int) * 10 + ((s[k].toNat : Int) - 48)) hlt HV.out g1 g2 HA.out rfl
        go_wp2
        go_round
        case rel => exact ⟨R, by simp only [intOf]; omega⟩
        case measure => simp [intOf]; omega
    · obtain rfl : k = s.size := by omega
      have HV2 : Hid (valD s.data.toList = v) := by have := HV.out; rwa [take_all] at this
      by_cases hN : 1000000000 < v
      · have HE : Hid (_ = _) := rdVal_no (L := s.data.toList) (fun h => by have := h.1; rw [HV2.out] at this; omega)
        go_wp2
        (try rw [Exit.noGoto_ret])
        go_ret2
        exact ⟨congrArg _ HE.out.symm, Below.refl _ _⟩
      · go_wp2_with (go_at_call 9; refine (implDec_any _ _ (by omega) (by omega) HP.out).mono ?_; rintro e w1 ⟨rfl, hb1⟩)
        all_goals (try rw [Exit.noGoto_ret])
        all_goals go_ret2
        · have ht : (1000000000 : Int) < (v : Int) ∨ (!(str (Lib.itoa (v : Int))).toList == s.toList) = true := by assumption
          exact ⟨congrArg _ (rdVal_no (rd_way_no HV2.out ht)).symm, hb1⟩
        · have ht : (v : Int) ≤ 1000000000 ∧ (!(str (Lib.itoa (v : Int))).toList == s.toList) = false := by assumption
          exact ⟨congrArg _ (rd_way_yes HV2.out ht).symm, hb1⟩


theorem rdVal_form (L : List UInt8) : ∃ n b, rdVal L = .tuple #[.int .i64 n, .bool b] := by
  rw [rdVal]
  split
  · exact ⟨_, _, rfl⟩
  · exact ⟨_, _, rfl⟩


end Go.Proofs.YtocccahgccoimaaDoor
