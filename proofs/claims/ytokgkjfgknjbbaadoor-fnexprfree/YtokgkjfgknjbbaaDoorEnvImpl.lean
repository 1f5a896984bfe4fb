/- The program's VarName, namesAscend, EnvOk and EnvGet. -/
import Derived.Test.YtokgkjfgknjbbaaDoorEnvAsc
namespace Go.Proofs.YtokgkjfgknjbbaaDoor
open Go.RowKit

set_option maxHeartbeats 800000 in
theorem implVarName_any (s : ByteArray) (w : World) :
    Calls Tryd.prog 85 #[.string s] w fun e w' => e = .returned (.bool (nameB s)) ∧ w' = w := by
  by_cases h0 : s.size < 1
  · have HN : Hid (nameB s = false) := by simp only [Hid, nameB, Bool.and_eq_false_iff, decide_eq_false_iff_not]; exact .inr (by omega)
    have i0 : (s.size : Int) < 1 := by omega
    go_enter Tryd.func85, Tryd.ntmps85
    go_wp2
    go_ret
    rw [HN.out]
    exact ⟨rfl, rfl⟩
  · by_cases h4 : 4 < s.size
    · have HN : Hid (nameB s = false) := by simp only [Hid, nameB, Bool.and_eq_false_iff, decide_eq_false_iff_not]; exact .inr (by omega)
      have i0 : ¬ (s.size : Int) < 1 := by omega
      have i4 : (4 : Int) < (s.size : Int) := by omega
      go_enter Tryd.func85, Tryd.ntmps85
      go_wp2
      go_ret
      rw [HN.out]
      exact ⟨rfl, rfl⟩
    · have i0 : ¬ (s.size : Int) < 1 := by omega
      have i4 : ¬ (4 : Int) < (s.size : Int) := by omega
      go_enter Tryd.func85, Tryd.ntmps85
      go_wp2
      go_loop [14] (fun iv => ∃ k : Nat, iv = .int .i64 k ∧ k ≤ s.size ∧ ∀ j (hj : j < s.size), j < k → letB s[j] = true) (fun iv => s.size - (intOf iv).toNat)
      case atStart => exact ⟨0, rfl, Nat.zero_le _, fun _ _ h => by omega⟩
      case round =>
        obtain ⟨k, rfl, hk, hj⟩ := hrel
        have HJ : Hid (∀ j (hj : j < s.size), j < k → letB s[j] = true) := hj
        clear hj
        by_cases hlt : k < s.size
        · have hb := s[k].toNat_lt
          by_cases h1 : s[k].toNat < 97
          · have HN : Hid (nameB s = false) := nameB_no hlt (by simp [letB]; omega)
            go_wp2
            go_ret
            rw [HN.out]
            exact ⟨rfl, rfl⟩
          · by_cases h2 : 122 < s[k].toNat
            · have HN : Hid (nameB s = false) := nameB_no hlt (by simp [letB]; omega)
              go_wp2
              go_ret
              rw [HN.out]
              exact ⟨rfl, rfl⟩
            · go_wp2
              go_round
              case rel =>
                refine ⟨k + 1, by go_num, by omega, fun j hj hjk => ?_⟩
                by_cases e : j = k
                · subst e; simp [letB]; omega
                · exact HJ.out j hj (by omega)
              case measure => simp [intOf]; omega
        · have HN : Hid (nameB s = true) := by
            rw [Hid, nameB_all (s := s) (fun j hj => HJ.out j hj (by omega)), decide_eq_true_eq]
            omega
          go_wp2
          go_ret
          rw [HN.out]
          exact ⟨rfl, rfl⟩
theorem implVarName_is (s : ByteArray) (b : Bool) (h : nameB s = b) (w : World) :
    Calls Tryd.prog 85 #[.string s] w fun e w' => e = .returned (.bool b) ∧ w' = w := by
  rw [← h]; exact implVarName_any s w



set_option maxHeartbeats 800000 in
theorem implEnvGet_any (v : Value) (xs : List VarD) (name : ByteArray) (w : World) (hn : xs.length ≤ 2097153) (h : VRow w v xs) :
    Calls Tryd.prog 118 #[v, .string name] w fun e w' => e = .returned (getVal xs name) ∧ Below w.heap.size w w' := by
  have HR : Hid (VRow w v xs) := h
  obtain ⟨a, cap, rfl⟩ := h.slice
  clear h
  go_enter Tryd.func118, Tryd.ntmps118
  go_wp2
  go_loopw [10] (fun iv wr => ∃ k : Nat, iv = .int .i64 k ∧ k ≤ xs.length ∧ (∀ j (hj : j < xs.length), j < k → xs[j].1 ≠ name) ∧ Below w.heap.size w wr) (fun iv _ => xs.length - (intOf iv).toNat)
  case atStart => exact ⟨0, rfl, Nat.zero_le _, fun _ _ h => by omega, Below.refl _ _⟩
  case round =>
    obtain ⟨k, rfl, hk, hj, hb⟩ := hrel
    have HJ : Hid (∀ j (hj : j < xs.length), j < k → xs[j].1 ≠ name) := hj
    have HB : Hid (Below w.heap.size w wr) := hb
    have HRr : Hid (VRow wr (.slice a xs.length cap) xs) := HR.out.below hb
    clear hj hb
    by_cases hlt : k < xs.length
    · obtain ⟨b, off, rfl, hc1, hc2⟩ := HRr.out.at hlt
      by_cases hnm : xs[k].1 = name
      · have ht : (xs[k].1.toList == name.toList) = true := by rw [bytes_beq]; simpa using hnm
        have HV : Hid (getVal xs name = .tuple #[.int .i64 xs[k].2, .bool true]) := by simp only [Hid, getVal, getB_at hlt HJ.out hnm]
        clear hnm
        go_wp2
        go_ret2
        exact ⟨congrArg _ HV.out.symm, HB.out.alloc HB.out.size _⟩
      · have ht : (xs[k].1.toList == name.toList) = false := by rw [bytes_beq]; simpa using hnm
        have HNm : Hid (¬ xs[k].1 = name) := hnm
        clear hnm
        go_wp2
        go_roundw
        case rel =>
          refine ⟨k + 1, by go_num, by omega, fun j hj hjk => ?_, HB.out.alloc HB.out.size _⟩
          by_cases e : j = k
          · subst e; exact HNm.out
          · exact HJ.out j hj (by omega)
        case measure => simp [intOf]; omega
    · have HV : Hid (getVal xs name = .tuple #[.int .i64 0, .bool false]) := by
        have : getB xs name = none := getB_none.2 (fun x hx => by
          obtain ⟨j, hj, rfl⟩ := List.getElem_of_mem hx
          exact HJ.out j hj (by omega))
        simp only [Hid, getVal, this]
      go_wp2
      go_ret2
      exact ⟨congrArg _ HV.out.symm, HB.out⟩

end Go.Proofs.YtokgkjfgknjbbaaDoor
