/- The program's VarName, namesAscend, EnvOk and EnvGet. -/
import Derived.Test.YtofpoiccghpliaaGreatDoorEnvAsc
namespace Go.Proofs.YtofpoiccghpliaaGreatDoor
open Go.RowKit

set_option maxHeartbeats 800000 in
theorem implVarName_any (s : ByteArray) (w : World) :
    Calls Tryz.prog 86 #[.string s] w fun e w' => e = .returned (.bool (nameB s)) ∧ w' = w := by
  by_cases h0 : s.size < 1
  · have HN : Hid (nameB s = false) := by simp only [Hid, nameB, Bool.and_eq_false_iff, decide_eq_false_iff_not]; exact .inr (by omega)
    have i0 : (s.size : Int) < 1 := by omega
    go_enter Tryz.func86, Tryz.ntmps86
    go_wp2
    go_ret
    rw [HN.out]
    exact ⟨rfl, rfl⟩
  · by_cases h4 : 4 < s.size
    · have HN : Hid (nameB s = false) := by simp only [Hid, nameB, Bool.and_eq_false_iff, decide_eq_false_iff_not]; exact .inr (by omega)
      have i0 : ¬ (s.size : Int) < 1 := by omega
      have i4 : (4 : Int) < (s.size : Int) := by omega
      go_enter Tryz.func86, Tryz.ntmps86
      go_wp2
      go_ret
      rw [HN.out]
      exact ⟨rfl, rfl⟩
    · have i0 : ¬ (s.size : Int) < 1 := by omega
      have i4 : ¬ (4 : Int) < (s.size : Int) := by omega
      go_enter Tryz.func86, Tryz.ntmps86
      go_wp2
      go_loop [14] (fun iv => ∃ k : Nat, iv = .int .i64 k ∧ k ≤ s.size ∧ ∀ j (hj : j < s.size), j < k → letB s[j] = true) (fun iv => s.size - (intOf iv).toNat)
      case atStart => exact ⟨0, rfl, Nat.zero_le _, fun _ _ h => by omega⟩
      case round =>
        obtain ⟨k, rfl, hk, hj⟩ := hrel
        have HJ : Hid (∀ j (hj : j < s.size), j < k → letB s[j] = true) := hj
        clear hj
        by_cases hlt : k < s.size
        · have hb := s[k].toNat_lt
          by_cases h1 : s[k].toNat < 97
          · have HN : Hid (nameB s = false) := nameB_no hlt (by simp [letB]; omega)
            go_wp2
            go_ret
            rw [HN.out]
            exact ⟨rfl, rfl⟩
          · by_cases h2 : 122 < s[k].toNat
            · have HN : Hid (nameB s = false) := nameB_no hlt (by simp [letB]; omega)
              go_wp2
              go_ret
              rw [HN.out]
              exact ⟨rfl, rfl⟩
            · go_wp2
              go_round
              case rel =>
                refine ⟨k + 1, by go_num, by omega, fun j hj hjk => ?_⟩
                by_cases e : j = k
                · subst e; simp [letB]; omega
                · exact HJ.out j hj (by omega)
              case measure => simp [intOf]; omega
        · have HN : Hid (nameB s = true) := by
            rw [Hid, nameB_all (s := s) (fun j hj => HJ.out j hj (by omega)), decide_eq_true_eq]
            omega
          go_wp2
          go_ret
          rw [HN.out]
          exact ⟨rfl, rfl⟩
theorem implVarName_is (s : ByteArray) (b : Bool) (h : nameB s = b) (w : World) :
    Calls Tryz.prog 86 #[.string s] w fun e w' => e = .returned (.bool b) ∧ w' = w := by
  rw [← h]; exact implVarName_any s w

end Go.Proofs.YtofpoiccghpliaaGreatDoor
