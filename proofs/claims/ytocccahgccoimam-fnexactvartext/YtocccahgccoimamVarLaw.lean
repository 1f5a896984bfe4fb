/- The law on VarText, walked out of the two functions' contracts: it returns true at every int. -/
import Derived.Test.YtocccahgccoimamVar
namespace Go.Proofs.Ytocccahgccoimam
open Go.RowKit

theorem fnExactVarText_walk (x : Int) (_wf : (Lit.int .i64 x).wf = true) (w : World) :
    Calls Try.prog 3 #[.int .i64 x] w fun e w' => e = .returned (.bool true) ∧ Below w.heap.size w w' := by

  by_cases h : 0 ≤ x ∧ x ≤ 1000000000
  · obtain ⟨h0, h1⟩ := h
    obtain ⟨n, rfl⟩ := Int.eq_ofNat_of_zero_le h0
    have hn : n ≤ 1000000000 := by omega
    go_enter Try.func3, Try.ntmps3
    go_wp2_with (first
      | (go_at_call 9; refine (specVar_yes _ _ hn).mono ?_; rintro e w1 ⟨rfl, hb1⟩)
      | (go_at_call 10; refine (implVar_yes _ _ hn).mono ?_; rintro e w2 ⟨rfl, hb2⟩))
    go_ret
    exact ⟨rfl, hb1.trans (hb2.mono hb1.size)⟩
  · have hn : x < 0 ∨ 1000000000 < x := by omega
    go_enter Try.func3, Try.ntmps3
    go_wp2_with (first
      | (go_at_call 9; refine (specVar_no _ _ hn).mono ?_; rintro e w1 ⟨rfl, rfl⟩)
      | (go_at_call 10; refine (implVar_no _ _ hn).mono ?_; rintro e w2 ⟨rfl, rfl⟩))
    go_ret
    exact ⟨rfl, Below.refl _ _⟩

end Go.Proofs.Ytocccahgccoimam
