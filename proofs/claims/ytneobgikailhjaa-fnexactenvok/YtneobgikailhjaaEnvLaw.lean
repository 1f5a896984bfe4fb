/- The exact laws on VarName and EnvOk, walked. -/
import Derived.Test.YtneobgikailhjaaEnvImpl
import Derived.Test.YtneobgikailhjaaVLaw
namespace Go.Proofs.Ytneobgikailhjaa
open Go.RowKit

theorem fnExactVarName_walk (s : ByteArray) (_hs : s.size ≤ maxLen) (w : World) :
    Calls Try.prog 6 #[.string s] w fun e w' => e = .returned (.bool true) ∧ Below w.heap.size w w' := by
  by_cases hz : s.size ≤ 1048576
  · have H1 : Hid (∀ W, _) := fun W => specVarName_any s W hz
    have H2 : Hid (∀ W, _) := fun W => implVarName_any s W
    generalize nameB s = bb at *
    have i1 : ¬ (1048576 : Int) < s.size := by omega
    go_enter Try.func6, Try.ntmps6
    go_wp2_with fail
    refine (H1.out _).mono ?_
    rintro e wq ⟨rfl, hw⟩
    rw [hw]
    clear hw wq
    go_wp2_with fail
    refine (H2.out _).mono ?_
    rintro e wq ⟨rfl, hw⟩
    rw [hw]
    clear hw wq
    go_wp2
    go_ret
    exact ⟨rfl, Below.refl _ _⟩
  · have i1 : (1048576 : Int) < s.size := by omega
    go_enter Try.func6, Try.ntmps6
    go_wp2
    go_ret
    exact ⟨rfl, Below.refl _ _⟩

theorem fnExactEnvOk_walk (v : Value) (xs : List VarD) (w : World) (h : VArg w v xs) :
    Calls Try.prog 7 #[v] w fun e w' => e = .returned (.bool true) ∧ Below w.heap.size w w' :=
  fnExactEnvOk_of (fun v xs w hv hr => implEnvOk_any v xs w (by have := hv.1; omega) hr) v xs w h

end Go.Proofs.Ytneobgikailhjaa
