/- The exact law on BindNum, walked. -/
import Derived.Test.YtkolbofibncjdaaBNI
namespace Go.Proofs.Ytkolbofibncjdaa
open Go.RowKit
theorem fnExactBindNum_walk (s : ByteArray) (_hs : s.size ≤ maxLen) (w : World) :
    Calls Try.prog 3 #[.string s] w fun e w' => e = .returned (.bool true) ∧ Below w.heap.size w w' := by
  by_cases hz : s.size ≤ 1048576
  · have H1 : Hid (∀ W, _) := fun W => bindNum_any s W hz
    have H2 : Hid (∀ W, _) := fun W => implBindNum_any s W hz
    generalize bindNum s = bb at *
    have i1 : ¬ (1048576 : Int) < s.size := by omega
    go_enter Try.func3, Try.ntmps3
    go_wp2_with fail
    refine (H1.out _).mono ?_
    rintro e wq ⟨rfl, hw⟩
    rw [hw]
    clear hw wq
    go_wp2_with fail
    refine (H2.out _).mono ?_
    rintro e wq ⟨rfl, hw⟩
    rw [hw]
    clear hw wq
    go_wp2
    go_ret
    exact ⟨rfl, Below.refl _ _⟩
  · have i1 : (1048576 : Int) < s.size := by omega
    go_enter Try.func3, Try.ntmps3
    go_wp2
    go_ret
    exact ⟨rfl, Below.refl _ _⟩
end Go.Proofs.Ytkolbofibncjdaa
