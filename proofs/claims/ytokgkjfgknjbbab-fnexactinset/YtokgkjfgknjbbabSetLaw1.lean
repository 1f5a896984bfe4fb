/- The exact laws on SetOk and InSet, walked out of contracts. -/
import Derived.Test.YtokgkjfgknjbbabSetSpec2
import Derived.OpenShut
namespace Go.Proofs.Ytokgkjfgknjbbab
open Go.RowKit Go.WideShapes Go.ChangeShapes


theorem fnExactInSet_walk (s : ByteArray) (_hs : s.size ≤ maxLen) (z : Int) (hz : (Lit.int .u8 z).wf = true) (w : World) :
    Calls Try.prog 3 #[.string s, .int .u8 z] w fun e w' => e = .returned (.bool true) ∧ Below w.heap.size w w' := by
  obtain ⟨b, rfl, hb⟩ : ∃ b : Nat, z = (b : Int) ∧ b < 256 := by
    have := bounds_u8 hz
    exact ⟨z.toNat, by omega, by omega⟩
  clear hz
  by_cases h : s.size ≤ 1048576
  · have HS : Hid (∀ W, _) := fun W => specInSet_any s b hb W h
    have HI : Hid (∀ W, _) := fun W => implInSet_any s b hb W
    generalize inL s.data.toList b = x at *
    go_enter Try.func3, Try.ntmps3
    go_wp2_with (first
      | (go_at_call 4; refine (HS.out _).mono ?_; rintro e w1 ⟨rfl, hb1⟩)
      | (go_at_call 5; refine (HI.out _).mono ?_; rintro e w2 ⟨rfl, hb2⟩))
    go_ret
    exact ⟨rfl, hb1.trans (hb2.mono hb1.size)⟩
  · have h2 : (1048576 : Int) < s.size := by omega
    go_enter Try.func3, Try.ntmps3
    go_wp2
    go_ret
    exact ⟨rfl, Below.refl _ _⟩

end Go.Proofs.Ytokgkjfgknjbbab
