/- The exact laws on SetOk and InSet, walked out of contracts. -/
import Derived.Test.YtokgkjfgknjbbaaSetSpec2
namespace Go.Proofs.Ytokgkjfgknjbbaa
open Go.RowKit

theorem fnExactSetOk_walk (s : ByteArray) (_hs : s.size ≤ maxLen) (w : World) :
    Calls Try.prog 3 #[.string s] w fun e w' => e = .returned (.bool true) ∧ Below w.heap.size w w' := by
  by_cases h : s.size ≤ 1048576
  · have HS : Hid (∀ W, _) := fun W => specSetOk_any s W h
    have HI : Hid (∀ W, _) := fun W => implSetOk_any s W
    generalize okL s.data.toList = b at *
    go_enter Try.func3, Try.ntmps3
    go_wp2_with (first
      | (go_at_call 4; refine (HS.out _).mono ?_; rintro e w1 ⟨rfl, hb1⟩)
      | (go_at_call 5; refine (HI.out _).mono ?_; rintro e w2 ⟨rfl, hb2⟩))
    go_ret
    exact ⟨rfl, hb1.trans (hb2.mono hb1.size)⟩
  · have h2 : (1048576 : Int) < s.size := by omega
    go_enter Try.func3, Try.ntmps3
    go_wp2
    go_ret
    exact ⟨rfl, Below.refl _ _⟩


end Go.Proofs.Ytokgkjfgknjbbaa
