/- The law on ReadVar, walked out of the two functions' contracts: it returns true at every text and every int. -/
import Derived.Test.YtocccahgccoimamReadSpec
namespace Go.Proofs.Ytocccahgccoimam
open Go.RowKit

set_option maxRecDepth 100000 in
theorem fnExactReadVar_walk (s : ByteArray) (_hs : s.size ≤ maxLen) (x : Int) (_wf : (Lit.int .i64 x).wf = true) (w : World) :
    Calls Try.prog 4 #[.string s, .int .i64 x] w fun e w' => e = .returned (.bool true) ∧ Below w.heap.size w w' := by
  by_cases h : s.size ≤ 1048576
  · go_enter Try.func4, Try.ntmps4
    go_wp2_with (first
      | (go_at_call 11; refine (specRead_any _ _ _ h).mono ?_; rintro e w1 ⟨rfl, hb1⟩; unfold rvVal)
      | (go_at_call 12; refine (implRead_any _ _ _ h).mono ?_; rintro e w2 ⟨rfl, rfl⟩; unfold rvVal))
    go_ret
    exact ⟨rfl, hb1⟩
  · have h1 : (1048576 : Int) < s.size := by omega
    go_enter Try.func4, Try.ntmps4
    go_wp2
    go_ret
    exact ⟨rfl, Below.refl _ _⟩

end Go.Proofs.Ytocccahgccoimam
