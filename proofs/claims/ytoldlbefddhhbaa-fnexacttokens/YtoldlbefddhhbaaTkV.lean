/- The exact law on Tokens, walked. -/
import Derived.Test.YtoldlbefddhhbaaTkO
import Derived.Test.YtoldlbefddhhbaaTkL
namespace Go.Proofs.Ytoldlbefddhhbaa
open Go.RowKit
theorem fnExactTokens_walk (s : ByteArray) (hs : s.size ≤ maxLen) (w : World) :
    Calls Try.prog 3 #[.string s] w fun e w' => e = .returned (.bool true) ∧ Below w.heap.size w w' :=
  fnExactTokens_of s hs w (implTokens_any s)
end Go.Proofs.Ytoldlbefddhhbaa
