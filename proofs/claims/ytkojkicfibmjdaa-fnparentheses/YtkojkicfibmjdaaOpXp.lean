/- The law FnParentheses, walked. -/
import Derived.Test.YtkojkicfibmjdaaOpV
import Derived.Test.YtkojkicfibmjdaaOpCl
namespace Go.Proofs.Ytkojkicfibmjdaa
open Go.RowKit
theorem fnParentheses_walk (a : Option Addr) (n cap : Nat) (w : World) (hcode : CodeRow w (.slice a n cap) n) :
    Calls Try.prog 4 #[.slice a n cap] w fun e w' => e = .returned (.bool true) ∧ Below w.heap.size w w' :=
  fnParentheses_of a n cap w (fun v xs text W _ hl ht hO hs => implClimb_any v xs text W hl ht hs hO) (fun v xs W _ hl hO hs => implOpsOk_any v xs W hl hs hO) hcode
end Go.Proofs.Ytkojkicfibmjdaa
