/- The laws FnExactClimb, FnSides and FnParentheses, walked. -/
import Derived.Test.YtkojkicfibmjdaaOpL
import Derived.Test.YtkojkicfibmjdaaOpCl
namespace Go.Proofs.Ytkojkicfibmjdaa
open Go.RowKit
set_option linter.unusedVariables false

theorem fnExactClimb_walk (v : Value) (xs : List OpD) (text : ByteArray) (htx : text.size ≤ maxLen) (w : World) (h : Ops w v xs) (hin : RowInn OpIn xs) :
    Calls Try.prog 5 #[v, .string text] w fun e w' => e = .returned (.bool true) ∧ Below w.heap.size w w' :=
  fnExactClimb_of v xs text w (fun v W _ hl ht hO => implClimb_any v xs text W hl ht (fun x hx => (hin.2 x hx).1) hO) hin htx h

end Go.Proofs.Ytkojkicfibmjdaa
