/- The law FnExactOpsOk, walked. -/
import Derived.Test.YtiimncfcckippaaOpL
import Derived.Test.YtiimncfcckippaaOpI
namespace Go.Proofs.Ytiimncfcckippaa
open Go.RowKit
set_option linter.unusedVariables false

theorem fnExactOpsOk_walk (v : Value) (xs : List OpD) (w : World) (h : Ops w v xs) (hin : RowInn OpIn xs) :
    Calls Try.prog 3 #[v] w fun e w' => e = .returned (.bool true) ∧ Below w.heap.size w w' :=
  fnExactOpsOk_of v xs w (fun v W _ hl hO => implOpsOk_any v xs W hl (fun x hx => (hin.2 x hx).1) hO) hin h

end Go.Proofs.Ytiimncfcckippaa
