/- The exact law on ShowExpr, walked. -/
import Derived.Test.YtanmhbopalchoabDoorXLaw3
import Derived.Test.YtanmhbopalchoabDoorXShowI
namespace Go.Proofs.YtanmhbopalchoabDoor
open Go.RowKit
theorem fnExactShowExpr_walk (v : Value) (ns : List NodeD) (w : World) (h : NArg w v ns) (hg : errTy w) :
    Calls Tryd.prog 4 #[.agg #[v]] w fun e w' => e = .returned (.bool true) ∧ Below w.heap.size w w' :=
  fnExactShowExpr_of v ns w (fun v ns W hb _ hv => implShowExpr_any v ns W (hg.below hb) hv) h
end Go.Proofs.YtanmhbopalchoabDoor
