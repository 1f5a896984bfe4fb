/- The exact law on ExprOk, walked. -/
import Derived.Test.YtanmhbopalchoaaDoorXLaw
import Derived.Test.YtanmhbopalchoaaDoorXParts
namespace Go.Proofs.YtanmhbopalchoaaDoor
open Go.RowKit
theorem fnExactExprOk_walk (v : Value) (ns : List NodeD) (w : World) (h : NArg w v ns) (hg : errTy w) :
    Calls Tryd.prog 6 #[.agg #[v]] w fun e w' => e = .returned (.bool true) ∧ Below w.heap.size w w' :=
  fnExactExprOk_of v ns w (fun v ns W hb _ hv => implExprOk_any v ns W (hg.below hb) hv) h
end Go.Proofs.YtanmhbopalchoaaDoor
