/- The exact law on EvalExpr, walked. -/
import Derived.Test.YtanmhbopalchoaaDoorXLaw
import Derived.Test.YtanmhbopalchoaaDoorXEvalI
namespace Go.Proofs.YtanmhbopalchoaaDoor
open Go.RowKit
theorem fnExactEvalExpr_walk (v : Value) (ns : List NodeD) (u : Value) (xs : List VarD) (here : Int) (wf : (Lit.int .i64 here).wf = true) (w : World) (h : NArg w v ns) (h' : VArg w u xs) (hg : errTy w) :
    Calls Tryd.prog 7 #[.agg #[v], u, .int .i64 here] w fun e w' => e = .returned (.bool true) ∧ Below w.heap.size w w' :=
  fnExactEvalExpr_of v ns u xs here wf w (fun v u ns xs here W hb _ hxs _ hv hu => implEvalExpr_any v u ns xs here W (hg.below hb) hxs.1 hv hu) h h'
end Go.Proofs.YtanmhbopalchoaaDoor
