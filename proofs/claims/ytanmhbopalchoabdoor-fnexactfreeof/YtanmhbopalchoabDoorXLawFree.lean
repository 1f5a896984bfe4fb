/- The exact law on FreeOf, walked. -/
import Derived.Test.YtanmhbopalchoabDoorXLaw2
import Derived.Test.YtanmhbopalchoabDoorXFreeJ
namespace Go.Proofs.YtanmhbopalchoabDoor
open Go.RowKit
theorem fnExactFreeOf_walk (v : Value) (ns : List NodeD) (w : World) (h : NArg w v ns) (hg : errTy w) :
    Calls Tryd.prog 3 #[.agg #[v]] w fun e w' => e = .returned (.bool true) ∧ Below w.heap.size w w' :=
  fnExactFreeOf_of v ns w (fun v ns W hb _ hv => implFreeOf_any v ns W (hg.below hb) hv) h
end Go.Proofs.YtanmhbopalchoabDoor
