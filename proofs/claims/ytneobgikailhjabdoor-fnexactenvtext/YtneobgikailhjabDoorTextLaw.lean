/- The exact law on EnvText, walked. -/
import Derived.Test.YtneobgikailhjabDoorVLaw4
import Derived.Test.YtneobgikailhjabDoorTextI
namespace Go.Proofs.YtneobgikailhjabDoor
open Go.RowKit

theorem fnExactEnvText_walk (v : Value) (xs : List VarD) (w : World) (h : VArg w v xs) (hT : Pow10 w) :
    Calls Tryd.prog 3 #[v] w fun e w' => e = .returned (.bool true) ∧ Below w.heap.size w w' :=
  fnExactEnvText_of Pow10 (fun _ _ h hb => tab_below h hb) (fun v xs w hv ht hr hT => implEnvText_any v xs w hv.1 ht hv.2.2 hr hT) v xs w h hT

end Go.Proofs.YtneobgikailhjabDoor
