/- The exact law on Circles, walked. -/
import Derived.Test.YtpcfcheicdnogaaF14CL
import Derived.Test.YtpcfcheicdnogaaF14CI
import Derived.Test.YtpcfcheicdnogaaWOpen
namespace Go.Proofs.Ytpcfcheicdnogaa
open Go.RowKit
theorem fnExactCircles_walk (v : Value) (xs : List PartD) (w : World) (h : RowC 5 PartE w v xs) (hin : ForestIn xs) :
    Calls Try.prog 4 #[.agg #[v]] w fun e w' => e = .returned (.bool true) ∧ Below w.heap.size w w' :=
  fnExactCircles_of v xs w (fun v xs W _ ht _ h => implCircles14 v xs W ht h) h hin
end Go.Proofs.Ytpcfcheicdnogaa
