/- The exact law on Ambiguous, walked. -/
import Derived.Test.YtpcfcheicdnogaaF14AL
import Derived.Test.YtpcfcheicdnogaaF14A
import Derived.Test.YtpcfcheicdnogaaWOpen
namespace Go.Proofs.Ytpcfcheicdnogaa
open Go.RowKit
theorem fnExactAmbiguous_walk (v : Value) (xs : List PartD) (w : World) (h : RowC 5 PartE w v xs) (hin : ForestIn xs) :
    Calls Try.prog 5 #[.agg #[v]] w fun e w' => e = .returned (.bool true) ∧ Below w.heap.size w w' :=
  fnExactAmbiguous_of v xs w (fun v xs W _ ht _ h => implAmb14 v xs W ht h) h hin
end Go.Proofs.Ytpcfcheicdnogaa
