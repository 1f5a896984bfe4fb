/- The exact law on CountForest, walked. -/
import Derived.Test.YtpcfcheicdnogaaF14L
import Derived.Test.YtpcfcheicdnogaaWOpen
namespace Go.Proofs.Ytpcfcheicdnogaa
open Go.RowKit
theorem fnExactCountForest_walk (v : Value) (xs : List PartD) (hgt : Int) (_hw : (Lit.int .i64 hgt).wf = true) (w : World) (h : RowC 5 PartE w v xs) (hin : ForestIn xs) :
    Calls Try.prog 3 #[.agg #[v], .int .i64 hgt] w fun e w' => e = .returned (.bool true) ∧ Below w.heap.size w w' :=
  fnExactCountForest_of v xs hgt w (fun v xs W _ ht _ h => implCount14 v xs hgt W ht h) h hin
end Go.Proofs.Ytpcfcheicdnogaa
