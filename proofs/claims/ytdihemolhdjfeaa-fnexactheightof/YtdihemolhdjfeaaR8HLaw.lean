/- The exact law on HeightOf, walked. -/
import Derived.Test.YtdihemolhdjfeaaR8HL
import Derived.Test.YtdihemolhdjfeaaR8HI
import Derived.Test.YtdihemolhdjfeaaTOpen
namespace Go.Proofs.Ytdihemolhdjfeaa
open Go.RowKit
theorem fnExactHeightOf_walk (v : Value) (xs : List TNodeD) (w : World) (h : RowC 6 TreeNodeE w v xs) (hin : TreeIn xs) :
    Calls Try.prog 4 #[.agg #[v]] w fun e w' => e = .returned (.bool true) ∧ Below w.heap.size w w' :=
  fnExactHeightOf_of v xs w (fun v xs W _ ht _ h => implHeight_any v xs W ht h) h hin
end Go.Proofs.Ytdihemolhdjfeaa
