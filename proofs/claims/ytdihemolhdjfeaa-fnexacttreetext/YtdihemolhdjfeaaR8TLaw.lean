/- The exact law on TreeText, walked. -/
import Derived.Test.YtdihemolhdjfeaaR8TL
import Derived.Test.YtdihemolhdjfeaaR8TW
import Derived.Test.YtdihemolhdjfeaaGOpen
import Derived.Test.YtdihemolhdjfeaaTOpen
namespace Go.Proofs.Ytdihemolhdjfeaa
open Go.RowKit
theorem fnExactTreeText_walk (gv : Value) (g : List RuleD) (v : Value) (xs : List TNodeD) (w : World) (hg : RowC 3 RuleE w gv g) (hgin : GrammarIn g) (h : RowC 6 TreeNodeE w v xs) (hin : TreeIn xs) :
    Calls Try.prog 3 #[.agg #[gv], .agg #[v]] w fun e w' => e = .returned (.bool true) ∧ Below w.heap.size w w' :=
  fnExactTreeText_of gv v g xs w (fun gv v W _ hg ht _ _ h' h => implTreeText_any gv v g xs W hg ht h' h) hg hgin h hin
end Go.Proofs.Ytdihemolhdjfeaa
