/- FnRuleNames, walked whole. -/
import Derived.Test.YtmacbobobaohgaaRnW
import Derived.Test.YtmacbobobaohgaaAyW
namespace Go.Proofs.Ytmacbobobaohgaa
open Go.RowKit

theorem fnRuleNames_walk (a : Option Addr) (n cap : Nat) (w : World) (hcode : CodeRow w (.slice a n cap) n) :
    Calls Try.prog 3 #[.slice a n cap] w fun e w' => e = .returned (.bool true) ∧ Below w.heap.size w w' :=
  fnRuleNames_of (any06_of _ (fun _ hG => cp_of (rn_of hG).1) hG13) a n cap w hcode

end Go.Proofs.Ytmacbobobaohgaa
