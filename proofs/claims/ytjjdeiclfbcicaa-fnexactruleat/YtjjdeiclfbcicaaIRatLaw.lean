/- The exact law on RuleAt, walked. -/
import Derived.Test.YtjjdeiclfbcicaaGLaw
import Derived.Test.YtjjdeiclfbcicaaIRat
import Derived.Test.YtjjdeiclfbcicaaGOpen
namespace Go.Proofs.Ytjjdeiclfbcicaa
open Go.RowKit
theorem fnExactRuleAt_walk (v : Value) (xs : List RuleD) (name : ByteArray) (hs : name.size ≤ maxLen) (w : World) (h : RowC 3 RuleE w v xs) (hin : GrammarIn xs) :
    Calls Try.prog 4 #[.agg #[v], .string name] w fun e w' => e = .returned (.bool true) ∧ Below w.heap.size w w' :=
  fnExactRuleAt_of v xs name hs w (fun v xs name W _ ht _ h => implRuleAt_any v xs name W (Nat.le_trans (rowTot_len ruleTot xs) ht) h) h hin
end Go.Proofs.Ytjjdeiclfbcicaa
