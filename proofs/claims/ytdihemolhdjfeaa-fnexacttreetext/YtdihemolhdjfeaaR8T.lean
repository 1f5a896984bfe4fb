/- What is told of a tree, in pure terms. No program is named. -/
import Derived.Test.YtdihemolhdjfeaaTData
namespace Go.Proofs.Ytdihemolhdjfeaa
open Go.RowKit

def openP : ByteArray := ⟨#[40]⟩
def shutP : ByteArray := ⟨#[41]⟩
def blankP : ByteArray := ⟨#[32]⟩
/-- Kids' texts, one behind the other, a blank between them; none: a kid is not ahead. -/
def kidT (ts : List ByteArray) : Nat → ByteArray → List Int → Option ByteArray
  | _, s, [] => some s
  | j, s, k :: ks => if 0 ≤ k ∧ k ≤ (ts.length : Int) - 1 then kidT ts (j + 1) ((if 0 < j then s ++ blankP else s) ++ ts.getD k.toNat ⟨#[]⟩) ks else none
def textsB (g : List RuleD) (ts : List ByteArray) : List TNodeD → Option (List ByteArray)
  | [] => some ts
  | x :: xs => if 0 ≤ x.rule ∧ x.rule ≤ (g.length : Int) - 1 then
      match kidT ts 0 ((g.getD x.rule.toNat default).name ++ openP) x.kids with
      | none => none
      | some s => if 2000 < (s ++ shutP).size then none else textsB g (ts ++ [s ++ shutP]) xs
    else none
def lastT (ts : List ByteArray) : ByteArray := ts.getD (ts.length - 1) ⟨#[]⟩
def treeTextB (g : List RuleD) (xs : List TNodeD) : ByteArray := match textsB g [] xs with | none => ⟨#[]⟩ | some ts => lastT ts

theorem kidT_drop (ts : List ByteArray) (s : ByteArray) (ks : List Int) (k : Nat) (h : k < ks.length) : kidT ts k s (ks.drop k) = if 0 ≤ ks[k] ∧ ks[k] ≤ (ts.length : Int) - 1 then kidT ts (k + 1) ((if 0 < k then s ++ blankP else s) ++ ts.getD ks[k].toNat ⟨#[]⟩) (ks.drop (k + 1)) else none := by
  rw [List.drop_eq_getElem_cons h, kidT]
theorem textsB_drop (g : List RuleD) (ts : List ByteArray) (xs : List TNodeD) (k : Nat) (h : k < xs.length) : textsB g ts (xs.drop k) = if 0 ≤ xs[k].rule ∧ xs[k].rule ≤ (g.length : Int) - 1 then
      match kidT ts 0 ((g.getD xs[k].rule.toNat default).name ++ openP) xs[k].kids with
      | none => none
      | some s => if 2000 < (s ++ shutP).size then none else textsB g (ts ++ [s ++ shutP]) (xs.drop (k + 1))
    else none := by
  rw [List.drop_eq_getElem_cons h, textsB]

end Go.Proofs.Ytdihemolhdjfeaa
