/- The height of a tree, in pure terms. No program is named. -/
import Derived.Test.YtdihemolhdjfeaaTData
namespace Go.Proofs.Ytdihemolhdjfeaa
open Go.RowKit

/-- The greatest height among kids, from n on; none: a kid is not ahead. -/
def kidH (hs : List Int) (n : Int) : List Int → Option Int
  | [] => some n
  | k :: ks => if 0 ≤ k ∧ k ≤ (hs.length : Int) - 1 then kidH hs (if n < hs.getD k.toNat 0 then hs.getD k.toNat 0 else n) ks else none
def highsB (hs : List Int) : List TNodeD → Option (List Int)
  | [] => some hs
  | x :: xs => match kidH hs 0 x.kids with
    | none => none
    | some n => highsB (hs ++ [n + 1]) xs
def lastI (hs : List Int) : Int := hs.getD (hs.length - 1) 0
def heightB (xs : List TNodeD) : Int := match highsB [] xs with | none => 0 | some hs => lastI hs

theorem kidH_drop (hs : List Int) (n : Int) (ks : List Int) (k : Nat) (h : k < ks.length) : kidH hs n (ks.drop k) = if 0 ≤ ks[k] ∧ ks[k] ≤ (hs.length : Int) - 1 then kidH hs (if n < hs.getD ks[k].toNat 0 then hs.getD ks[k].toNat 0 else n) (ks.drop (k + 1)) else none := by
  rw [List.drop_eq_getElem_cons h, kidH]
theorem highsB_drop (hs : List Int) (xs : List TNodeD) (k : Nat) (h : k < xs.length) : highsB hs (xs.drop k) = match kidH hs 0 xs[k].kids with | none => none | some n => highsB (hs ++ [n + 1]) (xs.drop (k + 1)) := by
  rw [List.drop_eq_getElem_cons h, highsB]
theorem kidH_le (hs : List Int) (M : Int) (hh : ∀ y ∈ hs, y ≤ M) : ∀ (ks : List Int) (n m : Int), n ≤ M → kidH hs n ks = some m → m ≤ M
  | [], n, m, h, e => by rw [kidH] at e; cases e; exact h
  | k :: ks, n, m, h, e => by
    rw [kidH] at e
    split at e
    · refine kidH_le hs M hh ks _ m ?_ e
      split
      · rename_i h1 _
        rw [List.getD_eq_getElem?_getD, List.getElem?_eq_getElem (by omega)]
        exact hh _ (List.getElem_mem _)
      · exact h
    · cases e
theorem kidH_ge (hs : List Int) : ∀ (ks : List Int) (n m : Int), kidH hs n ks = some m → n ≤ m
  | [], n, m, e => by rw [kidH] at e; cases e; exact Int.le_refl _
  | k :: ks, n, m, e => by
    rw [kidH] at e
    split at e
    · have := kidH_ge hs ks _ m e
      split at this <;> omega
    · cases e

end Go.Proofs.Ytdihemolhdjfeaa
