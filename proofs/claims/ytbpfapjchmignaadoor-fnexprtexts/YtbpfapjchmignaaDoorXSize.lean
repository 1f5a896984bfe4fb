/- The specification's l04Size: how great an expression is when it is written out, 201 at most. -/
import Derived.Test.YtbpfapjchmignaaDoorXKit
import Derived.Laws.OwnMore
import Derived.Maps.AppendAt
namespace Go.Proofs.YtbpfapjchmignaaDoor
open Go.RowKit

def capI (n : Int) : Int := if 201 < n then 201 else n
def sumK (sz : List Int) (ks : List Int) : Int := ks.foldl (fun n k => n + sz.getD k.toNat 0) 1
def sizesF (ns : List NodeD) : List Int := ns.foldl (fun sz x => sz ++ [capI (sumK sz x.kids)]) []
def sizeB (ns : List NodeD) : Int := (sizesF ns).getD (ns.length - 1) 0
theorem sumK_next (sz ks : List Int) (j : Nat) (h : j < ks.length) : sumK sz (ks.take (j + 1)) = sumK sz (ks.take j) + sz.getD ks[j].toNat 0 := by
  rw [List.take_succ_eq_append_getElem h, sumK, List.foldl_append]
  rfl
theorem sizesF_next (ns : List NodeD) (k : Nat) (h : k < ns.length) : sizesF (ns.take (k + 1)) = sizesF (ns.take k) ++ [capI (sumK (sizesF (ns.take k)) ns[k].kids)] := by
  rw [List.take_succ_eq_append_getElem h, sizesF, List.foldl_append]
  rfl
theorem sizesF_len (ns : List NodeD) : ∀ k, k ≤ ns.length → (sizesF (ns.take k)).length = k
  | 0, _ => rfl
  | k + 1, h => by rw [sizesF_next ns k (by omega), List.length_append, sizesF_len ns k (by omega)]; rfl
theorem getD_in {sz : List Int} (h : ∀ z ∈ sz, 1 ≤ z ∧ z ≤ 201) (k : Nat) : 0 ≤ sz.getD k 0 ∧ sz.getD k 0 ≤ 201 := by
  rw [List.getD_eq_getElem?_getD]
  by_cases hk : k < sz.length
  · rw [List.getElem?_eq_getElem hk]
    have := h _ (List.getElem_mem hk)
    exact ⟨by show 0 ≤ sz[k]; omega, this.2⟩
  · rw [List.getElem?_eq_none (by omega)]
    exact ⟨by decide, by decide⟩
theorem sumK_in {sz : List Int} (h : ∀ z ∈ sz, 1 ≤ z ∧ z ≤ 201) (ks : List Int) : ∀ j, j ≤ ks.length → 1 ≤ sumK sz (ks.take j) ∧ sumK sz (ks.take j) ≤ 1 + 201 * j
  | 0, _ => by rw [List.take_zero]; exact ⟨by show (1 : Int) ≤ 1; omega, by show (1 : Int) ≤ _; omega⟩
  | j + 1, hj => by
    have ih := sumK_in h ks j (by omega)
    have g := getD_in h ks[j].toNat
    rw [sumK_next sz ks j (by omega)]
    omega
theorem sizesF_in (ns : List NodeD) : ∀ k, k ≤ ns.length → ∀ z ∈ sizesF (ns.take k), 1 ≤ z ∧ z ≤ 201
  | 0, _, z, hz => by cases hz
  | k + 1, h, z, hz => by
    have ih := sizesF_in ns k (by omega)
    rw [sizesF_next ns k (by omega)] at hz
    rcases List.mem_append.1 hz with hz | hz
    · exact ih z hz
    · obtain rfl : z = _ := List.mem_singleton.1 hz
      have := sumK_in ih ns[k].kids ns[k].kids.length (Nat.le_refl _)
      rw [List.take_of_length_le (Nat.le_refl _)] at this
      unfold capI
      split <;> omega
theorem one_cellZ (z : Int) : ∀ u ∈ [Value.int .i64 z], u.oneCell' = true := by
  intro u hu
  obtain rfl : u = .int .i64 z := by simpa using hu
  rfl
theorem ownZ_snoc {B : Nat} {o v' : Value} {ys : List Int} {x : Int} {wr w2 : World} {ob : Obj} (hown2 : w2.ownsRow B 3 1 v' (ys.length + 1) (zv ys ++ [.int .i64 x])) (hown : OwnZ B o ys wr) (hgrow : (wr.alloc ob).grownBy w2 o.ownBlock)
    {w : World} (hw : B = w.heap.size) (hb : Below w.heap.size w wr) : OwnZ B v' (ys ++ [x]) w2 ∧ Below w.heap.size w w2 := by
  subst hw
  refine ⟨?_, ?_⟩
  · rw [OwnZ, List.length_append, zv, List.map_append]
    exact hown2
  · exact (hb.alloc hb.size ob).grown hgrow (by have := hb.size; simp; omega) (fun k hk => (World.ownsRow.lt hown k hk).1)


end Go.Proofs.YtbpfapjchmignaaDoor
