/- ExprOk of the specification. -/
import Derived.Test.YtbjkfecailnelaaXPure
import Derived.Test.YtbjkfecailnelaaVKit
namespace Go.Proofs.Ytbjkfecailnelaa
open Go.RowKit


theorem nodeB_op {i : Nat} {x : NodeD} (h : inI x.op 1 11 = false) : nodeB i x = false := by rw [nodeB, h]; rfl
theorem nodeB_len {i : Nat} {x : NodeD} (h : ¬ (x.kids.length : Int) = kidsN x.op) : nodeB i x = false := by rw [nodeB, decide_eq_false h]; simp
theorem nodeB_fields {i : Nat} {x : NodeD} (h : fieldsB x = false) : nodeB i x = false := by rw [nodeB, h]; simp
theorem nodeB_kid {i j : Nat} {x : NodeD} (hj : j < x.kids.length) (h : inI x.kids[j] 0 ((i : Int) - 1) = false) : nodeB i x = false := by
  have : kidsB i x.kids = false := by
    cases hh : kidsB i x.kids with
    | false => rfl
    | true => rw [kidsB, List.all_eq_true] at hh; rw [hh _ (List.getElem_mem hj)] at h; cases h
  rw [nodeB, this, Bool.and_false]
theorem nodeB_yes {i : Nat} {x : NodeD} (h1 : inI x.op 1 11 = true) (h2 : (x.kids.length : Int) = kidsN x.op) (h3 : fieldsB x = true) (h4 : ∀ j (hj : j < x.kids.length), inI x.kids[j] 0 ((i : Int) - 1) = true) : nodeB i x = true := by
  have : kidsB i x.kids = true := by
    rw [kidsB, List.all_eq_true]
    intro k hk
    obtain ⟨j, hj, rfl⟩ := List.getElem_of_mem hk
    exact h4 j hj
  rw [nodeB, h1, decide_eq_true h2, h3, this]
  rfl
theorem beq_empty {s : ByteArray} (h : s = ⟨#[]⟩) : (s.toList == []) = true := by subst h; rw [ByteArray.toList_eq]; rfl
theorem beq_full {s : ByteArray} (h : ¬ s = ⟨#[]⟩) : (s.toList == []) = false := by
  have := beq_no h
  rwa [show (⟨#[]⟩ : ByteArray).toList = [] by rw [ByteArray.toList_eq]] at this
theorem lit_four (w : World) (x y z u : Value) (t : TypeId) : (w.alloc (.cells #[x, y, z, u] t)).cell? ⟨w.heap.size, 0, none⟩ = some x ∧ (w.alloc (.cells #[x, y, z, u] t)).cell? ⟨w.heap.size, 1, none⟩ = some y ∧ (w.alloc (.cells #[x, y, z, u] t)).cell? ⟨w.heap.size, 2, none⟩ = some z ∧ (w.alloc (.cells #[x, y, z, u] t)).cell? ⟨w.heap.size, 3, none⟩ = some u := by
  have hb : (w.alloc (.cells #[x, y, z, u] t)).heap[w.heap.size]? = some (.cells #[x, y, z, u] t) := heap_alloc_new w _
  exact ⟨by rw [cell_of_row _ _ 0 _ _ _ hb]; rfl, by rw [cell_of_row _ _ 1 _ _ _ hb]; rfl, by rw [cell_of_row _ _ 2 _ _ _ hb]; rfl, by rw [cell_of_row _ _ 3 _ _ _ hb]; rfl⟩
theorem lit_one (w : World) (x : Value) (t : TypeId) : (w.alloc (.cells #[x] t)).cell? ⟨w.heap.size, 0, none⟩ = some x := by
  have hb : (w.alloc (.cells #[x] t)).heap[w.heap.size]? = some (.cells #[x] t) := heap_alloc_new w _
  rw [cell_of_row _ _ 0 _ _ _ hb]; rfl

/-- Lists of nodes within the laws' bounds. -/
def NIn (ns : List NodeD) : Prop := ns.length ≤ 1048576 ∧ ∀ x ∈ ns, x.name.size ≤ 1048576 ∧ x.kids.length ≤ 1048576 ∧ i64 x.op ∧ i64 x.num ∧ ∀ k ∈ x.kids, i64 k


end Go.Proofs.Ytbjkfecailnelaa
