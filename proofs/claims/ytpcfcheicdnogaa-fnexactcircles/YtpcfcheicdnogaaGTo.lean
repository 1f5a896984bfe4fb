/- The laws' helpers on grammars: copied into memory of their own (printed by mk/gkit.py). -/
import Derived.Test.YtpcfcheicdnogaaGData
import Derived.Test.YtpcfcheicdnogaaXKit3
namespace Go.Proofs.Ytpcfcheicdnogaa
open Go.RowKit

theorem fresh_sRow {B : Nat} {v : Value} {xs : List ByteArray} {w : World} (h : OwnB B v xs w) : Fresh B w fun W => SRow W v xs := by
  intro W h1 h2
  obtain ⟨a, cap, rfl, hcap, hh⟩ := h.row
  refine ⟨a, cap, rfl, hcap, fun h0 => ?_⟩
  obtain ⟨b, off, rfl, hlt, hc⟩ := hh h0
  have hb : B ≤ b := by
    rcases h.2 with ⟨h', _⟩ | ⟨g, cap', cur, h', hg, _⟩
    · cases h'
    · cases h'; exact hg
  exact ⟨b, off, rfl, Nat.lt_of_lt_of_le hlt h1, fun i hi => (World.cell?_of_block (h2 b hb hlt)).trans (hc i hi)⟩
theorem fresh_iRow {B : Nat} {v : Value} {ks : List Int} {w : World} (h : OwnZ B v ks w) : Fresh B w fun W => IRow W v ks := by
  intro W h1 h2
  obtain ⟨a, cap, rfl, hcap, hh⟩ := h.row
  refine ⟨a, cap, rfl, hcap, fun h0 => ?_⟩
  obtain ⟨b, off, rfl, hlt, hc⟩ := hh h0
  have hb : B ≤ b := by
    rcases h.2 with ⟨h', _⟩ | ⟨g, cap', cur, h', hg, _⟩
    · cases h'
    · cases h'; exact hg
  exact ⟨b, off, rfl, Nat.lt_of_lt_of_le hlt h1, fun i hi => (World.cell?_of_block (h2 b hb hlt)).trans (hc i hi)⟩

/-- A block that is written into. -/
theorem block_set {w : World} {b j : Nat} {vs : Array Value} {t : TypeId} {u : Value} (h : w.heap[b]? = some (.cells vs t)) : (w.setCell ⟨b, j, none⟩ u).heap[b]? = some (.cells (vs.setIfInBounds j u) t) := by
  simp only [World.setCell]
  rw [Array.getElem?_modify, if_pos rfl, h]
  rfl
theorem block_other {w : World} {b b' j : Nat} {u : Value} (hne : b' ≠ b) : (w.setCell ⟨b', j, none⟩ u).heap[b]? = w.heap[b]? := by
  simp only [World.setCell]
  rw [Array.getElem?_modify, if_neg hne]
theorem cell_block {w : World} {b j : Nat} {vs : Array Value} {t : TypeId} {u : Value} (h : w.heap[b]? = some (.cells vs t)) (hj : vs[j]? = some u) : w.cell? ⟨b, j, none⟩ = some u := by
  rw [cell_of_row _ _ j _ _ _ h]
  exact hj
theorem frozen_block {w : World} {b j : Nat} {vs : Array Value} {t : TypeId} (h : w.heap[b]? = some (.cells vs t)) : w.frozen? ⟨b, j, none⟩ = false := by
  unfold World.frozen?
  rw [h]
  rfl
theorem box_three (w : World) (x y z : Array Value) (s t : TypeId) {B : Nat} (hB : w.heap.size = B) :
    (((w.alloc (.cells x s)).alloc (.cells y t)).alloc (.cells z t)).heap[B]? = some (.cells x s) ∧ (((w.alloc (.cells x s)).alloc (.cells y t)).alloc (.cells z t)).heap[B + 1]? = some (.cells y t) ∧ (((w.alloc (.cells x s)).alloc (.cells y t)).alloc (.cells z t)).heap[B + 2]? = some (.cells z t) := by
  subst hB
  have e1 : (w.alloc (.cells x s)).heap.size = w.heap.size + 1 := by simp
  have e2 : ((w.alloc (.cells x s)).alloc (.cells y t)).heap.size = w.heap.size + 2 := by simp
  refine ⟨?_, ?_, ?_⟩
  · rw [Below.heap_alloc _ _ _ (by rw [e2]; omega), Below.heap_alloc _ _ _ (by rw [e1]; omega)]
    exact heap_alloc_new w _
  · rw [Below.heap_alloc _ _ _ (by rw [e2]; omega)]
    have := heap_alloc_new (w.alloc (.cells x s)) (.cells y t)
    rwa [e1] at this
  · have := heap_alloc_new ((w.alloc (.cells x s)).alloc (.cells y t)) (.cells z t)
    rwa [e2] at this









end Go.Proofs.Ytpcfcheicdnogaa
