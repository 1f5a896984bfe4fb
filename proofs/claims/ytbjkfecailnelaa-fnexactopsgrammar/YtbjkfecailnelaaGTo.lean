/- The laws' helpers on grammars: copied into memory of their own (printed by mk/gkit.py). -/
import Derived.Test.YtbjkfecailnelaaGData
import Derived.Test.YtbjkfecailnelaaXKit3
namespace Go.Proofs.Ytbjkfecailnelaa
open Go.RowKit

theorem fresh_sRow {B : Nat} {v : Value} {xs : List ByteArray} {w : World} (h : OwnB B v xs w) : Fresh B w fun W => SRow W v xs := by
  intro W h1 h2
  obtain ⟨a, cap, rfl, hcap, hh⟩ := h.row
  refine ⟨a, cap, rfl, hcap, fun h0 => ?_⟩
  obtain ⟨b, off, rfl, hlt, hc⟩ := hh h0
  have hb : B ≤ b := by
    rcases h.2 with ⟨h', _⟩ | ⟨g, cap', cur, h', hg, _⟩
    · cases h'
    · cases h'; exact hg
  exact ⟨b, off, rfl, Nat.lt_of_lt_of_le hlt h1, fun i hi => (World.cell?_of_block (h2 b hb hlt)).trans (hc i hi)⟩
theorem fresh_iRow {B : Nat} {v : Value} {ks : List Int} {w : World} (h : OwnZ B v ks w) : Fresh B w fun W => IRow W v ks := by
  intro W h1 h2
  obtain ⟨a, cap, rfl, hcap, hh⟩ := h.row
  refine ⟨a, cap, rfl, hcap, fun h0 => ?_⟩
  obtain ⟨b, off, rfl, hlt, hc⟩ := hh h0
  have hb : B ≤ b := by
    rcases h.2 with ⟨h', _⟩ | ⟨g, cap', cur, h', hg, _⟩
    · cases h'
    · cases h'; exact hg
  exact ⟨b, off, rfl, Nat.lt_of_lt_of_le hlt h1, fun i hi => (World.cell?_of_block (h2 b hb hlt)).trans (hc i hi)⟩
theorem fresh_nRow {B : Nat} {v : Value} {ns : List NodeD} {w : World} (h : OwnN B v ns w) : Fresh B w fun W => NRow W v ns := by
  intro W h1 h2
  obtain ⟨qs, rfl, ho, hk⟩ := h
  have hl : (qs.map (·.1)).length = qs.length := by simp
  rcases ho.2 with ⟨rfl, hz⟩ | ⟨g, cap, cur, rfl, hB, hc, hle, hm, hs, ht⟩
  · exact ⟨none, 0, by rw [hl, hz], fun _ => rfl, fun h0 => by rw [hl] at h0; omega⟩
  · have hg := (World.ownsRow.lt ho g rfl).2
    refine ⟨some ⟨g, 0, none⟩, cap, by rw [hl], fun h => (by cases h), fun _ => ⟨g, 0, rfl, Nat.lt_of_lt_of_le hg h1, fun i hi => ?_⟩⟩
    have key : ∀ j u, (nv qs)[j]? = some u → W.cell? ⟨g, 0 + j, none⟩ = some u := fun j u hu => by
      have := World.ownsRow.cells ho (g := g) rfl j u hu
      rw [Addr.add_lit] at this
      exact (World.cell?_of_block (h2 g hB hg)).trans this
    rw [hl] at hi
    have := nv_at qs i hi
    refine ⟨qs[i].2, ?_⟩
    rw [List.getElem_map]
    exact ⟨key _ _ this.1, by rw [Nat.add_assoc]; exact key _ _ this.2.1, by rw [Nat.add_assoc]; exact key _ _ this.2.2.1, by rw [Nat.add_assoc]; exact key _ _ this.2.2.2, fresh_iRow (hk _ (List.getElem_mem hi)) W h1 h2⟩


/-- A block that is written into. -/
theorem block_set {w : World} {b j : Nat} {vs : Array Value} {t : TypeId} {u : Value} (h : w.heap[b]? = some (.cells vs t)) : (w.setCell ⟨b, j, none⟩ u).heap[b]? = some (.cells (vs.setIfInBounds j u) t) := by
  simp only [World.setCell]
  rw [Array.getElem?_modify, if_pos rfl, h]
  rfl
theorem block_other {w : World} {b b' j : Nat} {u : Value} (hne : b' ≠ b) : (w.setCell ⟨b', j, none⟩ u).heap[b]? = w.heap[b]? := by
  simp only [World.setCell]
  rw [Array.getElem?_modify, if_neg hne]
theorem cell_block {w : World} {b j : Nat} {vs : Array Value} {t : TypeId} {u : Value} (h : w.heap[b]? = some (.cells vs t)) (hj : vs[j]? = some u) : w.cell? ⟨b, j, none⟩ = some u := by
  rw [cell_of_row _ _ j _ _ _ h]
  exact hj
theorem frozen_block {w : World} {b j : Nat} {vs : Array Value} {t : TypeId} (h : w.heap[b]? = some (.cells vs t)) : w.frozen? ⟨b, j, none⟩ = false := by
  unfold World.frozen?
  rw [h]
  rfl
theorem box_three (w : World) (x y z : Array Value) (s t : TypeId) {B : Nat} (hB : w.heap.size = B) :
    (((w.alloc (.cells x s)).alloc (.cells y t)).alloc (.cells z t)).heap[B]? = some (.cells x s) ∧ (((w.alloc (.cells x s)).alloc (.cells y t)).alloc (.cells z t)).heap[B + 1]? = some (.cells y t) ∧ (((w.alloc (.cells x s)).alloc (.cells y t)).alloc (.cells z t)).heap[B + 2]? = some (.cells z t) := by
  subst hB
  have e1 : (w.alloc (.cells x s)).heap.size = w.heap.size + 1 := by simp
  have e2 : ((w.alloc (.cells x s)).alloc (.cells y t)).heap.size = w.heap.size + 2 := by simp
  refine ⟨?_, ?_, ?_⟩
  · rw [Below.heap_alloc _ _ _ (by rw [e2]; omega), Below.heap_alloc _ _ _ (by rw [e1]; omega)]
    exact heap_alloc_new w _
  · rw [Below.heap_alloc _ _ _ (by rw [e2]; omega)]
    have := heap_alloc_new (w.alloc (.cells x s)) (.cells y t)
    rwa [e1] at this
  · have := heap_alloc_new ((w.alloc (.cells x s)).alloc (.cells y t)) (.cells z t)
    rwa [e2] at this









end Go.Proofs.Ytbjkfecailnelaa
