/- The verifier's texts of grammars: one of thirteen, parted into the grammar's text and its letters. -/
import Derived.Test.YtkojkicfibmjdaaDraw3
namespace Go.Proofs.Ytkojkicfibmjdaa
open Go.RowKit
set_option linter.unusedVariables false

/-- Each cell a text that is not empty and no longer than m. -/
def textsIn (m : Nat) (cs : Array Value) : Bool := cs.toList.all fun v => match v with | .string s => decide (s.size ≤ m) | _ => false
theorem textsIn_at {m : Nat} {cs : Array Value} (h : textsIn m cs = true) {i : Nat} (hi : i < cs.size) : ∃ s : ByteArray, cs[i]? = some (.string s) ∧ s.size ≤ m := by
  unfold textsIn at h
  rw [List.all_eq_true] at h
  have := h cs[i] (Array.getElem_mem_toList hi)
  rw [Array.getElem?_eq_getElem hi]
  generalize cs[i] = v at *
  cases v <;> simp at this ⊢
  exact this
theorem texts_row (w : World) (cs : Array Value) (t : TypeId) (m : Nat) (h : textsIn m cs = true) : ∀ i, i < cs.size → ∃ y : ByteArray, (w.alloc (.cells cs t)).cell? ⟨w.heap.size, i, none⟩ = some (.string y) ∧ y.size ≤ m := by
  intro i hi
  obtain ⟨s, h1, h2⟩ := textsIn_at h hi
  refine ⟨s, ?_, h2⟩
  have := World.news_of_block (heap_alloc_new w (.cells cs t)) i (.string s) (by simpa using h1)
  rw [Addr.add_lit, Nat.zero_add] at this
  exact this



end Go.Proofs.Ytkojkicfibmjdaa
