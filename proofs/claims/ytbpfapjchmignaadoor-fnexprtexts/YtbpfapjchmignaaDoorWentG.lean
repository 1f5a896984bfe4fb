/- A draw that went on to a list that has grown. -/
import Derived.Test.YtbpfapjchmignaaDoorDraw3
namespace Go.Proofs.YtbpfapjchmignaaDoor
open Go.RowKit

theorem went_grown {W : World} {v : Value} {n g : Nat} {w w1 w2 : World} {row : Option Nat} (h : Went W v n g w w1) (hgr : w1.grownBy w2 row) (hr : ∀ k, row = some k → w.heap.size ≤ k) (hg : g < w.heap.size) : Went W v n g w w2 := by
  have hgl : g < w1.heap.size := h.1.lt
  have hs := h.2.size
  refine ⟨h.1.moved ?_ (hgr.block g hgl (fun e => by have := hr g e.symm; omega)), ?_⟩
  · have hW := h.1.1
    exact ⟨hgr.os.trans hW.os, hgr.tape.trans hW.tape, hgr.output.trans hW.output, Nat.le_trans hW.size hgr.size, fun j hj => (hgr.block j (Nat.lt_of_lt_of_le hj hW.size) (fun e => by have h1 := hr j e.symm; have h2 := h.1.2.1; omega)).trans (hW.block j hj)⟩
  · exact ⟨hgr.os.trans h.2.os, hgr.tape.trans h.2.tape, hgr.output.trans h.2.output, Nat.le_trans hs hgr.size, fun j hj he => (hgr.block j (by omega) (fun e => by have := hr j e.symm; omega)).trans (h.2.block j hj he)⟩

end Go.Proofs.YtbpfapjchmignaaDoor
