/- The specification's l04Marks, walked. -/
import Derived.Test.YtokgkjfgknjbbaaDoorXMarks
import Derived.OwnWalk
namespace Go.Proofs.YtokgkjfgknjbbaaDoor
open Go.RowKit

theorem Tryd.infoBool : (Tryd.prog.info? 4).map (fun i => (i.zero, i.size, i.bytes)) = some (some (.bool false), 1, 1) := by kernel_rfl
theorem far_cell {w : World} {b g k : Nat} {x u : Value} (h : w.cell? ⟨b, 0, none⟩ = some x) (hne : g ≠ b) : (w.setCell ⟨g, k, none⟩ u).cell? ⟨b, 0, none⟩ = some x := by
  rw [World.cell?_setCell_far _ _ _ _ hne]; exact h

theorem made_flags {B g n : Nat} {w : World} (h : w.ownsRow B 4 1 (.slice (some ⟨g, 0, none⟩) n n) n (madeCells (Value.bool false).cells (n * 1)).toList) : OwnF B (.slice (some ⟨g, 0, none⟩) n n) (List.replicate n false) w := by
  rw [Nat.mul_one, show (Value.bool false).cells = #[.bool false] from rfl, toList_madeCells_one] at h
  unfold OwnF
  rw [fv, List.map_replicate, List.length_replicate]
  exact h


end Go.Proofs.YtokgkjfgknjbbaaDoor
