/- Lists of names with numbers, as they lie in memory. -/
import Derived.Test.YtbjkfecailnelaaRows
import Derived.Test.YtbjkfecailnelaaKit
import Derived.Deep.RegionHeld3
import Derived.Deep.AppendLies
namespace Go.Proofs.Ytbjkfecailnelaa
open Go.RowKit

/-- A name and its number. -/
abbrev VarD := ByteArray × Int

/-- A list of them: two cells each. -/
def VRow (w : World) (v : Value) (xs : List VarD) : Prop :=
  ∃ a cap, v = .slice a xs.length cap ∧ (a = none → cap = 0) ∧ (0 < xs.length → ∃ b off, a = some ⟨b, off, none⟩ ∧ b < w.heap.size ∧
    ∀ i (h : i < xs.length), w.cell? ⟨b, off + i * 2, none⟩ = some (.string xs[i].1) ∧ w.cell? ⟨b, off + i * 2 + 1, none⟩ = some (.int .i64 xs[i].2))

theorem VRow.slice {w : World} {v : Value} {xs : List VarD} (h : VRow w v xs) : ∃ a cap, v = .slice a xs.length cap := by
  obtain ⟨a, cap, rfl, _⟩ := h
  exact ⟨a, cap, rfl⟩

theorem VRow.below {w w' : World} {v : Value} {xs : List VarD} (h : VRow w v xs) (hb : Below w.heap.size w w') : VRow w' v xs := by
  obtain ⟨a, cap, rfl, hcap, hh⟩ := h
  refine ⟨a, cap, rfl, hcap, fun h0 => ?_⟩
  obtain ⟨b, off, rfl, hlt, hc⟩ := hh h0
  refine ⟨b, off, rfl, Nat.lt_of_lt_of_le hlt hb.size, fun i hi => ?_⟩
  have e := hb.block b hlt
  exact ⟨(World.cell?_of_block e).trans (hc i hi).1, (World.cell?_of_block e).trans (hc i hi).2⟩

/-- What is read at a place of the list. -/
theorem VRow.at {w : World} {a : Option Addr} {n cap k : Nat} {xs : List VarD} (h : VRow w (.slice a n cap) xs) (hk : k < xs.length) :
    ∃ b off, a = some ⟨b, off, none⟩ ∧ w.cell? ⟨b, off + k * 2, none⟩ = some (.string xs[k].1) ∧ w.cell? ⟨b, off + k * 2 + 1, none⟩ = some (.int .i64 xs[k].2) := by
  obtain ⟨a', cap', e, _, hh⟩ := h
  cases e
  obtain ⟨b, off, rfl, _, hc⟩ := hh (by omega)
  exact ⟨b, off, rfl, hc k hk⟩

end Go.Proofs.Ytbjkfecailnelaa
