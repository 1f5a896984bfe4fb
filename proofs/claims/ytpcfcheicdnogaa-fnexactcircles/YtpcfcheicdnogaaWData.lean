/- Forests as they lie in memory, and opened as arguments (printed by mk/kitset.py). -/
import Derived.Test.YtpcfcheicdnogaaGData
namespace Go.Proofs.Ytpcfcheicdnogaa
open Go.RowKit

structure WayD where
  alt : Int
  kids : List Int
structure PartD where
  rule : Int
  args : List Int
  frm : Int
  upto : Int
  ways : List WayD
instance : Inhabited WayD := ⟨⟨0, []⟩⟩
instance : Inhabited PartD := ⟨⟨0, [], 0, 0, []⟩⟩

/-- Way: its cells. -/
def WayE (w : World) (vs : List Value) (x : WayD) : Prop := ∃ r0 : Value, vs = [.int .i64 x.alt, r0] ∧ IRow w r0 x.kids
def WayIn (x : WayD) : Prop := i64 x.alt ∧ RowInn i64 x.kids
def wayTot (x : WayD) : Nat := List.length x.kids
theorem WayE_stable : StableE WayE := fun w w' vs x h hb => by
  obtain ⟨r0, e, h0⟩ := h
  exact ⟨r0, e, h0.below hb⟩

/-- Part: its cells. -/
def PartE (w : World) (vs : List Value) (x : PartD) : Prop := ∃ r0 r1 : Value, vs = [.int .i64 x.rule, r0, .int .i64 x.frm, .int .i64 x.upto, r1] ∧ IRow w r0 x.args ∧ RowC 2 WayE w r1 x.ways
def PartIn (x : PartD) : Prop := i64 x.rule ∧ RowInn i64 x.args ∧ i64 x.frm ∧ i64 x.upto ∧ RowInn WayIn x.ways
def partTot (x : PartD) : Nat := List.length x.args + rowTot wayTot x.ways
theorem PartE_stable : StableE PartE := fun w w' vs x h hb => by
  obtain ⟨r0, r1, e, h0, h1⟩ := h
  exact ⟨r0, r1, e, h0.below hb, RowC.below WayE_stable h1 hb⟩

/-- Forest: its cells. -/
def ForestE (w : World) (vs : List Value) (x : List PartD) : Prop := ∃ r0 : Value, vs = [r0] ∧ RowC 5 PartE w r0 x
def ForestIn (x : List PartD) : Prop := RowInn PartIn x
def forestTot (x : List PartD) : Nat := rowTot partTot x
theorem ForestE_stable : StableE ForestE := fun w w' vs x h hb => by
  obtain ⟨r0, e, h0⟩ := h
  exact ⟨r0, e, RowC.below PartE_stable h0 hb⟩

end Go.Proofs.Ytpcfcheicdnogaa
