/- Trees as they lie in memory, and opened as arguments (printed by mk/kitset.py). -/
import Derived.Test.YtdihemolhdjfeaaGData
namespace Go.Proofs.Ytdihemolhdjfeaa
open Go.RowKit

structure TNodeD where
  rule : Int
  alt : Int
  args : List Int
  frm : Int
  upto : Int
  kids : List Int
instance : Inhabited TNodeD := ⟨⟨0, 0, [], 0, 0, []⟩⟩

/-- TreeNode: its cells. -/
def TreeNodeE (w : World) (vs : List Value) (x : TNodeD) : Prop := ∃ r0 r1 : Value, vs = [.int .i64 x.rule, .int .i64 x.alt, r0, .int .i64 x.frm, .int .i64 x.upto, r1] ∧ IRow w r0 x.args ∧ IRow w r1 x.kids
def TreeNodeIn (x : TNodeD) : Prop := i64 x.rule ∧ i64 x.alt ∧ RowInn i64 x.args ∧ i64 x.frm ∧ i64 x.upto ∧ RowInn i64 x.kids
def treeNodeTot (x : TNodeD) : Nat := List.length x.args + List.length x.kids
theorem TreeNodeE_stable : StableE TreeNodeE := fun w w' vs x h hb => by
  obtain ⟨r0, r1, e, h0, h1⟩ := h
  exact ⟨r0, r1, e, h0.below hb, h1.below hb⟩

/-- Tree: its cells. -/
def TreeE (w : World) (vs : List Value) (x : List TNodeD) : Prop := ∃ r0 : Value, vs = [r0] ∧ RowC 6 TreeNodeE w r0 x
def TreeIn (x : List TNodeD) : Prop := RowInn TreeNodeIn x
def treeTot (x : List TNodeD) : Nat := rowTot treeNodeTot x
theorem TreeE_stable : StableE TreeE := fun w w' vs x h hb => by
  obtain ⟨r0, e, h0⟩ := h
  exact ⟨r0, e, RowC.below TreeNodeE_stable h0 hb⟩

end Go.Proofs.Ytdihemolhdjfeaa
