/- Grammars with groups as they lie in memory, and opened as arguments (printed by mk/kitset.py). -/
import Derived.Test.YtccbbghlckbihaaS11P
namespace Go.Proofs.Ytccbbghlckbihaa
open Go.RowKit

structure SurfD where
  nodes : List SNodeD
  rules : List SRuleD

/-- SNode: its cells. -/
def SNodeE (w : World) (vs : List Value) (x : SNodeD) : Prop := ∃ r0 r1 : Value, vs = [.int .i64 x.kind, .string x.text, r0, .string x.bind, r1] ∧ RowC 1 ExprE w r0 x.args ∧ IRow w r1 x.kids
def SNodeIn (x : SNodeD) : Prop := i64 x.kind ∧ StrIn x.text ∧ RowInn ExprIn x.args ∧ StrIn x.bind ∧ RowInn i64 x.kids
def sNodeTot (x : SNodeD) : Nat := x.text.size + rowTot exprTot x.args + x.bind.size + List.length x.kids
theorem SNodeE_stable : StableE SNodeE := fun w w' vs x h hb => by
  obtain ⟨r0, r1, e, h0, h1⟩ := h
  exact ⟨r0, r1, e, RowC.below ExprE_stable h0 hb, h1.below hb⟩

/-- SRule: its cells. -/
def SRuleE (w : World) (vs : List Value) (x : SRuleD) : Prop := ∃ r0 : Value, vs = [.string x.name, r0, .int .i64 x.body] ∧ SRow w r0 x.params
def SRuleIn (x : SRuleD) : Prop := StrIn x.name ∧ RowInn StrIn x.params ∧ i64 x.body
def sRuleTot (x : SRuleD) : Nat := x.name.size + rowTot ByteArray.size x.params
theorem SRuleE_stable : StableE SRuleE := fun w w' vs x h hb => by
  obtain ⟨r0, e, h0⟩ := h
  exact ⟨r0, e, h0.below hb⟩

/-- Surface: its cells. -/
def SurfaceE (w : World) (vs : List Value) (x : SurfD) : Prop := ∃ r0 r1 : Value, vs = [r0, r1] ∧ RowC 5 SNodeE w r0 x.nodes ∧ RowC 3 SRuleE w r1 x.rules
def SurfaceIn (x : SurfD) : Prop := RowInn SNodeIn x.nodes ∧ RowInn SRuleIn x.rules
def surfaceTot (x : SurfD) : Nat := rowTot sNodeTot x.nodes + rowTot sRuleTot x.rules
theorem SurfaceE_stable : StableE SurfaceE := fun w w' vs x h hb => by
  obtain ⟨r0, r1, e, h0, h1⟩ := h
  exact ⟨r0, r1, e, RowC.below SNodeE_stable h0 hb, RowC.below SRuleE_stable h1 hb⟩

end Go.Proofs.Ytccbbghlckbihaa
