/- At the verifier's thirteen texts: the grammar that each is made into is made as l12Flat makes it, within its bounds. -/
import Derived.Test.YtccogaoabdpfmaaGreatFlF0
import Derived.Test.YtccogaoabdpfmaaGreatHld
namespace Go.Proofs.YtccogaoabdpfmaaGreat
open Go.RowKit
set_option linter.unusedVariables false
instance : DecidablePred StrIn := fun s => by unfold StrIn; infer_instance
instance {α : Type} (P : α → Prop) [DecidablePred P] : DecidablePred (RowInn P) := fun xs => by unfold RowInn; infer_instance
instance : DecidablePred NodeIn := fun x => by unfold NodeIn; infer_instance
instance : DecidablePred ExprIn := fun x => by unfold ExprIn; infer_instance
instance : DecidablePred SymIn := fun x => by unfold SymIn; infer_instance
instance : DecidablePred AltIn := fun x => by unfold AltIn; infer_instance
instance : DecidablePred RuleIn := fun x => by unfold RuleIn; infer_instance
instance : DecidablePred GrammarIn := fun x => by unfold GrammarIn; infer_instance
def flatY (ns : List SNodeD) (rs : List SRuleD) : Bool := decide (rs.length ≤ 8) && rs.all (fun r => decide (r.params.length ≤ 6) && !(xFig r.name) && bodyOk ns rs r) && stepsB ns rs 130 0 (startM ns rs) && gramB (flatM ns rs) && decide (grammarTot (flatM ns rs) ≤ 1048576) && decide (GrammarIn (flatM ns rs))
theorem flatOk_of {ns : List SNodeD} {rs : List SRuleD} (hI : SurfIn ns rs) (hfo : formB ns rs = true) (h : flatY ns rs = true) : FlatOk ns rs := by
 unfold flatY at h
 simp only [Bool.and_eq_true, decide_eq_true_eq] at h
 obtain ⟨⟨⟨⟨⟨h1, h2⟩, h3⟩, h4⟩, h5⟩, h6⟩ := h
 unfold formB at hfo
 simp only [Bool.and_eq_true] at hfo
 have h7 : ∀ r ∈ rs, r.params.length ≤ 6 ∧ xFig r.name = false ∧ bodyOk ns rs r = true := fun r hr => by
  have := List.all_eq_true.1 h2 r hr
  simp only [Bool.and_eq_true, decide_eq_true_eq, Bool.not_eq_true'] at this
  exact ⟨this.1.1, this.1.2, this.2⟩
 exact ⟨shaped_of hfo.1.1.1.2, hI.lf, hI.nl, h1, fun r hr => (h7 r hr).1, fun r hr => (h7 r hr).2.1, fun r hr => (hI.rn r hr).1, fun r hr => (h7 r hr).2.2, h3, h4, h5, h6⟩
end Go.Proofs.YtccogaoabdpfmaaGreat
