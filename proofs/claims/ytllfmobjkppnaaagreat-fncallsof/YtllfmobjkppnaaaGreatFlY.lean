/- At the verifier's thirteen texts: what is parsed out of each, its form, and the grammar that it is made into. -/
/- At the verifier's thirteen texts: the grammar that each is made into is made as l12Flat makes it, within its bounds. -/
import Derived.Test.YtllfmobjkppnaaaGreatDraw
import Derived.Test.YtllfmobjkppnaaaGreatSfF
import Derived.Test.YtllfmobjkppnaaaGreatTkX
import Derived.Test.YtllfmobjkppnaaaGreatFlF0
namespace Go.Proofs.YtllfmobjkppnaaaGreat
open Go.RowKit
set_option linter.unusedVariables false

theorem formC_of {ns : List SNodeD} {rs : List SRuleD} (hI : SurfIn ns rs) : FormC ns rs := fun B nv rv W hN hR => form_any ns rs hI nv rv W (sNs_of hN) (sRs_of hR)

instance (x : Int) : Decidable (i64 x) := by unfold i64; infer_instance
instance (ns : List NodeD) : Decidable (NIn ns) := by unfold NIn; infer_instance
instance (ns : List SNodeD) : Decidable (LeafsIn ns) := by unfold LeafsIn; infer_instance
instance (rs : List SRuleD) : Decidable (RulesInS rs) := by unfold RulesInS; infer_instance
instance (ns : List SNodeD) (rs : List SRuleD) : Decidable (SurfIn ns rs) :=
  decidable_of_iff (ns.length ≤ 100000 ∧ rs.length ≤ 100000 ∧ (∀ x ∈ ns, x.kids.length ≤ 10000000 ∧ x.args.length ≤ 10000000) ∧ LeafsIn ns ∧ RulesInS rs)
    ⟨fun h => ⟨h.1, h.2.1, h.2.2.1, h.2.2.2.1, h.2.2.2.2⟩, fun h => ⟨h.nl, h.rl, h.kl, h.lf, h.rn⟩⟩

/-- Parsed, within bounds, in form, and made into a grammar that is right. -/
def goodS (s : ByteArray) : Bool := match parseB s with | some (ns, rs) => decide (SurfIn ns rs) && formB ns rs && (flatB ns rs).isSome | none => false
noncomputable def all13 : Bool := texts11.all fun s => goodS (cut11 s).1
theorem all13_is : all13 = true := by kernel_rfl
theorem goodS_of {s : ByteArray} (h : goodS s = true) : ∃ ns rs g, parseB s = some (ns, rs) ∧ SurfIn ns rs ∧ formB ns rs = true ∧ flatB ns rs = some g := by
  unfold goodS at h
  cases hp : parseB s with
  | none => rw [hp] at h; cases h
  | some q =>
    obtain ⟨ns, rs⟩ := q
    rw [hp] at h
    simp only [Bool.and_eq_true, decide_eq_true_eq] at h
    obtain ⟨g, hg⟩ := Option.isSome_iff_exists.1 h.2
    exact ⟨ns, rs, g, rfl, h.1.1, h.1.2, hg⟩
theorem good13 {s : ByteArray} (h : s ∈ texts11) : goodS (cut11 s).1 = true := List.all_eq_true.1 all13_is s h

end Go.Proofs.YtllfmobjkppnaaaGreat

namespace Go.Proofs.YtllfmobjkppnaaaGreat
open Go.RowKit
set_option linter.unusedVariables false

instance : DecidablePred StrIn := fun s => by unfold StrIn; infer_instance
instance {α : Type} (P : α → Prop) [DecidablePred P] : DecidablePred (RowInn P) := fun xs => by unfold RowInn; infer_instance
instance : DecidablePred NodeIn := fun x => by unfold NodeIn; infer_instance
instance : DecidablePred ExprIn := fun x => by unfold ExprIn; infer_instance
instance : DecidablePred SymIn := fun x => by unfold SymIn; infer_instance
instance : DecidablePred AltIn := fun x => by unfold AltIn; infer_instance
instance : DecidablePred RuleIn := fun x => by unfold RuleIn; infer_instance
instance : DecidablePred GrammarIn := fun x => by unfold GrammarIn; infer_instance

def flatY (ns : List SNodeD) (rs : List SRuleD) : Bool := decide (rs.length ≤ 8) && rs.all (fun r => decide (r.params.length ≤ 6) && !(xFig r.name) && bodyOk ns rs r) && stepsB ns rs 130 0 (startM ns rs) && gramB (flatM ns rs) && decide (grammarTot (flatM ns rs) ≤ 1048576) && decide (GrammarIn (flatM ns rs))
def goodY (s : ByteArray) : Bool := match parseB s with | some (ns, rs) => flatY ns rs | none => false
noncomputable def all13y : Bool := texts11.all fun s => goodY (cut11 s).1
theorem all13y_is : all13y = true := by kernel_rfl
theorem flatOk_of {ns : List SNodeD} {rs : List SRuleD} (hI : SurfIn ns rs) (hfo : formB ns rs = true) (h : flatY ns rs = true) : FlatOk ns rs := by
  unfold flatY at h
  simp only [Bool.and_eq_true, decide_eq_true_eq] at h
  obtain ⟨⟨⟨⟨⟨h1, h2⟩, h3⟩, h4⟩, h5⟩, h6⟩ := h
  unfold formB at hfo
  simp only [Bool.and_eq_true] at hfo
  have h7 : ∀ r ∈ rs, r.params.length ≤ 6 ∧ xFig r.name = false ∧ bodyOk ns rs r = true := fun r hr => by
    have := List.all_eq_true.1 h2 r hr
    simp only [Bool.and_eq_true, decide_eq_true_eq, Bool.not_eq_true'] at this
    exact ⟨this.1.1, this.1.2, this.2⟩
  exact ⟨shaped_of hfo.1.1.1.2, hI.lf, hI.nl, h1, fun r hr => (h7 r hr).1, fun r hr => (h7 r hr).2.1, fun r hr => (hI.rn r hr).1, fun r hr => (h7 r hr).2.2, h3, h4, h5, h6⟩
/-- Each of the thirteen: parsed, in form, and made plain. -/
theorem good13y {s : ByteArray} (h : s ∈ texts11) : ∃ ns rs, parseB (cut11 s).1 = some (ns, rs) ∧ SurfIn ns rs ∧ formB ns rs = true ∧ flatB ns rs = some (flatM ns rs) ∧ FlatOk ns rs := by
  obtain ⟨ns, rs, g, hp, hI, hfo, hfl⟩ := goodS_of (good13 h)
  have hy : goodY (cut11 s).1 = true := List.all_eq_true.1 all13y_is s h
  unfold goodY at hy
  rw [hp] at hy
  have hg : flatB ns rs = some (flatM ns rs) := by
    have h2 := hfl
    unfold flatB at h2 ⊢
    split at h2
    · cases h2
    · rename_i hx
      rw [if_neg hx]
      split at h2
      · rename_i hy2
        rw [if_pos hy2]
      · cases h2
  exact ⟨ns, rs, hp, hI, hfo, hg, flatOk_of hI hfo hy⟩

end Go.Proofs.YtllfmobjkppnaaaGreat
