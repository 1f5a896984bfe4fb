/- Whether two are the same, as a Bool. No program is named. -/
import Derived.Test.YtccbbghlckbihaaFData
namespace Go.Proofs.Ytccbbghlckbihaa
open Go.RowKit

noncomputable def same {α : Type} (a b : α) : Bool := @decide (a = b) (Classical.propDecidable _)
theorem same_yes {α : Type} {a b : α} (h : a = b) : same a b = true := by unfold same; exact @decide_eq_true _ (Classical.propDecidable _) h
theorem same_no {α : Type} {a b : α} (h : ¬ a = b) : same a b = false := by unfold same; exact @decide_eq_false _ (Classical.propDecidable _) h
theorem sm_no {α : Type} {a b : List α} {k : Nat} (h : k < a.length) (h' : k < b.length) (hne : ¬ a[k] = b[k]) : ¬ a = b := fun e => by subst e; exact hne rfl
theorem sm_all {α : Type} {a b : List α} (hl : a.length = b.length) (h : ∀ i (h : i < a.length) (h' : i < b.length), a[i] = b[i]) : a = b := List.ext_getElem hl h

end Go.Proofs.Ytccbbghlckbihaa
