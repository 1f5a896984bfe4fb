/- The specification's Flatten, where it makes a right grammar. -/
/- At the verifier's thirteen texts: the grammar that each is made into is made as l12Flat makes it, within its bounds. -/
import Derived.Test.YtipkbkhnaekceaaFlF
import Derived.Test.YtipkbkhnaekceaaSfF
import Derived.Test.YtipkbkhnaekceaaFlF0
import Derived.Test.YtipkbkhnaekceaaAyO
namespace Go.Proofs.Ytipkbkhnaekceaa
open Go.RowKit
set_option linter.unusedVariables false

set_option maxHeartbeats 3200000 in
set_option maxRecDepth 100000 in
theorem flatten_any (A : Nat → Prop) (ns : List SNodeD) (rs : List SRuleD) (hI : SurfIn ns rs) (hfo : formB ns rs = true) (hF : FlatOk ns rs) (nv rv : Value) (W : World) (hA : ∀ k, A k → k < W.heap.size) (hH : Held A W (fun V => SNs V nv ns ∧ SRs V rv rs)) :
    Calls Try.prog 38 #[.agg #[nv, rv]] W fun e w' => ∃ (o : Value) (b : Bool), e = .returned (.tuple #[.agg #[o], .bool b]) ∧ Held A w' (fun V => RowC 3 RuleE V o (flatM ns rs)) ∧ Below W.heap.size W w' := by
  obtain ⟨an, cn, rfl⟩ := RowC.slice hH.here.1
  obtain ⟨ar, cr, rfl⟩ := RowC.slice hH.here.2
  obtain ⟨W2, hW2⟩ : ∃ W2, W2 = ((W.alloc (.cells #[.slice an ns.length cn, .slice ar rs.length cr] 81)).alloc (.cells #[.slice none 0 0] 26)) := ⟨_, rfl⟩
  have bW2 : Below W.heap.size W W2 := by rw [hW2]; exact ((Below.refl _ _).alloc (Nat.le_refl _) _).alloc (by simp) _
  have XB : W2.heap[W.heap.size]? = some (.cells #[.slice an ns.length cn, .slice ar rs.length cr] 81 (0, 0)) := by rw [hW2]; exact (Below.heap_alloc _ _ _ (by simp)).trans (heap_alloc_new W _)
  have RB : W2.heap[W.heap.size + 1]? = some (.cells #[.slice none 0 0] 26 (0, 0)) := by
    rw [hW2]
    have := heap_alloc_new (W.alloc (.cells #[.slice an ns.length cn, .slice ar rs.length cr] 81)) (.cells #[.slice none 0 0] 26)
    rwa [show (W.alloc (.cells #[.slice an ns.length cn, .slice ar rs.length cr] 81)).heap.size = W.heap.size + 1 by simp] at this
  have sW2 : W2.heap.size = W.heap.size + 2 := by rw [hW2]; simp
  obtain ⟨A1, hA1⟩ : ∃ A1 : Nat → Prop, A1 = fun k => A k ∨ k = W.heap.size + 1 := ⟨_, rfl⟩
  have hA1w : ∀ k, k < W.heap.size → A1 k → A k := fun k hk a => by
    rw [hA1] at a
    exact a.elim id (fun e => by omega)
  have HA2 : Hid (∀ k, A1 k → k < W2.heap.size) := fun k a => by
    rw [hA1] at a
    rcases a with a | a
    · have := hA k a
      omega
    · omega
  have HAA : Hid (∀ k, A k → A1 k) := fun k a => by rw [hA1]; exact .inl a
  have HAR : Hid (A1 (W.heap.size + 1)) := by rw [Hid, hA1]; exact .inr rfl
  have HH2 : Hid (Held A1 W2 (fun V => SNs V (.slice an ns.length cn) ns ∧ SRs V (.slice ar rs.length cr) rs)) := hH.go (FrA.below bW2) hA1w
  have HXB : Hid _ := XB
  have HRB : Hid _ := RB
  have HBW : Hid (Below W.heap.size W W2) := bW2
  have c0 := run_cell (j := 0) XB rfl
  have c1 := run_cell (j := 1) XB rfl
  have HFo : Hid (∀ _ : Unit, _) := fun _ => form_any ns rs hI (.slice an ns.length cn) (.slice ar rs.length cr) W2 HH2.out.here.1 HH2.out.here.2
  rw [hfo] at HFo
  have HF : Hid (FlatOk ns rs) := hF
  clear hH hA bW2 XB RB hF hA1 hA1w hfo
  go_enter Try.func38, Try.ntmps38
  rw [hW2] at c0 c1 HFo HH2 HXB HRB HBW
  go_wp2_with fail
  rw [← hW2] at c0 c1 HFo HH2 HXB HRB HBW ⊢
  refine (HFo.out ()).mono ?_
  rintro e w3 ⟨rfl, hb3⟩
  have X3 := (hb3.block _ (Array.getElem?_eq_some_iff.1 HXB.out).1).trans HXB.out
  have R3 := (hb3.block _ (Array.getElem?_eq_some_iff.1 HRB.out).1).trans HRB.out
  have e0 := run_cell (j := 0) X3 rfl
  have e1 := run_cell (j := 1) X3 rfl
  have HR3 : Hid _ := R3
  have HFl : Hid (∀ _ : Unit, _) := fun _ => flatW_any A1 ns rs HF.out an ar cn cr w3 (fun k hk => Nat.lt_of_lt_of_le (HA2.out k hk) hb3.size) (Held.imp (HH2.out.fr (FrA.below hb3)) (fun V h => h.1)) (Held.imp (HH2.out.fr (FrA.below hb3)) (fun V h => h.2))
  have HB3 : Hid (Below W.heap.size W w3) := HBW.out.trans (hb3.mono HBW.out.size)
  clear hb3 X3 R3 c0 c1 HFo HH2 HXB HRB hW2
  go_wp2_with (go_at_call 56; refine (HFl.out ()).mono ?_; rintro e w4 ⟨o4, rfl, hH4, hb4⟩; obtain ⟨ao4, co4, ho4⟩ := hH4.here.slice; subst ho4; have R4 := (hb4.block _ (Array.getElem?_eq_some_iff.1 HR3.out).1).trans HR3.out; have z0 := run_cell (j := 0) R4 rfl; have z1 := run_frozen (j := 0) R4)
  refine bodyPost_ret (by simp [results, Try.results38, go_sem, z0]; try rfl) rfl ?_
  refine ⟨_, true, rfl, ?_, ?_⟩
  · exact Held.away (hH4.fr (FrA.set _ HAR.out)) (fun k _ a => HAA.out k a)
  · exact (HB3.out.trans (hb4.mono HB3.out.size)).setCell (Nat.le_succ _) _

end Go.Proofs.Ytipkbkhnaekceaa

namespace Go.Proofs.Ytipkbkhnaekceaa
open Go.RowKit
set_option linter.unusedVariables false

instance : DecidablePred StrIn := fun s => by unfold StrIn; infer_instance
instance {α : Type} (P : α → Prop) [DecidablePred P] : DecidablePred (RowInn P) := fun xs => by unfold RowInn; infer_instance
instance : DecidablePred NodeIn := fun x => by unfold NodeIn; infer_instance
instance : DecidablePred ExprIn := fun x => by unfold ExprIn; infer_instance
instance : DecidablePred SymIn := fun x => by unfold SymIn; infer_instance
instance : DecidablePred AltIn := fun x => by unfold AltIn; infer_instance
instance : DecidablePred RuleIn := fun x => by unfold RuleIn; infer_instance
instance : DecidablePred GrammarIn := fun x => by unfold GrammarIn; infer_instance

def flatY (ns : List SNodeD) (rs : List SRuleD) : Bool := decide (rs.length ≤ 8) && rs.all (fun r => decide (r.params.length ≤ 6) && !(xFig r.name) && bodyOk ns rs r) && stepsB ns rs 130 0 (startM ns rs) && gramB (flatM ns rs) && decide (grammarTot (flatM ns rs) ≤ 1048576) && decide (GrammarIn (flatM ns rs))
def goodY (s : ByteArray) : Bool := match parseB s with | some (ns, rs) => flatY ns rs | none => false
noncomputable def all13y : Bool := texts11.all fun s => goodY (cut11 s).1
theorem all13y_is : all13y = true := by kernel_rfl
theorem flatOk_of {ns : List SNodeD} {rs : List SRuleD} (hI : SurfIn ns rs) (hfo : formB ns rs = true) (h : flatY ns rs = true) : FlatOk ns rs := by
  unfold flatY at h
  simp only [Bool.and_eq_true, decide_eq_true_eq] at h
  obtain ⟨⟨⟨⟨⟨h1, h2⟩, h3⟩, h4⟩, h5⟩, h6⟩ := h
  unfold formB at hfo
  simp only [Bool.and_eq_true] at hfo
  have h7 : ∀ r ∈ rs, r.params.length ≤ 6 ∧ xFig r.name = false ∧ bodyOk ns rs r = true := fun r hr => by
    have := List.all_eq_true.1 h2 r hr
    simp only [Bool.and_eq_true, decide_eq_true_eq, Bool.not_eq_true'] at this
    exact ⟨this.1.1, this.1.2, this.2⟩
  exact ⟨shaped_of hfo.1.1.1.2, hI.lf, hI.nl, h1, fun r hr => (h7 r hr).1, fun r hr => (h7 r hr).2.1, fun r hr => (hI.rn r hr).1, fun r hr => (h7 r hr).2.2, h3, h4, h5, h6⟩
/-- Each of the thirteen: parsed, in form, and made plain. -/
theorem good13y {s : ByteArray} (h : s ∈ texts11) : ∃ ns rs, parseB (cut11 s).1 = some (ns, rs) ∧ SurfIn ns rs ∧ formB ns rs = true ∧ flatB ns rs = some (flatM ns rs) ∧ FlatOk ns rs := by
  obtain ⟨ns, rs, g, hp, hI, hfo, hfl⟩ := goodS_of (good13 h)
  have hy : goodY (cut11 s).1 = true := List.all_eq_true.1 all13y_is s h
  unfold goodY at hy
  rw [hp] at hy
  have hg : flatB ns rs = some (flatM ns rs) := by
    have h2 := hfl
    unfold flatB at h2 ⊢
    split at h2
    · cases h2
    · rename_i hx
      rw [if_neg hx]
      split at h2
      · rename_i hy2
        rw [if_pos hy2]
      · cases h2
  exact ⟨ns, rs, hp, hI, hfo, hg, flatOk_of hI hfo hy⟩

end Go.Proofs.Ytipkbkhnaekceaa
