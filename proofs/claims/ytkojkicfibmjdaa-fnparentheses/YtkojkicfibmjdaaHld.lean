/- What hangs on none of some blocks; rows whose elements do. No program is named. -/
import Derived.Test.YtkojkicfibmjdaaFrK
import Derived.Test.YtkojkicfibmjdaaGData
namespace Go.Proofs.Ytkojkicfibmjdaa
open Go.RowKit
set_option linter.unusedVariables false
variable {α : Type}

/-- What is told of a world is told of every world that has its blocks but those of A. -/
def Held (A : Nat → Prop) (w : World) (P : World → Prop) : Prop := ∀ W : World, w.heap.size ≤ W.heap.size → (∀ k, k < w.heap.size → ¬ A k → W.heap[k]? = w.heap[k]?) → P W
/-- Of what was there only blocks of A turned. -/
structure FrA (A : Nat → Prop) (w w' : World) : Prop where
  size : w.heap.size ≤ w'.heap.size
  block : ∀ k, k < w.heap.size → ¬ A k → w'.heap[k]? = w.heap[k]?
section
variable {A A' : Nat → Prop} {B : Nat} {w w' w1 w2 : World} {P Q : World → Prop}
theorem Held.here (h : Held A w P) : P w := h w (Nat.le_refl _) (fun _ _ _ => rfl)
theorem Held.imp (h : Held A w P) (hi : ∀ W, P W → Q W) : Held A w Q := fun W h1 h2 => hi W (h W h1 h2)
theorem Held.and (h : Held A w P) (k : Held A w Q) : Held A w fun W => P W ∧ Q W := fun W h1 h2 => ⟨h W h1 h2, k W h1 h2⟩
theorem Held.pure {p : Prop} (h : p) : Held A w fun _ => p := fun _ _ _ => h
theorem Held.away (h : Held A w P) (hA : ∀ k, k < w.heap.size → A' k → A k) : Held A' w P := fun W h1 h2 => h W h1 (fun k hk ha => h2 k hk (fun ha' => ha (hA k hk ha')))
theorem Held.fr (h : Held A w P) (hf : FrA A w w') : Held A w' P := fun W h1 h2 => h W (Nat.le_trans hf.size h1) (fun k hk ha => (h2 k (Nat.lt_of_lt_of_le hk hf.size) ha).trans (hf.block k hk ha))
/-- Behind a step by which only A turned, with other blocks to come. -/
theorem Held.go (h : Held A w P) (hf : FrA A w w') (hA : ∀ k, k < w.heap.size → A' k → A k) : Held A' w' P := fun W h1 h2 => h W (Nat.le_trans hf.size h1) (fun k hk ha => (h2 k (Nat.lt_of_lt_of_le hk hf.size) (fun ha' => ha (hA k hk ha'))).trans (hf.block k hk ha))
theorem Held.of_fresh (h : Fresh B w P) (hA : ∀ k, A k → k < B) : Held A w P := fun W h1 h2 => h W h1 (fun k hk hlt => h2 k hlt (fun ha => by have := hA k ha; omega))
theorem FrA.refl (A : Nat → Prop) (w : World) : FrA A w w := ⟨Nat.le_refl _, fun _ _ _ => rfl⟩
theorem FrA.trans (h : FrA A w w1) (k : FrA A' w1 w2) (hA : ∀ k, k < w.heap.size → A' k → A k) : FrA A w w2 :=
  ⟨Nat.le_trans h.size k.size, fun b hb ha => (k.block b (Nat.lt_of_lt_of_le hb h.size) (fun ha' => ha (hA b hb ha'))).trans (h.block b hb ha)⟩
theorem FrA.wide (h : FrA A w w') (hA : ∀ k, k < w.heap.size → A k → A' k) : FrA A' w w' := ⟨h.size, fun k hk ha => h.block k hk (fun ha' => ha (hA k hk ha'))⟩
theorem FrA.below (h : Below w.heap.size w w') : FrA A w w' := ⟨h.size, fun k hk _ => h.block k hk⟩
theorem FrA.set {p j : Nat} (u : Value) (hp : A p) : FrA A w (w.setCell ⟨p, j, none⟩ u) := ⟨by simp [World.setCell], fun k _ ha => setCell_other u (fun e => ha (e ▸ hp))⟩
theorem FrA.grown {r : Option Nat} (hg : w.grownBy w' r) (hr : ∀ k, r = some k → A k) : FrA A w w' := ⟨hg.size, fun k hk ha => hg.block k hk (fun e => ha (hr k e.symm))⟩
end

/-- An element whose reach is held. -/
def HE (A : Nat → Prop) (E : World → List Value → α → Prop) (w : World) (vs : List Value) (x : α) : Prop := Held A w fun W => E W vs x
/-- A list that the call owns, what its elements reach held. -/
abbrev RowH (sz : Nat) (T : TypeId) (E : World → List Value → α → Prop) (A : Nat → Prop) (B : Nat) (v : Value) (xs : List α) (w : World) : Prop := RowO sz T (HE A E) B v xs w
section
variable {sz : Nat} {T : TypeId} {E : World → List Value → α → Prop} {A A' : Nat → Prop} {B : Nat} {v : Value} {xs : List α} {w w' : World}
theorem RowH.rowC (h : RowH sz T E A B v xs w) : RowC sz E w v xs := by
  obtain ⟨a, cap, rfl, hcap, hh⟩ := RowO.row h
  refine ⟨a, cap, rfl, hcap, fun h0 => ?_⟩
  obtain ⟨b, off, rfl, hlt, hc⟩ := hh h0
  exact ⟨b, off, rfl, hlt, fun i hi => (hc i hi).imp fun vs h => ⟨h.1, h.2.1, h.2.2.here⟩⟩
/-- Behind a step by which only A turned, and not the row. -/
theorem RowH.go (h : RowH sz T E A B v xs w) (hf : FrA A w w') (hA : ∀ k, k < w.heap.size → A' k → A k) (hv : ∀ k, v.ownBlock = some k → w'.heap[k]? = w.heap[k]?) : RowH sz T E A' B v xs w' := by
  obtain ⟨vss, h1, h2, h3, h4⟩ := h
  refine ⟨vss, h1, h2, ⟨h3.1, ?_⟩, fun i hi hi' => Held.go (h4 i hi hi') hf hA⟩
  rcases h3.2 with hn | ⟨g, cap, cur, rfl, hB, hc, r⟩
  · exact .inl hn
  · exact .inr ⟨g, cap, cur, rfl, hB, (hv g rfl).trans hc, r⟩
theorem RowH.below (h : RowH sz T E A B v xs w) (hb : Below w.heap.size w w') : RowH sz T E A B v xs w' :=
  RowH.go h (FrA.below hb) (fun _ _ ha => ha) (fun k hk => hb.block k (RowO.lt h k hk).2)
/-- The list itself is held, if its row is none of A. -/
theorem RowH.held (h : RowH sz T E A B v xs w) (hv : ∀ k, v.ownBlock = some k → ¬ A k) : Held A w fun W => RowC sz E W v xs := by
  intro W hW hbl
  obtain ⟨vss, h1, h2, h3, h4⟩ := h
  have h3' : W.ownsRow B T sz v xs.length vss.flatten := by
    refine ⟨h3.1, ?_⟩
    rcases h3.2 with hn | ⟨g, cap, cur, rfl, hB, hc, r⟩
    · exact .inl hn
    · exact .inr ⟨g, cap, cur, rfl, hB, (hbl g (Array.getElem?_eq_some_iff.1 hc).1 (hv g rfl)).trans hc, r⟩
  exact RowO.row (sz := sz) (T := T) (E := E) (B := B) ⟨vss, h1, h2, h3', fun i hi hi' => h4 i hi hi' W hW hbl⟩
theorem RowH.nil : RowH sz T E A B (.slice none 0 0) ([] : List α) w := RowO.nil
/-- One more element, appended: out of what wpList_append_lies tells. -/
theorem RowH.snoc (h : RowH sz T E A B v xs w) : ∃ cs, w.ownsRow B T sz v xs.length cs ∧ ∀ (g cap : Nat) (w1 w2 : World) (vs : List Value) (x : α), vs.length = sz → FrA A w w1 → w2.ownsRow B T sz (.slice (some ⟨g, 0, none⟩) (xs.length + 1) cap) (xs.length + 1) (cs ++ vs) → w1.grownBy w2 v.ownBlock → (∀ k, v.ownBlock = some k → A k) → (∀ k, k < w.heap.size → A' k → A k) → Held A' w2 (fun W => E W vs x) → RowH sz T E A' B (.slice (some ⟨g, 0, none⟩) (xs ++ [x]).length cap) (xs ++ [x]) w2 := by
  obtain ⟨vss, h1, h2, h3, h4⟩ := h
  refine ⟨vss.flatten, h3, fun g cap w1 w2 vs x hl hf ho2 hg hvA hA hx => ?_⟩
  have hfr : FrA A w w2 := hf.trans (FrA.grown hg hvA) (fun _ _ ha => ha)
  have e : (xs ++ [x]).length = xs.length + 1 := by simp
  rw [e]
  refine ⟨vss ++ [vs], by simp [h1], fun u hu => ?_, by rw [e]; simpa using ho2, fun i hi hi' => ?_⟩
  · rcases List.mem_append.1 hu with hu | hu
    · exact h2 u hu
    · rw [List.mem_singleton.1 hu]; exact hl
  · by_cases hlt : i < vss.length
    · rw [List.getElem_append_left hlt, List.getElem_append_left (by omega)]
      exact Held.go (h4 i hlt (by omega)) hfr hA
    · have e : i = vss.length := by simp at hi; omega
      subst e
      rw [List.getElem_append_right (Nat.le_refl _), List.getElem_append_right (by omega)]
      simp only [Nat.sub_self, h1]
      exact hx
end

end Go.Proofs.Ytkojkicfibmjdaa
