/- Rows whose elements reach each into blocks of its own, one behind the other. No program is named. -/
import Derived.Test.YtipkbkhnaekceaaFlG0
namespace Go.Proofs.Ytipkbkhnaekceaa
open Go.RowKit
set_option linter.unusedVariables false
variable {α : Type}

/-- What is told of a world is told of every world that has its blocks from lo to hi. -/
def InI (lo hi : Nat) (w : World) (P : World → Prop) : Prop := hi ≤ w.heap.size ∧ ∀ W : World, hi ≤ W.heap.size → (∀ k, lo ≤ k → k < hi → W.heap[k]? = w.heap[k]?) → P W
section
variable {lo hi : Nat} {w w' : World} {P Q : World → Prop} {A : Nat → Prop}
theorem InI.here (h : InI lo hi w P) : P w := h.2 w h.1 (fun _ _ _ => rfl)
theorem InI.imp (h : InI lo hi w P) (hQ : ∀ W, P W → Q W) : InI lo hi w Q := ⟨h.1, fun W h1 h2 => hQ W (h.2 W h1 h2)⟩
theorem InI.of_fresh (h : Fresh lo w P) : InI lo w.heap.size w P := ⟨Nat.le_refl _, fun W h1 h2 => h W h1 h2⟩
theorem InI.go (h : InI lo hi w P) (hs : hi ≤ w'.heap.size) (hk : ∀ k, lo ≤ k → k < hi → w'.heap[k]? = w.heap[k]?) : InI lo hi w' P := ⟨hs, fun W h1 h2 => h.2 W h1 (fun k a b => (h2 k a b).trans (hk k a b))⟩
theorem InI.below (h : InI lo hi w P) (hb : Below w.heap.size w w') : InI lo hi w' P := h.go (Nat.le_trans h.1 hb.size) (fun k _ b => hb.block k (Nat.lt_of_lt_of_le b h.1))
theorem InI.held (h : InI lo hi w P) (hA : ∀ k, A k → k < lo ∨ hi ≤ k) : Held A w P := fun W h1 h2 => h.2 W (Nat.le_trans h.1 h1) (fun k a b => h2 k (Nat.lt_of_lt_of_le b h.1) (fun ha => by rcases hA k ha with h | h <;> omega))
end
/-- A list that the call owns; element i reaches from (cut i).1 to (cut i).2; all that lies below X. -/
def RowI (sz : Nat) (T : TypeId) (E : World → List Value → α → Prop) (B X : Nat) (v : Value) (xs : List α) (w : World) : Prop :=
  ∃ (vss : List (List Value)) (cut : Nat → Nat × Nat), vss.length = xs.length ∧ (∀ vs ∈ vss, vs.length = sz) ∧ w.ownsRow B T sz v xs.length vss.flatten ∧
    (∀ i (h : i < vss.length) (h' : i < xs.length), InI (cut i).1 (cut i).2 w (fun W => E W vss[i] xs[i]) ∧ B ≤ (cut i).1 ∧ (cut i).2 ≤ X ∧ ∀ k, v.ownBlock = some k → k < (cut i).1 ∨ (cut i).2 ≤ k) ∧ ∀ i j, i < j → j < xs.length → (cut i).2 ≤ (cut j).1
section
variable {sz : Nat} {T : TypeId} {E : World → List Value → α → Prop} {B X X' : Nat} {v : Value} {xs : List α} {w w' : World}
theorem RowI.nil : RowI sz T E B X (.slice none 0 0) ([] : List α) w := ⟨[], fun _ => (0, 0), rfl, fun _ h => (by cases h), ⟨by simp, .inl ⟨rfl, rfl⟩⟩, (fun i h => by cases h), fun i j _ h => by cases h⟩
theorem RowI.own (h : RowI sz T E B X v xs w) : ∃ cs, w.ownsRow B T sz v xs.length cs := by
  obtain ⟨vss, _, _, _, h3, _⟩ := h
  exact ⟨_, h3⟩
theorem RowI.lt (h : RowI sz T E B X v xs w) : ∀ k, v.ownBlock = some k → B ≤ k ∧ k < w.heap.size := by
  obtain ⟨cs, ho⟩ := h.own
  exact World.ownsRow.lt ho
theorem RowI.type (h : RowI sz T E B X v xs w) {g : Nat} (hg : v.ownBlock = some g) : ∃ cur, w.heap[g]? = some (.cells cur T (0, 0)) := by
  obtain ⟨cs, ho⟩ := h.own
  rcases ho.2 with ⟨rfl, h0⟩ | ⟨g', cap, cur, rfl, hB, hc, _⟩
  · cases hg
  · cases hg
    exact ⟨cur, hc⟩
theorem RowI.up (h : RowI sz T E B X v xs w) (hX : X ≤ X') : RowI sz T E B X' v xs w := by
  obtain ⟨vss, cut, h1, h2, h3, h4, h5⟩ := h
  exact ⟨vss, cut, h1, h2, h3, fun i hi hi' => ⟨(h4 i hi hi').1, (h4 i hi hi').2.1, Nat.le_trans (h4 i hi hi').2.2.1 hX, (h4 i hi hi').2.2.2⟩, h5⟩
/-- In a world that has the row's block and those that its elements reach. -/
theorem RowI.go (h : RowI sz T E B X v xs w) (hs : X ≤ w'.heap.size) (hv : ∀ k, v.ownBlock = some k → w'.heap[k]? = w.heap[k]?) (hk : ∀ k, B ≤ k → k < X → v.ownBlock ≠ some k → w'.heap[k]? = w.heap[k]?) : RowI sz T E B X v xs w' := by
  obtain ⟨vss, cut, h1, h2, h3, h4, h5⟩ := h
  refine ⟨vss, cut, h1, h2, ⟨h3.1, ?_⟩, fun i hi hi' => ?_, h5⟩
  · rcases h3.2 with hn | ⟨g, cap, cur, rfl, hB, hc, r⟩
    · exact .inl hn
    · exact .inr ⟨g, cap, cur, rfl, hB, (hv g rfl).trans hc, r⟩
  · obtain ⟨a, b, c, d⟩ := h4 i hi hi'
    exact ⟨a.go (Nat.le_trans c hs) (fun k k1 k2 => hk k (Nat.le_trans b k1) (Nat.lt_of_lt_of_le k2 c) (fun e => by rcases d k e with h | h <;> omega)), b, c, d⟩
theorem RowI.below (h : RowI sz T E B X v xs w) (hX : X ≤ w.heap.size) (hb : Below w.heap.size w w') : RowI sz T E B X v xs w' :=
  h.go (Nat.le_trans hX hb.size) (fun k hk => hb.block k (h.lt k hk).2) (fun k _ hk _ => hb.block k (Nat.lt_of_lt_of_le hk hX))
theorem RowI.fresh (h : RowI sz T E B X v xs w) (hX : X ≤ w.heap.size) : Fresh B w fun W => RowI sz T E B X v xs W := fun W h1 h2 =>
  h.go (Nat.le_trans hX h1) (fun k hk => h2 k (h.lt k hk).1 (h.lt k hk).2) (fun k hB hk _ => h2 k hB (Nat.lt_of_lt_of_le hk hX))
theorem RowI.rowC (h : RowI sz T E B X v xs w) : RowC sz E w v xs := by
  obtain ⟨vss, cut, h1, h2, h3, h4, h5⟩ := h
  exact RowO.row (sz := sz) (T := T) (E := E) (B := B) ⟨vss, h1, h2, h3, fun i hi hi' => (h4 i hi hi').1.here⟩
/-- One element more: it reaches from X on. -/
theorem RowI.add (h : RowI sz T E B X v xs w) (hBX : B ≤ X) (hvX : ∀ k, v.ownBlock = some k → k < X) (hX : X ≤ w.heap.size) : ∃ cs, w.ownsRow B T sz v xs.length cs ∧ ∀ (g cap hi : Nat) (w2 : World) (vs : List Value) (x : α), vs.length = sz → X ≤ hi → InI X hi w (fun W => E W vs x) → w2.ownsRow B T sz (.slice (some ⟨g, 0, none⟩) (xs.length + 1) cap) (xs.length + 1) (cs ++ vs) → w.grownBy w2 v.ownBlock → (v.ownBlock = some g ∨ g = w.heap.size) → RowI sz T E B hi (.slice (some ⟨g, 0, none⟩) (xs.length + 1) cap) (xs ++ [x]) w2 := by
  obtain ⟨vss, cut, h1, h2, h3, h4, h5⟩ := h
  refine ⟨vss.flatten, h3, fun g cap hi w2 vs x hl hXh hx ho2 hg hat => ?_⟩
  have e : (xs ++ [x]).length = xs.length + 1 := by simp
  have hgk : ∀ k, (Value.slice (some ⟨g, 0, none⟩) (xs.length + 1) cap).ownBlock = some k → v.ownBlock = some k ∨ k = w.heap.size := fun k hk => by
    have ek : g = k := Option.some.inj hk
    rw [← ek]; exact hat
  refine ⟨vss ++ [vs], fun i => if i < xs.length then cut i else (X, hi), by simp [h1], fun u hu => ?_, by rw [e]; simpa using ho2, fun i hi1 hi' => ?_, fun i j hij hj => ?_⟩
  · rcases List.mem_append.1 hu with hu | hu
    · exact h2 u hu
    · rw [List.mem_singleton.1 hu]; exact hl
  · by_cases hlt : i < vss.length
    · have ec : (fun i => if i < xs.length then cut i else (X, hi)) i = cut i := if_pos (by omega)
      rw [List.getElem_append_left hlt, List.getElem_append_left (by omega), ec]
      obtain ⟨a, b, c, d⟩ := h4 i hlt (by omega)
      refine ⟨a.go (Nat.le_trans c (Nat.le_trans hX hg.size)) (fun k k1 k2 => hg.block k (by omega) (fun e => by rcases d k e.symm with h | h <;> omega)), b, by omega, fun k hk => ?_⟩
      rcases hgk k hk with h | h
      · exact d k h
      · exact .inr (by omega)
    · have e : i = vss.length := by simp at hi1; omega
      subst e
      have ec : (fun i => if i < xs.length then cut i else (X, hi)) vss.length = (X, hi) := if_neg (by omega)
      rw [List.getElem_append_right (Nat.le_refl _), List.getElem_append_right (by omega), ec]
      simp only [Nat.sub_self, h1]
      refine ⟨hx.go (Nat.le_trans hx.1 hg.size) (fun k k1 k2 => hg.block k (Nat.lt_of_lt_of_le k2 hx.1) (fun e => by have := hvX k e.symm; omega)), hBX, Nat.le_refl _, fun k hk => ?_⟩
      rcases hgk k hk with h | h
      · exact .inl (hvX k h)
      · exact .inr (by have := hx.1; omega)
  · rw [e] at hj
    have ei : (fun i => if i < xs.length then cut i else (X, hi)) i = cut i := if_pos (by omega)
    rw [ei]
    by_cases hj2 : j < xs.length
    · have ej : (fun i => if i < xs.length then cut i else (X, hi)) j = cut j := if_pos hj2
      rw [ej]; exact h5 i j hij hj2
    · have ej : (fun i => if i < xs.length then cut i else (X, hi)) j = (X, hi) := if_neg hj2
      rw [ej]
      exact (h4 i (by omega) (by omega)).2.2.1
end

end Go.Proofs.Ytipkbkhnaekceaa
