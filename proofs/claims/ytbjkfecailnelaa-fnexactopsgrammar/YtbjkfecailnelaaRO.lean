/- Lists of structs that a call owns, whose elements reach other rows: built by append, read, and written cell by cell. No program is named. -/
import Derived.Test.YtbjkfecailnelaaGRow
import Derived.Test.YtbjkfecailnelaaVKit
namespace Go.Proofs.Ytbjkfecailnelaa
open Go.RowKit
set_option linter.unusedVariables false
variable {α : Type}

def RowO (sz : Nat) (T : TypeId) (E : World → List Value → α → Prop) (B : Nat) (v : Value) (xs : List α) (w : World) : Prop :=
  ∃ vss : List (List Value), vss.length = xs.length ∧ (∀ vs ∈ vss, vs.length = sz) ∧ w.ownsRow B T sz v xs.length vss.flatten ∧ ∀ i (h : i < vss.length) (h' : i < xs.length), E w vss[i] xs[i]
section
variable {sz : Nat} {T : TypeId} {E : World → List Value → α → Prop} {B : Nat} {v : Value} {xs : List α} {w w' : World}
theorem RowO.nil : RowO sz T E B (.slice none 0 0) [] w := ⟨[], rfl, fun _ h => (by cases h), ⟨by simp, .inl ⟨rfl, rfl⟩⟩, fun i h => by cases h⟩
theorem RowO.made (hB : B ≤ w.heap.size) : RowO sz T E B (.slice (some ⟨w.heap.size, 0, none⟩) 0 0) ([] : List α) (w.alloc (.cells #[] T)) :=
  ⟨[], rfl, fun _ h => (by cases h), World.ownsRow_made w #[] 0 hB (Nat.zero_le _) (by simp), fun i h => by cases h⟩
theorem RowO.slice (h : RowO sz T E B v xs w) : ∃ a cap, v = .slice a xs.length cap := by
  obtain ⟨vss, h1, h2, h3, h4⟩ := h
  rcases h3.2 with ⟨rfl, h0⟩ | ⟨g, cap, cur, rfl, _⟩
  · exact ⟨none, 0, by rw [h0]⟩
  · exact ⟨_, cap, rfl⟩
theorem RowO.at (h : RowO sz T E B v xs w) {k : Nat} (hk : k < xs.length) : ∃ g cap vs, v = .slice (some ⟨g, 0, none⟩) xs.length cap ∧ B ≤ g ∧ vs.length = sz ∧ (∀ j (hj : j < vs.length), w.cell? ⟨g, k * sz + j, none⟩ = some vs[j]) ∧ E w vs xs[k] := by
  obtain ⟨vss, h1, h2, h3, h4⟩ := h
  rcases h3.2 with ⟨rfl, h0⟩ | ⟨g, cap, cur, rfl, hB, _⟩
  · omega
  · refine ⟨g, cap, vss[k]'(by omega), rfl, hB, h2 _ (List.getElem_mem _), fun j hj => ?_, h4 k (by omega) hk⟩
    have hf := flat_at sz vss h2 k j (by omega) hj
    have := World.ownsRow.cells h3 (g := g) rfl _ _ hf
    rw [Addr.add_lit, Nat.zero_add] at this
    exact this
theorem RowO.row (h : RowO sz T E B v xs w) : RowC sz E w v xs := by
  obtain ⟨vss, h1, h2, h3, h4⟩ := h
  rcases h3.2 with ⟨rfl, h0⟩ | ⟨g, cap, cur, rfl, hB, hc, _⟩
  · exact ⟨none, 0, by rw [h0], fun _ => rfl, fun hh => by omega⟩
  · refine ⟨some ⟨g, 0, none⟩, cap, rfl, fun hh => (by cases hh), fun _ => ⟨g, 0, rfl, (Array.getElem?_eq_some_iff.1 hc).1, fun i hi => ⟨vss[i]'(by omega), h2 _ (List.getElem_mem _), fun j hj => ?_, h4 i (by omega) hi⟩⟩⟩
    have hf := flat_at sz vss h2 i j (by omega) hj
    have := World.ownsRow.cells h3 (g := g) rfl _ _ hf
    rw [Addr.add_lit, Nat.zero_add] at this
    rw [Nat.zero_add]
    exact this
theorem RowO.lt (h : RowO sz T E B v xs w) : ∀ k, v.ownBlock = some k → B ≤ k ∧ k < w.heap.size := by
  obtain ⟨vss, h1, h2, h3, h4⟩ := h
  exact World.ownsRow.lt h3
theorem RowO.base {B' : Nat} (h : RowO sz T E B v xs w) (hB : B' ≤ B) : RowO sz T E B' v xs w := by
  obtain ⟨vss, h1, h2, h3, h4⟩ := h
  refine ⟨vss, h1, h2, ⟨h3.1, ?_⟩, h4⟩
  rcases h3.2 with hn | ⟨g, cap, cur, e, hg, r⟩
  · exact .inl hn
  · exact .inr ⟨g, cap, cur, e, Nat.le_trans hB hg, r⟩
/-- In another world: where the row and what it reaches are there. -/
theorem RowO.world (h : RowO sz T E B v xs w) (hr : ∀ n cs, w.ownsRow B T sz v n cs → w'.ownsRow B T sz v n cs) (hE : ∀ vs x, E w vs x → E w' vs x) : RowO sz T E B v xs w' := by
  obtain ⟨vss, h1, h2, h3, h4⟩ := h
  exact ⟨vss, h1, h2, hr _ _ h3, fun i hi hi' => hE _ _ (h4 i hi hi')⟩
theorem RowO.below (hE : ∀ w w' vs x, E w vs x → Below w.heap.size w w' → E w' vs x) (h : RowO sz T E B v xs w) (hb : Below w.heap.size w w') : RowO sz T E B v xs w' :=
  h.world (fun _ _ h3 => own_below h3 hb) (fun _ _ hx => hE _ _ _ _ hx hb)
/-- Opened for an append: the cells, and the longer list behind it. -/
theorem RowO.snoc (h : RowO sz T E B v xs w) : ∃ cs, w.ownsRow B T sz v xs.length cs ∧ ∀ (v' : Value) (w2 : World) (vs : List Value) (x : α), vs.length = sz → w2.ownsRow B T sz v' (xs.length + 1) (cs ++ vs) → (∀ vs y, E w vs y → E w2 vs y) → E w2 vs x → RowO sz T E B v' (xs ++ [x]) w2 := by
  obtain ⟨vss, h1, h2, h3, h4⟩ := h
  refine ⟨vss.flatten, h3, fun v' w2 vs x hv ho hE hx => ⟨vss ++ [vs], by simp [h1], fun u hu => ?_, by simpa using ho, fun i hi hi' => ?_⟩⟩
  · rcases List.mem_append.1 hu with hu | hu
    · exact h2 u hu
    · rw [List.mem_singleton.1 hu]; exact hv
  · by_cases hlt : i < vss.length
    · rw [List.getElem_append_left hlt, List.getElem_append_left (by omega)]
      exact hE _ _ (h4 i hlt (by omega))
    · have e : i = vss.length := by simp at hi; omega
      subst e
      rw [List.getElem_append_right (Nat.le_refl _), List.getElem_append_right (by omega)]
      simp only [Nat.sub_self, h1]
      exact hx
theorem flat_set (sz : Nat) : ∀ (vss : List (List Value)), (∀ vs ∈ vss, vs.length = sz) → ∀ (i j : Nat) (u : Value) (h : i < vss.length), j < sz → vss.flatten.set (i * sz + j) u = (vss.set i (vss[i].set j u)).flatten
  | x :: vss, hl, 0, j, u, _, hj => by
    have hx := hl x (List.mem_cons_self ..)
    simp only [List.flatten_cons, Nat.zero_mul, Nat.zero_add, List.set_cons_zero, List.getElem_cons_zero]
    rw [List.set_append_left _ _ (by omega)]
  | x :: vss, hl, i + 1, j, u, h, hj => by
    have hx := hl x (List.mem_cons_self ..)
    have ih := flat_set sz vss (fun y hy => hl y (List.mem_cons_of_mem _ hy)) i j u (by simpa using h) hj
    simp only [List.flatten_cons, List.set_cons_succ, List.getElem_cons_succ]
    rw [List.set_append_right _ _ (by rw [hx, Nat.succ_mul]; omega), hx, show (i + 1) * sz + j - sz = i * sz + j by rw [Nat.succ_mul]; omega, ih]
/-- One cell of one element written. -/
theorem RowO.set {g cap : Nat} (h : RowO sz T E B (.slice (some ⟨g, 0, none⟩) xs.length cap) xs w) {i j : Nat} (hi : i < xs.length) (hj : j < sz) (u : Value) (x' : α) (hE : ∀ vs y, E w vs y → E (w.setCell ⟨g, i * sz + j, none⟩ u) vs y) (hx : ∀ vs, vs.length = sz → E w vs xs[i] → E (w.setCell ⟨g, i * sz + j, none⟩ u) (vs.set j u) x') :
    RowO sz T E B (.slice (some ⟨g, 0, none⟩) xs.length cap) (xs.set i x') (w.setCell ⟨g, i * sz + j, none⟩ u) := by
  obtain ⟨vss, h1, h2, h3, h4⟩ := h
  have hv : i < vss.length := by omega
  refine ⟨vss.set i (vss[i].set j u), by simp [h1], fun vs hvs => ?_, ?_, fun k hk hk' => ?_⟩
  · obtain ⟨m, hm, rfl⟩ := List.getElem_of_mem hvs
    rw [List.getElem_set]
    split
    · rw [List.length_set]; exact h2 _ (List.getElem_mem _)
    · exact h2 _ (List.getElem_mem _)
  · rw [List.length_set, ← flat_set sz vss h2 i j u hv hj]
    exact (World.ownsRow.stored h3 (i * sz + j) u).1
  · rw [List.getElem_set, List.getElem_set]
    split
    · rename_i e
      subst e
      exact hx _ (h2 _ (List.getElem_mem _)) (h4 i hv hi)
    · rw [List.length_set] at hk hk'
      exact hE _ _ (h4 k hk hk')
theorem RowO.type (h : RowO sz T E B v xs w) {g : Nat} (hg : v.ownBlock = some g) : ∃ cur, w.heap[g]? = some (.cells cur T (0, 0)) := by
  obtain ⟨vss, h1, h2, h3, h4⟩ := h
  rcases h3.2 with ⟨rfl, h0⟩ | ⟨g', cap, cur, rfl, hB, hc, _⟩
  · cases hg
  · cases hg
    exact ⟨cur, hc⟩
end

end Go.Proofs.Ytbjkfecailnelaa
