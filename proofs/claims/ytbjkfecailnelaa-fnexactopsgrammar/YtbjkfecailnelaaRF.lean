/- Lists whose elements reach each into blocks of their own, read as lists and as rows to be marked. No program is named. -/
import Derived.Test.YtbjkfecailnelaaHdP
namespace Go.Proofs.Ytbjkfecailnelaa
open Go.RowKit
set_option linter.unusedVariables false

/-- The blocks from a on below b. -/
def Nw (a b : Nat) (k : Nat) : Prop := a ≤ k ∧ k < b
section
variable {α : Type}
/-- A list in a block of its own; element i reaches into Fs i. -/
def RowF (sz : Nat) (T : TypeId) (E : (Nat → Prop) → World → List Value → α → Prop) (F : Nat → Prop) (v : Value) (xs : List α) (w : World) : Prop :=
  ∃ (vss : List (List Value)) (Fs : Nat → Nat → Prop), vss.length = xs.length ∧ (∀ vs ∈ vss, vs.length = sz) ∧ w.ownsRow 0 T sz v xs.length vss.flatten ∧ Lay v F Fs ∧ ∀ i (h : i < vss.length) (h' : i < xs.length), E (Fs i) w vss[i] xs[i]
/-- What is told of an element is told in every world that has its blocks, and of every greater set of blocks. -/
structure StabF (E : (Nat → Prop) → World → List Value → α → Prop) : Prop where
  ag : ∀ (F : Nat → Prop) (w w' : World) (vs : List Value) (x : α), E F w vs x → Ag F w w' → E F w' vs x
  up : ∀ (F G : Nat → Prop) (w : World) (vs : List Value) (x : α), E F w vs x → (∀ k, F k → G k) → E G w vs x
variable {sz : Nat} {T : TypeId} {E : (Nat → Prop) → World → List Value → α → Prop} {F G : Nat → Prop} {v : Value} {xs : List α} {w w' : World}
theorem RowF.nil : RowF sz T E F (.slice none 0 0) ([] : List α) w := ⟨[], fun _ _ => False, rfl, fun _ h => (by cases h), ⟨by simp, .inl ⟨rfl, rfl⟩⟩, ⟨fun k h => (by cases h), fun k h => (by cases h), fun _ _ h => h.elim, fun _ _ _ _ h => h.elim⟩, fun i h => by cases h⟩
theorem RowF.own (h : RowF sz T E F v xs w) : ∃ cs, w.ownsRow 0 T sz v xs.length cs := by
  obtain ⟨vss, _, _, _, h3, _⟩ := h
  exact ⟨_, h3⟩
theorem RowF.lt (h : RowF sz T E F v xs w) : ∀ k, v.ownBlock = some k → F k ∧ k < w.heap.size := by
  obtain ⟨vss, Fs, _, _, h3, h4, _⟩ := h
  exact fun k hk => ⟨h4.own k hk, (World.ownsRow.lt h3 k hk).2⟩
theorem RowF.slice (h : RowF sz T E F v xs w) : ∃ a cap, v = .slice a xs.length cap := by
  obtain ⟨cs, ho⟩ := h.own
  rcases ho.2 with ⟨rfl, h0⟩ | ⟨g, cap, cur, rfl, _⟩
  · exact ⟨none, 0, by rw [h0]⟩
  · exact ⟨_, cap, rfl⟩
theorem RowF.ag (hE : StabF E) (h : RowF sz T E F v xs w) (ha : Ag F w w') : RowF sz T E F v xs w' := by
  obtain ⟨vss, Fs, h1, h2, h3, h4, h5⟩ := h
  exact ⟨vss, Fs, h1, h2, own_ag h3 ha h4.own, h4, fun i hi hi' => hE.ag _ _ _ _ _ (h5 i hi hi') (ha.sub (h4.sub i))⟩
theorem RowF.below (hE : StabF E) (h : RowF sz T E F v xs w) (hb : Below w.heap.size w w') : RowF sz T E F v xs w' := h.ag hE (Ag.below hb)
theorem RowF.up (h : RowF sz T E F v xs w) (hs : ∀ k, F k → G k) : RowF sz T E G v xs w := by
  obtain ⟨vss, Fs, h1, h2, h3, h4, h5⟩ := h
  exact ⟨vss, Fs, h1, h2, h3, ⟨fun k hk => hs k (h4.own k hk), h4.apart, fun i k hk => hs k (h4.sub i k hk), h4.dis⟩, h5⟩
theorem RowF.rowC {E0 : World → List Value → α → Prop} (hE : ∀ F w vs x, E F w vs x → E0 w vs x) (h : RowF sz T E F v xs w) : RowC sz E0 w v xs := by
  obtain ⟨vss, Fs, h1, h2, h3, h4, h5⟩ := h
  rcases h3.2 with ⟨rfl, hz⟩ | ⟨g, cap, cur, rfl, hB, hc, hle, hm, hs, ht⟩
  · exact ⟨none, 0, by rw [hz], fun _ => rfl, fun h0 => by omega⟩
  · refine ⟨some ⟨g, 0, none⟩, cap, rfl, fun h => (by cases h), fun _ => ⟨g, 0, rfl, (Array.getElem?_eq_some_iff.1 hc).1, fun i hi => ?_⟩⟩
    have hi' : i < vss.length := by omega
    refine ⟨vss[i], h2 _ (List.getElem_mem _), fun j hj => ?_, hE _ _ _ _ (h5 i hi' hi)⟩
    have hf := flat_at sz vss h2 i j hi' hj
    have := World.ownsRow.cells h3 (g := g) rfl (i * sz + j) _ hf
    rwa [Addr.add_lit, ← Nat.add_assoc] at this
/-- A row of scalars and rows of an element, each in blocks of its own. -/
def CellsF (τ : TypeId → List FK) (T : TypeId) (n : Nat) (F : Nat → Prop) (w : World) (vs : List Value) (m : Nat) : Prop :=
  ∃ (ms : List Nat) (Gs : Nat → Nat → Prop), ms.length = vs.length ∧ ms.sum ≤ m ∧ (∀ r k, Gs r k → F k) ∧ (∀ r q k, r ≠ q → Gs r k → ¬ Gs q k) ∧ ∀ r (h : r < vs.length), ∃ kd, (τ T)[r]? = some kd ∧ Hd τ n kd w vs[r] (ms.getD r 0) (Gs r) none
theorem flat_len : ∀ (vss : List (List Value)) (mss : List (List Nat)), vss.length = mss.length → (∀ i (h : i < vss.length) (h' : i < mss.length), mss[i].length = vss[i].length) → mss.flatten.length = vss.flatten.length
  | [], [], _, _ => rfl
  | x :: a, y :: b, hb, hx => by
    have h8 := hx 0 (by simp) (by simp)
    have h9 := flat_len a b (by simpa using hb) (fun i h h' => hx (i + 1) (by simp; omega) (by simp; omega))
    simp only [List.flatten_cons, List.length_append]
    simp only [List.getElem_cons_zero] at h8
    omega
theorem flat_getD (sz : Nat) : ∀ (mss : List (List Nat)), (∀ ms ∈ mss, ms.length = sz) → ∀ (i j : Nat) (h : i < mss.length) (hj : j < sz), mss.flatten.getD (i * sz + j) 0 = mss[i].getD j 0
  | v :: mss, hl, 0, j, h, hj => by
    have hv := hl v (List.mem_cons_self ..)
    rw [List.getD_eq_getElem?_getD, List.flatten_cons, Nat.zero_mul, Nat.zero_add, List.getElem?_append_left (by omega), List.getD_eq_getElem?_getD]
    rfl
  | v :: mss, hl, i + 1, j, h, hj => by
    have hv := hl v (List.mem_cons_self ..)
    rw [List.getD_eq_getElem?_getD, List.flatten_cons, List.getElem?_append_right (by rw [hv, Nat.succ_mul]; omega), hv, show (i + 1) * sz + j - sz = i * sz + j by rw [Nat.succ_mul]; omega, ← List.getD_eq_getElem?_getD]
    exact flat_getD sz mss (fun x hx => hl x (List.mem_cons_of_mem _ hx)) i j (by simpa using h) hj
/-- A list whose elements are such rows is one to be marked. -/
theorem RowF.hd {τ : TypeId → List FK} {n : Nat} {cnt : α → Nat} (hsz : (τ T).length = sz) (h0 : 0 < sz) (hE : ∀ F w vs x, E F w vs x → CellsF τ T n F w vs (cnt x)) (h : RowF sz T E F v xs w) : ∃ c, c ≤ (xs.map cnt).sum ∧ Hd τ (n + 1) (.row T) w v c F none := by
  obtain ⟨vss, Fs, h1, h2, h3, h4, h5⟩ := h
  have key : ∀ q, q ≤ vss.length → ∃ (mss : List (List Nat)) (Gs : Nat → Nat → Nat → Prop), mss.length = q ∧ mss.flatten.sum ≤ ((xs.take q).map cnt).sum ∧ (∀ i r k, Gs i r k → Fs i k) ∧ (∀ i r q k, r ≠ q → Gs i r k → ¬ Gs i q k) ∧
      ∀ i (h : i < q) (h' : i < vss.length) (h'' : i < mss.length), mss[i].length = vss[i].length ∧ ∀ r (hr : r < vss[i].length), ∃ kd, (τ T)[r]? = some kd ∧ Hd τ n kd w vss[i][r] (mss[i].getD r 0) (Gs i r) none := by
    intro q
    induction q with
    | zero => exact fun _ => ⟨[], fun _ _ _ => False, rfl, Nat.le_refl _, fun _ _ _ h => h.elim, fun _ _ _ _ _ h => h.elim, fun i h => absurd h (Nat.not_lt_zero _)⟩
    | succ q ih =>
      intro hq
      obtain ⟨mss, Gs, g1, g2, g3, g4, g5⟩ := ih (by omega)
      obtain ⟨ms, Gq, m1, m2, m3, m4, m5⟩ := hE _ _ _ _ (h5 q (by omega) (by omega))
      refine ⟨mss ++ [ms], fun i => if i = q then Gq else Gs i, by simp [g1], ?_, fun i r k hk => ?_, fun i r r' k hne hk => ?_, fun i hi hi' hi'' => ?_⟩
      · rw [List.take_succ_eq_append_getElem (by omega)]
        simp only [List.flatten_append, List.sum_append, List.map_append, List.map_cons, List.map_nil, List.sum_cons, List.sum_nil, List.flatten_cons, List.flatten_nil, List.append_nil]
        omega
      · by_cases e : i = q
        · subst e
          have hk2 : Gq r k := by simpa using hk
          exact m3 r k hk2
        · have hk2 : Gs i r k := by simpa [e] using hk
          exact g3 i r k hk2
      · by_cases e : i = q
        · subst e
          have hk2 : Gq r k := by simpa using hk
          intro hk3
          exact m4 r r' k hne hk2 (by simpa using hk3)
        · have hk2 : Gs i r k := by simpa [e] using hk
          intro hk3
          exact g4 i r r' k hne hk2 (by simpa [e] using hk3)
      · by_cases e : i = q
        · subst e
          rw [List.getElem_append_right (by omega)]
          simp only [g1, Nat.sub_self, List.getElem_cons_zero, if_true]
          exact ⟨m1, m5⟩
        · rw [List.getElem_append_left (by omega)]
          simp only [e, if_false]
          exact g5 i (by omega) hi' (by omega)
  obtain ⟨mss, Gs, g1, g2, g3, g4, g5⟩ := key vss.length (Nat.le_refl _)
  rw [h1, List.take_length] at g2
  have hms : ∀ ms ∈ mss, ms.length = sz := fun ms hm => by
    obtain ⟨i, hi, rfl⟩ := List.getElem_of_mem hm
    rw [(g5 i (by omega) (by omega) hi).1]
    exact h2 _ (List.getElem_mem _)
  refine ⟨mss.flatten.sum, g2, xs.length, vss.flatten, mss.flatten, fun p => Gs (p / sz) (p % sz), by rw [hsz]; exact h3, flat_len vss mss (by omega) (fun i h h' => (g5 i h h h').1), rfl, ⟨h4.own, fun k hk i hi => h4.apart k hk _ (g3 _ _ _ hi), fun i k hk => h4.sub _ _ (g3 _ _ _ hk), fun i j k hne hi hj => ?_⟩, fun p hp => ?_⟩
  · by_cases e : i / sz = j / sz
    · have hr : i % sz ≠ j % sz := fun e2 => hne (by rw [← Nat.div_add_mod i sz, ← Nat.div_add_mod j sz, e, e2])
      rw [← e] at hj
      exact g4 _ _ _ _ hr hi hj
    · exact h4.dis _ _ _ e (g3 _ _ _ hi) (g3 _ _ _ hj)
  · have hl : vss.flatten.length = vss.length * sz := by rw [h3.1, h1]
    have hq : p / sz < vss.length := by rw [Nat.div_lt_iff_lt_mul h0]; omega
    have hr : p % sz < sz := Nat.mod_lt _ h0
    have hrv : p % sz < vss[p / sz].length := by rw [h2 _ (List.getElem_mem _)]; exact hr
    obtain ⟨kd, k1, k2⟩ := (g5 (p / sz) hq hq (by omega)).2 (p % sz) hrv
    have ep : p / sz * sz + p % sz = p := by rw [Nat.mul_comm]; exact Nat.div_add_mod p sz
    have f1 := flat_at sz vss h2 (p / sz) (p % sz) hq hrv
    rw [ep, List.getElem?_eq_getElem hp] at f1
    have f2 := flat_getD sz mss hms (p / sz) (p % sz) (by omega) hr
    rw [ep] at f2
    refine ⟨kd, by rw [hsz]; exact k1, ?_⟩
    rw [Option.some.inj f1, f2]
    exact k2
/-- One element more. -/
theorem RowF.add {B H : Nat} (hE : StabF E) (h : RowF sz T E (Nw B H) v xs w) (hBH : B ≤ H) (hH : H ≤ w.heap.size) : ∃ cs, w.ownsRow 0 T sz v xs.length cs ∧ ∀ (w1 w2 : World) (ob : Obj) (v' : Value) (vs : List Value) (x : α), vs.length = sz → Below w.heap.size w w1 → E (Nw H w1.heap.size) w1 vs x → w2.ownsRow 0 T sz v' (xs.length + 1) (cs ++ vs) →
    (w1.alloc ob).grownBy w2 v.ownBlock → (v'.ownBlock = v.ownBlock ∨ v'.ownBlock = some (w1.alloc ob).heap.size) → RowF sz T E (Nw B w2.heap.size) v' (xs ++ [x]) w2 := by
  obtain ⟨vss, Fs, h1, h2, h3, h4, h5⟩ := h
  refine ⟨vss.flatten, h3, fun w1 w2 ob v' vs x hl hb hx ho hg hat => ?_⟩
  have ha1 : ∀ F : Nat → Prop, Ag F w (w1.alloc ob) := fun F => (Ag.below hb).trans (Ag.below ((Below.refl _ _).alloc (Nat.le_refl _) _))
  have hs1 : (w1.alloc ob).heap.size = w1.heap.size + 1 := by simp
  have hs2 := hg.size
  have hbs := hb.size
  have hold : ∀ k, v.ownBlock = some k → B ≤ k ∧ k < H := fun k hk => h4.own k hk
  have hnew : ∀ k, v'.ownBlock = some k → (v.ownBlock = some k) ∨ k = w1.heap.size + 1 := fun k hk => by
    rcases hat with e | e
    · exact .inl (by rw [← e]; exact hk)
    · rw [e] at hk; exact .inr (by have := Option.some.inj hk; omega)
  have hlt : ∀ k, v'.ownBlock = some k → k < w2.heap.size := fun k hk => (World.ownsRow.lt ho k hk).2
  have ha2 : ∀ F : Nat → Prop, (∀ k, F k → v.ownBlock ≠ some k) → Ag F (w1.alloc ob) w2 := fun F hF => ⟨hg.size, fun k hk hl => hg.block k hl (fun e => hF k hk e.symm)⟩
  refine ⟨vss ++ [vs], fun i => if i < xs.length then Fs i else if i = xs.length then Nw H w1.heap.size else fun _ => False, by simp [h1], fun u hu => ?_, by simpa using ho, ⟨fun k hk => ?_, fun k hk i hi => ?_, fun i k hk => ?_, fun i j k hne hi hj => ?_⟩, fun i hi hi' => ?_⟩
  · rcases List.mem_append.1 hu with hu | hu
    · exact h2 u hu
    · rw [List.mem_singleton.1 hu]; exact hl
  · rcases hnew k hk with e | e
    · exact ⟨(hold k e).1, hlt k hk⟩
    · exact ⟨by omega, hlt k hk⟩
  · have hi2 : (if i < xs.length then Fs i else if i = xs.length then Nw H w1.heap.size else fun _ => False) k := hi
    by_cases c1 : i < xs.length
    · rw [if_pos c1] at hi2
      rcases hnew k hk with e | e
      · exact h4.apart k e i hi2
      · have := (h4.sub i k hi2).2; omega
    · rw [if_neg c1] at hi2
      by_cases c2 : i = xs.length
      · rw [if_pos c2] at hi2
        rcases hnew k hk with e | e
        · have h6 := (hold k e).2
          have h7 : H ≤ k := hi2.1
          omega
        · have h7 : k < w1.heap.size := hi2.2
          omega
      · rw [if_neg c2] at hi2; exact hi2
  · have hi2 : (if i < xs.length then Fs i else if i = xs.length then Nw H w1.heap.size else fun _ => False) k := hk
    by_cases c1 : i < xs.length
    · rw [if_pos c1] at hi2
      have := h4.sub i k hi2
      exact ⟨this.1, by have h6 := this.2; omega⟩
    · rw [if_neg c1] at hi2
      by_cases c2 : i = xs.length
      · rw [if_pos c2] at hi2
        exact ⟨by have h6 : H ≤ k := hi2.1; omega, by have h6 : k < w1.heap.size := hi2.2; omega⟩
      · rw [if_neg c2] at hi2; exact hi2.elim
  · have hi2 : (if i < xs.length then Fs i else if i = xs.length then Nw H w1.heap.size else fun _ => False) k := hi
    have hj2 : (if j < xs.length then Fs j else if j = xs.length then Nw H w1.heap.size else fun _ => False) k := hj
    by_cases c1 : i < xs.length
    · rw [if_pos c1] at hi2
      by_cases d1 : j < xs.length
      · rw [if_pos d1] at hj2; exact h4.dis i j k hne hi2 hj2
      · rw [if_neg d1] at hj2
        by_cases d2 : j = xs.length
        · rw [if_pos d2] at hj2
          have h6 := (h4.sub i k hi2).2
          have h7 : H ≤ k := hj2.1
          omega
        · rw [if_neg d2] at hj2; exact hj2
    · rw [if_neg c1] at hi2
      by_cases c2 : i = xs.length
      · rw [if_pos c2] at hi2
        by_cases d1 : j < xs.length
        · rw [if_pos d1] at hj2
          have h6 := (h4.sub j k hj2).2
          have h7 : H ≤ k := hi2.1
          omega
        · rw [if_neg d1, if_neg (by omega)] at hj2; exact hj2
      · rw [if_neg c2] at hi2; exact hi2
  · by_cases c1 : i < vss.length
    · have ec : (fun i => if i < xs.length then Fs i else if i = xs.length then Nw H w1.heap.size else fun _ => False) i = Fs i := if_pos (by omega)
      rw [List.getElem_append_left c1, List.getElem_append_left (by omega), ec]
      have e1 := hE.ag _ _ _ _ _ (h5 i c1 (by omega)) (ha1 _)
      exact hE.ag _ _ _ _ _ e1 (ha2 _ (fun k hk e => h4.apart k e i hk))
    · have e : i = vss.length := by simp at hi; omega
      subst e
      have ec : (fun i => if i < xs.length then Fs i else if i = xs.length then Nw H w1.heap.size else fun _ => False) vss.length = Nw H w1.heap.size := by
        show (if vss.length < xs.length then _ else if vss.length = xs.length then _ else _) = _
        rw [if_neg (by omega), if_pos h1]
      rw [List.getElem_append_right (Nat.le_refl _), List.getElem_append_right (by omega), ec]
      simp only [Nat.sub_self, h1, List.getElem_cons_zero]
      have e1 := hE.ag _ _ _ _ _ hx (Ag.below ((Below.refl w1.heap.size w1).alloc (Nat.le_refl _) ob))
      exact hE.ag _ _ _ _ _ e1 (ha2 _ (fun k hk e => by have h6 := (hold k e).2; have h7 : H ≤ k := hk.1; omega))
theorem RowF.fresh {B H : Nat} {E0 : World → List Value → α → Prop} (hE : StabF E) (h0 : ∀ F w vs x, E F w vs x → E0 w vs x) (h : RowF sz T E (Nw B H) v xs w) : Fresh B w fun W => RowC sz E0 W v xs := fun W h1 h2 =>
  (h.ag hE ⟨h1, fun k hk hl => h2 k hk.1 hl⟩).rowC h0
end

end Go.Proofs.Ytbjkfecailnelaa
