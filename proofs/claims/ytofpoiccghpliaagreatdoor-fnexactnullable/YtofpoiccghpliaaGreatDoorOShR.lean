/- Shapes with no numbers to be kept: what a value reaches is of its kinds, and no more than so many. No program is named. -/
/- A list that was built cell by cell, told with its shape. -/
import Derived.Test.YtofpoiccghpliaaGreatDoorMK
namespace Go.Proofs.YtofpoiccghpliaaGreatDoor
open Go.RowKit
set_option linter.unusedVariables false
section
variable {τ : TypeId → List FK} {B B' H H' : Nat} {w w' : World}

theorem shp_mono (hB : B' ≤ B) (hH : H ≤ H') : ∀ (n n' : Nat), n ≤ n' → ∀ (k : FK) (v : Value) (c : Nat), Shp τ B H n k w v c → Shp τ B' H' n' k w v c := by
  intro n
  induction n with
  | zero =>
    intro n' _ k v c h
    cases k with
    | int => cases n' <;> exact h
    | str => cases n' <;> exact h
    | row t => exact h.elim
  | succ n ih =>
    intro n' hn k v c h
    cases k with
    | int => cases n' <;> exact h
    | str => cases n' <;> exact h
    | row t =>
      obtain ⟨m, rfl⟩ : ∃ m, n' = m + 1 := ⟨n' - 1, by omega⟩
      obtain ⟨h0, len, cs, ns, h1, h2, h3, h4⟩ := h
      refine ⟨fun k hk => Nat.lt_of_lt_of_le (h0 k hk) hH, len, cs, ns, ?_, h2, h3, fun i hi hi' => ?_⟩
      · refine ⟨h1.1, ?_⟩
        rcases h1.2 with hz | ⟨g, cap, cur, e, hg, r⟩
        · exact .inl hz
        · exact .inr ⟨g, cap, cur, e, Nat.le_trans hB hg, r⟩
      · obtain ⟨k, hk, hs⟩ := h4 i hi hi'
        exact ⟨k, hk, ih m (by omega) k _ _ hs⟩
/-- In every world that has the blocks from B on. -/
theorem shp_fresh {W : World} (hW : w.heap.size ≤ W.heap.size) (hb : ∀ k, B ≤ k → k < w.heap.size → W.heap[k]? = w.heap[k]?) : ∀ (n : Nat) (k : FK) (v : Value) (c : Nat), Shp τ B H n k w v c → Shp τ B H n k W v c := by
  intro n
  induction n with
  | zero => intro k v c h; cases k <;> exact h
  | succ n ih =>
    intro k v c h
    cases k with
    | int => exact h
    | str => exact h
    | row t =>
      obtain ⟨h0, len, cs, ns, h1, h2, h3, h4⟩ := h
      refine ⟨h0, len, cs, ns, ⟨h1.1, ?_⟩, h2, h3, fun i hi hi' => ?_⟩
      · rcases h1.2 with hz | ⟨g, cap, cur, e, hg, hc, r⟩
        · exact .inl hz
        · refine .inr ⟨g, cap, cur, e, hg, ?_, r⟩
          rw [hb g hg (Array.getElem?_eq_some_iff.1 hc).1]
          exact hc
      · obtain ⟨k, hk, hs⟩ := h4 i hi hi'
        exact ⟨k, hk, ih k _ _ hs⟩
/-- All its rows lie below the heap's end. -/
theorem shp_tight : ∀ (n : Nat) (k : FK) (v : Value) (c : Nat), Shp τ B H n k w v c → Shp τ B w.heap.size n k w v c := by
  intro n
  induction n with
  | zero => intro k v c h; cases k <;> exact h
  | succ n ih =>
    intro k v c h
    cases k with
    | int => exact h
    | str => exact h
    | row t =>
      obtain ⟨h0, len, cs, ns, h1, h2, h3, h4⟩ := h
      refine ⟨fun k hk => (World.ownsRow.lt h1 k hk).2, len, cs, ns, h1, h2, h3, fun i hi hi' => ?_⟩
      obtain ⟨k, hk, hs⟩ := h4 i hi hi'
      exact ⟨k, hk, ih k _ _ hs⟩

/-- v is of a kind, its rows lie from B on, and it reaches at most m numbers and texts. -/
def ShK (τ : TypeId → List FK) (B : Nat) (k : FK) (w : World) (v : Value) (m : Nat) : Prop := ∃ H n c, c ≤ m ∧ Shp τ B H n k w v c
theorem ShK.int (z : Int) : ShK τ B .int w (.int .i64 z) 1 := ⟨0, 0, 1, Nat.le_refl _, ⟨z, rfl⟩, rfl⟩
theorem ShK.str (s : ByteArray) : ShK τ B .str w (.string s) 1 := ⟨0, 0, 1, Nat.le_refl _, ⟨s, rfl⟩, rfl⟩
theorem ShK.more {k : FK} {v : Value} {m m' : Nat} (h : ShK τ B k w v m) (hm : m ≤ m') : ShK τ B k w v m' := by
  obtain ⟨H, n, c, h1, h2⟩ := h
  exact ⟨H, n, c, Nat.le_trans h1 hm, h2⟩
theorem ShK.fresh {k : FK} {v : Value} {m : Nat} (h : ShK τ B k w v m) : Fresh B w fun W => ShK τ B k W v m := fun W h1 h2 => by
  obtain ⟨H, n, c, h3, h4⟩ := h
  exact ⟨H, n, c, h3, shp_fresh h1 h2 n k v c h4⟩
theorem ShK.here {t : TypeId} {v : Value} {m : Nat} (h : ShK τ B (.row t) w v m) (d : Nat) : ∃ n c, c ≤ m ∧ Shp τ B w.heap.size (n + d) (.row t) w v c := by
  obtain ⟨H, n, c, h1, h2⟩ := h
  exact ⟨n, c, h1, shp_mono (Nat.le_refl _) (Nat.le_refl _) n (n + d) (by omega) _ _ _ (shp_tight n _ v c h2)⟩
/-- A row of cells each of its kind. -/
theorem ShK.row {t : TypeId} {v : Value} {len : Nat} {cs : List Value} {ms : List Nat} (hown : w.ownsRow B t (τ t).length v len cs) (hl : ms.length = cs.length) (hc : ∀ i (h : i < cs.length) (h' : i < ms.length), ∃ k, (τ t)[i % (τ t).length]? = some k ∧ ShK τ B k w cs[i] ms[i]) : ShK τ B (.row t) w v ms.sum := by
  have key : ∀ q, q ≤ cs.length → ∃ H n, ∃ ns : List Nat, ns.length = q ∧ ns.sum ≤ (ms.take q).sum ∧ ∀ i (h : i < q) (h1 : i < cs.length) (h' : i < ns.length), ∃ k, (τ t)[i % (τ t).length]? = some k ∧ Shp τ B H n k w cs[i] ns[i] := by
    intro q
    induction q with
    | zero => exact fun _ => ⟨0, 0, [], rfl, Nat.le_refl _, fun i h => absurd h (Nat.not_lt_zero _)⟩
    | succ q ih =>
      intro hq
      obtain ⟨H, n, ns, h1, h2, h3⟩ := ih (by omega)
      obtain ⟨k, hk, H2, n2, c2, h4, h5⟩ := hc q (by omega) (by omega)
      refine ⟨max H H2, max n n2, ns ++ [c2], by simp [h1], ?_, fun i hi h6 h7 => ?_⟩
      · rw [List.take_succ_eq_append_getElem (by omega)]
        simp only [List.sum_append, List.sum_cons, List.sum_nil]
        omega
      · by_cases hlt : i < q
        · obtain ⟨k', hk', hs⟩ := h3 i hlt h6 (by omega)
          refine ⟨k', hk', ?_⟩
          rw [List.getElem_append_left (by omega)]
          exact shp_mono (Nat.le_refl _) (Nat.le_max_left _ _) n _ (Nat.le_max_left _ _) _ _ _ hs
        · obtain rfl : i = q := by omega
          refine ⟨k, hk, ?_⟩
          rw [List.getElem_append_right (by omega)]
          simp only [h1, Nat.sub_self, List.getElem_cons_zero]
          exact shp_mono (Nat.le_refl _) (Nat.le_max_right _ _) n2 _ (Nat.le_max_right _ _) _ _ _ h5
  obtain ⟨H, n, ns, h1, h2, h3⟩ := key cs.length (Nat.le_refl _)
  rw [← hl, List.take_length] at h2
  refine ⟨max H w.heap.size, n + 1, ns.sum, h2, fun k hk => Nat.lt_of_lt_of_le (World.ownsRow.lt hown k hk).2 (Nat.le_max_right _ _), len, cs, ns, hown, h1, rfl, fun i hi hi' => ?_⟩
  obtain ⟨k, hk, hs⟩ := h3 i hi hi hi'
  exact ⟨k, hk, shp_mono (Nat.le_refl _) (Nat.le_max_left _ _) n n (Nat.le_refl _) _ _ _ hs⟩
end
end Go.Proofs.YtofpoiccghpliaaGreatDoor

namespace Go.Proofs.YtofpoiccghpliaaGreatDoor
open Go.RowKit
set_option linter.unusedVariables false
section
variable {α : Type} {τ : TypeId → List FK} {Bx : Nat}

theorem flat_shapes {sz : Nat} (P : Nat → Value → Nat → Prop) : ∀ (vss : List (List Value)) (mss : List (List Nat)), vss.length = mss.length → (∀ vs ∈ vss, vs.length = sz) → (∀ ms ∈ mss, ms.length = sz) →
    (∀ q (h : q < vss.length) (h' : q < mss.length) r (h1 : r < vss[q].length) (h2 : r < mss[q].length), P r vss[q][r] mss[q][r]) → ∀ i (h : i < vss.flatten.length) (h' : i < mss.flatten.length), P (i % sz) vss.flatten[i] mss.flatten[i]
  | [], _, _, _, _, _, i, h, _ => by simp at h
  | vs :: vss, [], hl, _, _, _, i, _, _ => by simp at hl
  | vs :: vss, ms :: mss, hl, hv, hm, hP, i, h, h' => by
    have e1 := hv vs (List.mem_cons_self ..)
    have e2 := hm ms (List.mem_cons_self ..)
    simp only [List.flatten_cons]
    by_cases hi : i < sz
    · rw [List.getElem_append_left (by omega), List.getElem_append_left (by omega), Nat.mod_eq_of_lt hi]
      exact hP 0 (by simp) (by simp) i (by simp; omega) (by simp; omega)
    · rw [List.getElem_append_right (by omega), List.getElem_append_right (by omega), Nat.mod_eq_sub_mod (by omega)]
      simp only [e1, e2]
      simp only [List.flatten_cons, List.length_append, e1, e2] at h h'
      exact flat_shapes P vss mss (by simpa using hl) (fun x hx => hv x (List.mem_cons_of_mem _ hx)) (fun x hx => hm x (List.mem_cons_of_mem _ hx)) (fun q h1 h2 r h3 h4 => hP (q + 1) (by simp; omega) (by simp; omega) r h3 h4) (i - sz) (by omega) (by omega)
/-- An element with the shape of each of its cells. -/
def WithS (τ : TypeId → List FK) (Bx : Nat) (T : TypeId) (E : World → List Value → α → Prop) (cnt : α → Nat) (W : World) (vs : List Value) (x : α) : Prop :=
  E W vs x ∧ ∃ ms : List Nat, ms.length = vs.length ∧ ms.sum ≤ cnt x ∧ ∀ r (h : r < vs.length) (h' : r < ms.length), ∃ k, (τ T)[r]? = some k ∧ ShK τ Bx k W vs[r] ms[r]
theorem pick_ms {T : TypeId} {E : World → List Value → α → Prop} {cnt : α → Nat} {W : World} {vss : List (List Value)} {xs : List α} (hl : vss.length = xs.length) (h : ∀ i (h : i < vss.length) (h' : i < xs.length), WithS τ Bx T E cnt W vss[i] xs[i]) :
    ∀ q, q ≤ vss.length → ∃ mss : List (List Nat), mss.length = q ∧ mss.flatten.sum ≤ ((xs.take q).map cnt).sum ∧ ∀ i (h : i < q) (h1 : i < vss.length) (h2 : i < mss.length), mss[i].length = vss[i].length ∧ ∀ r (h3 : r < vss[i].length) (h4 : r < mss[i].length), ∃ k, (τ T)[r]? = some k ∧ ShK τ Bx k W vss[i][r] mss[i][r] := by
  intro q
  induction q with
  | zero => exact fun _ => ⟨[], rfl, Nat.le_refl _, fun i h => absurd h (Nat.not_lt_zero _)⟩
  | succ q ih =>
    intro hq
    obtain ⟨mss, h1, h2, h3⟩ := ih (by omega)
    obtain ⟨_, ms, h4, h5, h6⟩ := h q (by omega) (by omega)
    refine ⟨mss ++ [ms], by simp [h1], ?_, fun i hi h7 h8 => ?_⟩
    · rw [List.take_succ_eq_append_getElem (by omega)]
      simp only [List.flatten_append, List.sum_append, List.map_append, List.map_cons, List.map_nil, List.sum_cons, List.sum_nil, List.flatten_cons, List.flatten_nil, List.append_nil]
      omega
    · by_cases hlt : i < q
      · rw [List.getElem_append_left (by omega)]
        exact h3 i hlt h7 (by omega)
      · obtain rfl : i = q := by omega
        rw [List.getElem_append_right (by omega)]
        simp only [h1, Nat.sub_self, List.getElem_cons_zero]
        exact ⟨h4, h6⟩
theorem RowTo.done2 {sz : Nat} {E : World → List Value → α → Prop} {cnt : α → Nat} {e : TypeId} {B g : Nat} {xs : List α} {w : World} (hsz : (τ e).length = sz) (hB : Bx ≤ B) (h : RowTo sz (WithS τ Bx e E cnt) e B g xs xs.length w) :
    Fresh g w fun W => RowC sz E W (.slice (some ⟨g, 0, none⟩) xs.length xs.length) xs ∧ ShK τ Bx (.row e) W (.slice (some ⟨g, 0, none⟩) xs.length xs.length) ((xs.map cnt).sum) := by
  intro W hW hbl
  have h0 := h.done W hW hbl
  refine ⟨?_, ?_⟩
  · obtain ⟨a, c, e1, h1, h2⟩ := h0
    refine ⟨a, c, e1, h1, fun hp => ?_⟩
    obtain ⟨b, off, e2, h3, h4⟩ := h2 hp
    refine ⟨b, off, e2, h3, fun i hi => ?_⟩
    obtain ⟨vs, h5, h6, h7⟩ := h4 i hi
    exact ⟨vs, h5, h6, h7.1⟩
  · obtain ⟨cs, vss, h1, h2, h3, h4, h5, h6⟩ := h
    have hg := World.ownsRow.lt h1 g rfl
    have hcs : cs.length = xs.length * sz := h1.1
    have hfl : cs = vss.flatten := by
      rw [← h5, List.take_of_length_le (by rw [hcs]; exact Nat.le_refl _)]
    have hown : W.ownsRow Bx e (τ e).length (.slice (some ⟨g, 0, none⟩) xs.length xs.length) xs.length vss.flatten := by
      rw [hsz, ← hfl]
      refine ⟨h1.1, ?_⟩
      rcases h1.2 with ⟨hz, _⟩ | ⟨g', cap, cur, ev, hgB, hc, r⟩
      · cases hz
      · refine .inr ⟨g', cap, cur, ev, Nat.le_trans hB hgB, ?_, r⟩
        cases ev
        rw [hbl g (Nat.le_refl _) hg.2]
        exact hc
    obtain ⟨mss, m1, m2, m3⟩ := pick_ms (by rw [h3]) (fun i hi hi' => h6 i hi hi' W hW (fun k hk => hbl k (by omega))) vss.length (Nat.le_refl _)
    rw [h3, List.take_length] at m2
    refine (ShK.row hown (ms := mss.flatten) ?_ (fun i hi hi' => ?_)).more m2
    · have e3 : ∀ (a : List (List Value)) (b : List (List Nat)), a.length = b.length → (∀ i (h : i < a.length) (h' : i < b.length), b[i].length = a[i].length) → b.flatten.length = a.flatten.length := by
        intro a
        induction a with
        | nil => intro b hb _; obtain rfl : b = [] := List.length_eq_zero_iff.1 (by simpa using hb.symm); rfl
        | cons x a ih =>
          intro b hb hx
          match b, hb with
          | y :: b, hb =>
            have h8 := hx 0 (by simp) (by simp)
            have h9 := ih b (by simpa using hb) (fun i h h' => hx (i + 1) (by simp; omega) (by simp; omega))
            simp only [List.flatten_cons, List.length_append]
            simp only [List.getElem_cons_zero] at h8
            omega
      exact e3 vss mss (by omega) (fun i h h' => (m3 i h h h').1)
    · have := flat_shapes (sz := sz) (fun r v m => ∃ k, (τ e)[r]? = some k ∧ ShK τ Bx k W v m) vss mss (by omega) h4 (fun ms hms => by
        obtain ⟨i, hi2, rfl⟩ := List.getElem_of_mem hms
        rw [(m3 i (by omega) (by omega) hi2).1]
        exact h4 _ (List.getElem_mem _)) (fun q h8 h9 r h10 h11 => (m3 q h8 h8 h9).2 r h10 h11) i hi hi'
      rw [hsz]
      exact this
end
end Go.Proofs.YtofpoiccghpliaaGreatDoor
