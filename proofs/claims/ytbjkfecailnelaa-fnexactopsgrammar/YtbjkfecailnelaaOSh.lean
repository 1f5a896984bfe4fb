/- Shapes with no numbers to be kept: what a value reaches is of its kinds, and no more than so many. No program is named. -/
import Derived.Test.YtbjkfecailnelaaSH
namespace Go.Proofs.Ytbjkfecailnelaa
open Go.RowKit
set_option linter.unusedVariables false
section
variable {τ : TypeId → List FK} {B B' H H' : Nat} {w w' : World}

theorem shp_mono (hB : B' ≤ B) (hH : H ≤ H') : ∀ (n n' : Nat), n ≤ n' → ∀ (k : FK) (v : Value) (c : Nat), Shp τ B H n k w v c → Shp τ B' H' n' k w v c := by
  intro n
  induction n with
  | zero =>
    intro n' _ k v c h
    cases k with
    | int => cases n' <;> exact h
    | str => cases n' <;> exact h
    | row t => exact h.elim
  | succ n ih =>
    intro n' hn k v c h
    cases k with
    | int => cases n' <;> exact h
    | str => cases n' <;> exact h
    | row t =>
      obtain ⟨m, rfl⟩ : ∃ m, n' = m + 1 := ⟨n' - 1, by omega⟩
      obtain ⟨h0, len, cs, ns, h1, h2, h3, h4⟩ := h
      refine ⟨fun k hk => Nat.lt_of_lt_of_le (h0 k hk) hH, len, cs, ns, ?_, h2, h3, fun i hi hi' => ?_⟩
      · refine ⟨h1.1, ?_⟩
        rcases h1.2 with hz | ⟨g, cap, cur, e, hg, r⟩
        · exact .inl hz
        · exact .inr ⟨g, cap, cur, e, Nat.le_trans hB hg, r⟩
      · obtain ⟨k, hk, hs⟩ := h4 i hi hi'
        exact ⟨k, hk, ih m (by omega) k _ _ hs⟩
/-- In every world that has the blocks from B on. -/
theorem shp_fresh {W : World} (hW : w.heap.size ≤ W.heap.size) (hb : ∀ k, B ≤ k → k < w.heap.size → W.heap[k]? = w.heap[k]?) : ∀ (n : Nat) (k : FK) (v : Value) (c : Nat), Shp τ B H n k w v c → Shp τ B H n k W v c := by
  intro n
  induction n with
  | zero => intro k v c h; cases k <;> exact h
  | succ n ih =>
    intro k v c h
    cases k with
    | int => exact h
    | str => exact h
    | row t =>
      obtain ⟨h0, len, cs, ns, h1, h2, h3, h4⟩ := h
      refine ⟨h0, len, cs, ns, ⟨h1.1, ?_⟩, h2, h3, fun i hi hi' => ?_⟩
      · rcases h1.2 with hz | ⟨g, cap, cur, e, hg, hc, r⟩
        · exact .inl hz
        · refine .inr ⟨g, cap, cur, e, hg, ?_, r⟩
          rw [hb g hg (Array.getElem?_eq_some_iff.1 hc).1]
          exact hc
      · obtain ⟨k, hk, hs⟩ := h4 i hi hi'
        exact ⟨k, hk, ih k _ _ hs⟩
/-- All its rows lie below the heap's end. -/
theorem shp_tight : ∀ (n : Nat) (k : FK) (v : Value) (c : Nat), Shp τ B H n k w v c → Shp τ B w.heap.size n k w v c := by
  intro n
  induction n with
  | zero => intro k v c h; cases k <;> exact h
  | succ n ih =>
    intro k v c h
    cases k with
    | int => exact h
    | str => exact h
    | row t =>
      obtain ⟨h0, len, cs, ns, h1, h2, h3, h4⟩ := h
      refine ⟨fun k hk => (World.ownsRow.lt h1 k hk).2, len, cs, ns, h1, h2, h3, fun i hi hi' => ?_⟩
      obtain ⟨k, hk, hs⟩ := h4 i hi hi'
      exact ⟨k, hk, ih k _ _ hs⟩

/-- v is of a kind, its rows lie from B on, and it reaches at most m numbers and texts. -/
def ShK (τ : TypeId → List FK) (B : Nat) (k : FK) (w : World) (v : Value) (m : Nat) : Prop := ∃ H n c, c ≤ m ∧ Shp τ B H n k w v c
theorem ShK.int (z : Int) : ShK τ B .int w (.int .i64 z) 1 := ⟨0, 0, 1, Nat.le_refl _, ⟨z, rfl⟩, rfl⟩
theorem ShK.str (s : ByteArray) : ShK τ B .str w (.string s) 1 := ⟨0, 0, 1, Nat.le_refl _, ⟨s, rfl⟩, rfl⟩
theorem ShK.more {k : FK} {v : Value} {m m' : Nat} (h : ShK τ B k w v m) (hm : m ≤ m') : ShK τ B k w v m' := by
  obtain ⟨H, n, c, h1, h2⟩ := h
  exact ⟨H, n, c, Nat.le_trans h1 hm, h2⟩
theorem ShK.fresh {k : FK} {v : Value} {m : Nat} (h : ShK τ B k w v m) : Fresh B w fun W => ShK τ B k W v m := fun W h1 h2 => by
  obtain ⟨H, n, c, h3, h4⟩ := h
  exact ⟨H, n, c, h3, shp_fresh h1 h2 n k v c h4⟩
theorem ShK.here {t : TypeId} {v : Value} {m : Nat} (h : ShK τ B (.row t) w v m) (d : Nat) : ∃ n c, c ≤ m ∧ Shp τ B w.heap.size (n + d) (.row t) w v c := by
  obtain ⟨H, n, c, h1, h2⟩ := h
  exact ⟨n, c, h1, shp_mono (Nat.le_refl _) (Nat.le_refl _) n (n + d) (by omega) _ _ _ (shp_tight n _ v c h2)⟩
/-- A row of cells each of its kind. -/
theorem ShK.row {t : TypeId} {v : Value} {len : Nat} {cs : List Value} {ms : List Nat} (hown : w.ownsRow B t (τ t).length v len cs) (hl : ms.length = cs.length) (hc : ∀ i (h : i < cs.length) (h' : i < ms.length), ∃ k, (τ t)[i % (τ t).length]? = some k ∧ ShK τ B k w cs[i] ms[i]) : ShK τ B (.row t) w v ms.sum := by
  have key : ∀ q, q ≤ cs.length → ∃ H n, ∃ ns : List Nat, ns.length = q ∧ ns.sum ≤ (ms.take q).sum ∧ ∀ i (h : i < q) (h1 : i < cs.length) (h' : i < ns.length), ∃ k, (τ t)[i % (τ t).length]? = some k ∧ Shp τ B H n k w cs[i] ns[i] := by
    intro q
    induction q with
    | zero => exact fun _ => ⟨0, 0, [], rfl, Nat.le_refl _, fun i h => absurd h (Nat.not_lt_zero _)⟩
    | succ q ih =>
      intro hq
      obtain ⟨H, n, ns, h1, h2, h3⟩ := ih (by omega)
      obtain ⟨k, hk, H2, n2, c2, h4, h5⟩ := hc q (by omega) (by omega)
      refine ⟨max H H2, max n n2, ns ++ [c2], by simp [h1], ?_, fun i hi h6 h7 => ?_⟩
      · rw [List.take_succ_eq_append_getElem (by omega)]
        simp only [List.sum_append, List.sum_cons, List.sum_nil]
        omega
      · by_cases hlt : i < q
        · obtain ⟨k', hk', hs⟩ := h3 i hlt h6 (by omega)
          refine ⟨k', hk', ?_⟩
          rw [List.getElem_append_left (by omega)]
          exact shp_mono (Nat.le_refl _) (Nat.le_max_left _ _) n _ (Nat.le_max_left _ _) _ _ _ hs
        · obtain rfl : i = q := by omega
          refine ⟨k, hk, ?_⟩
          rw [List.getElem_append_right (by omega)]
          simp only [h1, Nat.sub_self, List.getElem_cons_zero]
          exact shp_mono (Nat.le_refl _) (Nat.le_max_right _ _) n2 _ (Nat.le_max_right _ _) _ _ _ h5
  obtain ⟨H, n, ns, h1, h2, h3⟩ := key cs.length (Nat.le_refl _)
  rw [← hl, List.take_length] at h2
  refine ⟨max H w.heap.size, n + 1, ns.sum, h2, fun k hk => Nat.lt_of_lt_of_le (World.ownsRow.lt hown k hk).2 (Nat.le_max_right _ _), len, cs, ns, hown, h1, rfl, fun i hi hi' => ?_⟩
  obtain ⟨k, hk, hs⟩ := h3 i hi hi hi'
  exact ⟨k, hk, shp_mono (Nat.le_refl _) (Nat.le_max_left _ _) n n (Nat.le_refl _) _ _ _ hs⟩
end
end Go.Proofs.Ytbjkfecailnelaa
