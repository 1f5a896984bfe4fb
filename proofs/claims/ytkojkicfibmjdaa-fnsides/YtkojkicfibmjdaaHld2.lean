/- Rows that a call builds out of new memory alone, one element behind the other. No program is named. -/
import Derived.Test.YtkojkicfibmjdaaHld
import Derived.Deep.AppendLies
import Derived.Laws.AppendOwnNone
namespace Go.Proofs.Ytkojkicfibmjdaa
open Go.RowKit
set_option linter.unusedVariables false
variable {α : Type}

/-- The blocks below B, and the row's own. -/
def Own0 (B : Nat) (v : Value) : Nat → Prop := fun k => k < B ∨ v.ownBlock = some k
section
variable {sz : Nat} {T : TypeId} {E : World → List Value → α → Prop} {A A' : Nat → Prop} {B : Nat} {v : Value} {xs : List α} {w w' : World}
theorem RowH.add (h : RowH sz T E A B v xs w) (hvA : ∀ k, v.ownBlock = some k → A k) : ∃ cs, w.ownsRow B T sz v xs.length cs ∧ ∀ (g cap : Nat) (w2 : World) (vs : List Value) (x : α) (A' : Nat → Prop), vs.length = sz → Held A w (fun W => E W vs x) → w2.ownsRow B T sz (.slice (some ⟨g, 0, none⟩) (xs.length + 1) cap) (xs.length + 1) (cs ++ vs) → w.grownBy w2 v.ownBlock → (∀ k, k < w.heap.size → A' k → A k) → RowH sz T E A' B (.slice (some ⟨g, 0, none⟩) (xs.length + 1) cap) (xs ++ [x]) w2 := by
  obtain ⟨vss, h1, h2, h3, h4⟩ := h
  refine ⟨vss.flatten, h3, fun g cap w2 vs x A' hl hx ho2 hg hA => ?_⟩
  have hfr : FrA A w w2 := FrA.grown hg hvA
  have e : (xs ++ [x]).length = xs.length + 1 := by simp
  refine ⟨vss ++ [vs], by simp [h1], fun u hu => ?_, by rw [e]; simpa using ho2, fun i hi hi' => ?_⟩
  · rcases List.mem_append.1 hu with hu | hu
    · exact h2 u hu
    · rw [List.mem_singleton.1 hu]; exact hl
  · by_cases hlt : i < vss.length
    · rw [List.getElem_append_left hlt, List.getElem_append_left (by omega)]
      exact Held.go (h4 i hlt (by omega)) hfr hA
    · have e : i = vss.length := by simp at hi; omega
      subst e
      rw [List.getElem_append_right (Nat.le_refl _), List.getElem_append_right (by omega)]
      simp only [Nat.sub_self, h1]
      exact Held.go hx hfr hA
theorem own_next {g n c H B : Nat} (hat : v.ownBlock = some g ∨ g = H) (hH : w.heap.size = H) : ∀ k, k < w.heap.size → Own0 B (.slice (some ⟨g, 0, none⟩) n c) k → Own0 B v k := fun k hk h => by
  rcases h with h | h
  · exact .inl h
  · have e : g = k := Option.some.inj h
    rcases hat with h2 | h2
    · exact .inr (by rw [← e]; exact h2)
    · omega
theorem own0_lt (h : RowH sz T E A B v xs w) (hB : B ≤ w.heap.size) : ∀ k, Own0 B v k → k < w.heap.size := fun k hk => by
  rcases hk with hk | hk
  · omega
  · exact (RowO.lt h k hk).2
/-- A list that is built of new memory alone. -/
theorem RowH.fresh (h : RowH sz T E (Own0 B v) B v xs w) : Fresh B w fun W => RowC sz E W v xs := by
  have h2 : RowH sz T E (fun k => k < B) B v xs w := RowH.go h (FrA.refl _ _) (fun k _ hk => .inl hk) (fun _ _ => rfl)
  have h3 := RowH.held h2 (fun k hk hlt => by have := (RowO.lt h k hk).1; omega)
  exact fun W h4 h5 => h3 W h4 (fun k hk hn => h5 k (Nat.le_of_not_lt hn) hk)
theorem RowH.made0 (w : World) : RowH sz T E (Own0 w.heap.size (.slice (some ⟨w.heap.size, 0, none⟩) 0 0)) w.heap.size (.slice (some ⟨w.heap.size, 0, none⟩) 0 0) ([] : List α) (w.alloc (.cells #[] T)) := RowO.made (Nat.le_refl _)
theorem Held.fresh0 {P : World → Prop} {b : Nat} (h : Fresh b w P) (hA : ∀ k, A k → k < b) : Held A w P := Held.of_fresh h hA
end
/-- Nodes of an expression, as cells of a row. -/
def NodE (w : World) (vs : List Value) (x : NodeD) : Prop := ∃ kv : Value, vs = [.int .i64 x.op, .int .i64 x.num, .string x.name, kv] ∧ IRow w kv x.kids
theorem nRow_ofC {w : World} {v : Value} {ns : List NodeD} (h : RowC 4 NodE w v ns) : NRow w v ns := by
  obtain ⟨a, cap, rfl, hcap, hh⟩ := h
  refine ⟨a, cap, rfl, hcap, fun h0 => ?_⟩
  obtain ⟨b, off, rfl, hlt, hc⟩ := hh h0
  refine ⟨b, off, rfl, hlt, fun i hi => ?_⟩
  obtain ⟨vs, h1, h2, kv, rfl, hz⟩ := hc i hi
  exact ⟨kv, h2 0 (by simp), h2 1 (by simp), h2 2 (by simp), h2 3 (by simp), hz⟩
/-- A whole list of numbers appended to one that the call owns; nil or not. -/
theorem append_intsF {P : Program} {w : World} {ops : Array Oper} {rest : List Oper} {o : Oper} {a : Act} {Q : Exit → Act → World → Prop} (hgd : o.guard = none) (s x : Operand) (t : TypeId)
    (ho : o.op = .call { callee := .builtin .append, args := #[s, x], argTypes := #[t, t] })
    (base : Nat) (e : TypeId) (i : TypeInfo) (z : Value) (ht : P.underlying t = some (.slice e)) (hi : P.info? e = some i) (hz : i.zero = some z)
    (hsize : i.size = 1) (hby : i.bytes = 8) (hzs : z.cells.size = 1)
    (v : Value) (n : Nat) (xs : List Value) (hs : a.eval s = v) (hown : w.ownsRow base e 1 v n xs) (ps : List Int) (pa : Option Addr) (c : Nat) (hx : a.eval x = .slice pa ps.length c) (hp : IRow w (.slice pa ps.length c) ps)
    (hl : n + ps.length ≤ 4194304) (hbase : base ≤ w.heap.size)
    (h : ∀ v' w', w'.ownsRow base e 1 v' (n + ps.length) (xs ++ zv ps) → w.grownBy w' v.ownBlock → wpList P ops Q rest (a.put o.dst v') w') : wpList P ops Q (o :: rest) a w := by
  obtain ⟨pa', c', e1, hcap, hh⟩ := hp
  cases e1
  cases pa with
  | none =>
    have h0 : ps.length = 0 := by
      rcases Nat.eq_zero_or_pos ps.length with h | h
      · exact h
      · obtain ⟨_, _, e, _⟩ := hh h
        cases e
    obtain rfl : ps = [] := List.length_eq_zero_iff.1 h0
    obtain rfl := hcap rfl
    refine wpList_append_own_none hgd s x t ho base e i 1 ht hi v n xs hs hown hx (h v w ?_ (World.grownBy.refl _ _))
    simpa [zv] using hown
  | some ad =>
    refine wpList_append_own w hgd s x t ho base e i z 1 8 ht hi hz hsize hby hzs (by decide) v n xs hs hown ad ps.length c (zv ps) hx (by rw [zv_len, Nat.mul_one]) (fun j u hj => ?_) (fun u hu => ?_) (by unfold maxLen; omega) (by omega) hbase (fun v' w' h1 h2 _ => h v' w' h1 h2)
    · have hj2 : j < ps.length := by
        have := (List.getElem?_eq_some_iff.1 hj).1
        rwa [zv_len] at this
      obtain ⟨b, off, e, _, hc⟩ := hh (by omega)
      cases e
      have e2 : (zv ps)[j]? = some (.int .i64 ps[j]) := by simp [zv, hj2]
      rw [e2] at hj
      rw [← Option.some.inj hj, Addr.add_lit]
      exact hc j hj2
    · obtain ⟨s, _, rfl⟩ := List.mem_map.1 hu
      rfl
/-- A whole list of texts appended to one that the call owns; nil or not: as one step of a region that draws. -/
theorem step_append_textsF {P : Program} {w : World} {ops : Array Oper} {o : Oper} {a : Act} {K : Act → World → Prop} {Q : Exit → Act → World → Prop} {E : Prop} (hgd : o.guard = none) (s x : Operand) (t : TypeId)
    (ho : o.op = .call { callee := .builtin .append, args := #[s, x], argTypes := #[t, t] })
    (base : Nat) (e : TypeId) (i : TypeInfo) (z : Value) (ht : P.underlying t = some (.slice e)) (hi : P.info? e = some i) (hz : i.zero = some z)
    (hsize : i.size = 1) (hby : i.bytes = 16) (hzs : z.cells.size = 1)
    (v : Value) (n : Nat) (xs : List Value) (hs : a.eval s = v) (hown : w.ownsRow base e 1 v n xs) (ps : List ByteArray) (pa : Option Addr) (c : Nat) (hx : a.eval x = .slice pa ps.length c) (hp : SRow w (.slice pa ps.length c) ps)
    (hl : n + ps.length ≤ 4194304) (hbase : base ≤ w.heap.size)
    (h : ∀ v' w', w'.ownsRow base e 1 v' (n + ps.length) (xs ++ sb ps) → w.grownBy w' v.ownBlock → K (a.put o.dst v') w') : if Region.wanted o (yielded ops a.tmps) = true then Oper.wp P o a w K Q else E := by
  have hw : Region.wanted o (yielded ops a.tmps) = true := by simp [Region.wanted, hgd]
  rw [if_pos hw]
  obtain ⟨pa', c', e1, hcap, hh⟩ := hp
  cases e1
  cases pa with
  | none =>
    have h0 : ps.length = 0 := by
      rcases Nat.eq_zero_or_pos ps.length with h | h
      · exact h
      · obtain ⟨_, _, e, _⟩ := hh h
        cases e
    obtain rfl : ps = [] := List.length_eq_zero_iff.1 h0
    obtain rfl := hcap rfl
    have hrun := run_append_owned_none (P := P) (w := w) base t o.type e i 1 ht hi v n xs hown
    have hx' : a.eval x = .slice none 0 0 := hx
    unfold Oper.wp
    simp [execOp, ho, resolve, invoke, builtin, hs, hx', hrun, Result.andThen]
    exact h v w (by simpa [sb] using hown) (World.grownBy.refl _ _)
  | some ad =>
    refine wp_append_own w s x t ho base e i z 1 16 ht hi hz hsize hby hzs (by decide) v n xs hs hown ad ps.length c (sb ps) hx (by rw [sb_len, Nat.mul_one]) (fun j u hj => ?_) (fun u hu => ?_) (by unfold maxLen; omega) (by omega) hbase (fun v' w' h1 h2 _ => h v' w' h1 h2)
    · have hj2 : j < ps.length := by
        have := (List.getElem?_eq_some_iff.1 hj).1
        rwa [sb_len] at this
      obtain ⟨b, off, e, _, hc⟩ := hh (by omega)
      cases e
      rw [sb_at ps j hj2] at hj
      rw [← Option.some.inj hj, Addr.add_lit]
      exact hc j hj2
    · obtain ⟨s, _, rfl⟩ := List.mem_map.1 hu
      rfl
theorem own_fresh {B : Nat} {e : TypeId} {s n : Nat} {v : Value} {cs : List Value} {w : World} (h : w.ownsRow B e s v n cs) : Fresh B w fun V => V.ownsRow B e s v n cs := fun V h1 h2 => by
  refine ⟨h.1, ?_⟩
  rcases h.2 with hn | ⟨g, cap, cur, rfl, hB, hc, r⟩
  · exact .inl hn
  · exact .inr ⟨g, cap, cur, rfl, hB, (h2 g hB (Array.getElem?_eq_some_iff.1 hc).1).trans hc, r⟩
theorem IRow.nilv (w : World) : IRow w (.slice none 0 0) [] := ⟨none, 0, rfl, fun _ => rfl, fun h => absurd h (by simp)⟩

end Go.Proofs.Ytkojkicfibmjdaa
