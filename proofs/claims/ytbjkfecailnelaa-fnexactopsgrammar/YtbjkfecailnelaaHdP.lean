/- Rows that lie each in a block of its own, and marks that were written into them. No program is named. -/
import Derived.Test.YtbjkfecailnelaaMK
namespace Go.Proofs.Ytbjkfecailnelaa
open Go.RowKit
set_option linter.unusedVariables false

/-- The blocks out of F are as they were. -/
def Ag (F : Nat → Prop) (w w' : World) : Prop := w.heap.size ≤ w'.heap.size ∧ ∀ k, F k → k < w.heap.size → w'.heap[k]? = w.heap[k]?
/-- What lies outside of F is as it was. -/
structure Kp (F : Nat → Prop) (w w' : World) : Prop where
  os : w'.os = w.os
  tape : w'.tape = w.tape
  output : w'.output = w.output
  size : w.heap.size ≤ w'.heap.size
  block : ∀ j, j < w.heap.size → ¬ F j → w'.heap[j]? = w.heap[j]?
section
variable {F G : Nat → Prop} {w w' w1 w2 : World}
theorem Ag.refl : Ag F w w := ⟨Nat.le_refl _, fun _ _ _ => rfl⟩
theorem Ag.trans (h : Ag F w w1) (h' : Ag F w1 w2) : Ag F w w2 := ⟨Nat.le_trans h.1 h'.1, fun k hk hl => (h'.2 k hk (Nat.lt_of_lt_of_le hl h.1)).trans (h.2 k hk hl)⟩
theorem Ag.sub (h : Ag F w w') (hs : ∀ k, G k → F k) : Ag G w w' := ⟨h.1, fun k hk hl => h.2 k (hs k hk) hl⟩
theorem Ag.below (hb : Below w.heap.size w w') : Ag F w w' := ⟨hb.size, fun k _ hl => hb.block k hl⟩
theorem Kp.refl : Kp F w w := ⟨rfl, rfl, rfl, Nat.le_refl _, fun _ _ _ => rfl⟩
theorem Kp.trans (h : Kp F w w1) (k : Kp F w1 w2) : Kp F w w2 := ⟨k.os.trans h.os, k.tape.trans h.tape, k.output.trans h.output, Nat.le_trans h.size k.size, fun j hj hF => (k.block j (Nat.lt_of_lt_of_le hj h.size) hF).trans (h.block j hj hF)⟩
theorem Kp.below (hb : Below w.heap.size w w') : Kp F w w' := ⟨hb.os, hb.tape, hb.output, hb.size, fun j hj _ => hb.block j hj⟩
theorem Kp.up (h : Kp F w w') (hs : ∀ k, F k → G k) : Kp G w w' := ⟨h.os, h.tape, h.output, h.size, fun j hj hG => h.block j hj (fun hF => hG (hs j hF))⟩
theorem Kp.ag (h : Kp G w w') (hd : ∀ k, F k → ¬ G k) : Ag F w w' := ⟨h.size, fun k hk hl => h.block k hl (hd k hk)⟩
theorem Kp.mid {B H : Nat} (h : Kp F w w') (hF : ∀ k, F k → B ≤ k ∧ k < H) : Mid B H w w' := ⟨h.os, h.tape, h.output, h.size, fun j hj hr => h.block j hj (fun hf => by have := hF j hf; omega)⟩
theorem Kp.onto {C : Nat} (h : Below C w w1) (hC : C ≤ w.heap.size) (hF : ∀ k, F k → C ≤ k) (k : Kp F w1 w2) : Below C w w2 :=
  ⟨k.os.trans h.os, k.tape.trans h.tape, k.output.trans h.output, Nat.le_trans h.size k.size, fun j hj => (k.block j (by have := h.size; omega) (fun hf => by have := hF j hf; omega)).trans (h.block j hj)⟩
theorem Kp.store {g o : Nat} {u : Value} (hg : F g) : Kp F w (w.setCell ⟨g, o, none⟩ u) :=
  ⟨rfl, rfl, rfl, by simp [World.setCell], fun j _ hr => by
    simp only [World.setCell]
    rw [Array.getElem?_modify, if_neg (fun e => hr (by rw [← e]; exact hg))]⟩
theorem own_ag {B s n : Nat} {e : TypeId} {v : Value} {cs : List Value} (h : w.ownsRow B e s v n cs) (ha : Ag F w w') (hF : ∀ k, v.ownBlock = some k → F k) : w'.ownsRow B e s v n cs := by
  refine ⟨h.1, ?_⟩
  rcases h.2 with h | ⟨g, cap, cur, rfl, hB, hc, r⟩
  · exact .inl h
  · exact .inr ⟨g, cap, cur, rfl, hB, (ha.2 g (hF g rfl) (Array.getElem?_eq_some_iff.1 hc).1).trans hc, r⟩
end
/-- A row's own block is none of those that its elements reach, and no two elements reach one block. -/
structure Lay (v : Value) (F : Nat → Prop) (Fs : Nat → Nat → Prop) : Prop where
  own : ∀ k, v.ownBlock = some k → F k
  apart : ∀ k, v.ownBlock = some k → ∀ i, ¬ Fs i k
  sub : ∀ i k, Fs i k → F k
  dis : ∀ i j k, i ≠ j → Fs i k → ¬ Fs j k
/-- v is of a kind and reaches c numbers and texts, in blocks out of F, each its own; they are marked from m on, where m tells so. -/
def Hd (τ : TypeId → List FK) : Nat → FK → World → Value → Nat → (Nat → Prop) → Option Nat → Prop
  | _, .int, _, v, c, _, m => (∃ z, v = .int .i64 z ∧ ∀ k, m = some k → z = (k : Int)) ∧ c = 1
  | _, .str, _, v, c, _, m => (∃ s, v = .string s ∧ ∀ k, m = some k → s = str (markB k)) ∧ c = 1
  | 0, .row _, _, _, _, _, _ => False
  | n + 1, .row t, w, v, c, F, m => ∃ (len : Nat) (cs : List Value) (ns : List Nat) (Fs : Nat → Nat → Prop), w.ownsRow 0 t (τ t).length v len cs ∧ ns.length = cs.length ∧ c = ns.sum ∧ Lay v F Fs ∧
      ∀ i (h : i < cs.length), ∃ kd, (τ t)[i % (τ t).length]? = some kd ∧ Hd τ n kd w cs[i] (ns.getD i 0) (Fs i) (m.map fun k => k + (ns.take i).sum)
section
variable {τ : TypeId → List FK} {F G : Nat → Prop} {w w' : World}
theorem Hd.ag : ∀ (n : Nat) (kd : FK) (v : Value) (c : Nat) (F : Nat → Prop) (m : Option Nat), Hd τ n kd w v c F m → Ag F w w' → Hd τ n kd w' v c F m := by
  intro n
  induction n with
  | zero => intro kd v c F m h _; cases kd <;> exact h
  | succ n ih =>
    intro kd v c F m h ha
    cases kd with
    | int => exact h
    | str => exact h
    | row t =>
      obtain ⟨len, cs, ns, Fs, h1, h2, h3, h4, h5⟩ := h
      refine ⟨len, cs, ns, Fs, own_ag h1 ha h4.own, h2, h3, h4, fun i hi => ?_⟩
      obtain ⟨kd, hk, hs⟩ := h5 i hi
      exact ⟨kd, hk, ih kd _ _ _ _ hs (ha.sub (h4.sub i))⟩
theorem Hd.mono : ∀ (n : Nat) (kd : FK) (v : Value) (c : Nat) (m : Option Nat), Hd τ n kd w v c F m → (∀ k, F k → G k) → Hd τ n kd w v c G m := by
  intro n kd v c m h hs
  cases kd with
  | int => cases n <;> exact h
  | str => cases n <;> exact h
  | row t =>
    cases n with
    | zero => exact h.elim
    | succ n =>
      obtain ⟨len, cs, ns, Fs, h1, h2, h3, h4, h5⟩ := h
      exact ⟨len, cs, ns, Fs, h1, h2, h3, ⟨fun k hk => hs k (h4.own k hk), h4.apart, fun i k hk => hs k (h4.sub i k hk), h4.dis⟩, h5⟩
theorem Hd.fuel : ∀ (n n' : Nat), n ≤ n' → ∀ (kd : FK) (v : Value) (c : Nat) (F : Nat → Prop) (m : Option Nat), Hd τ n kd w v c F m → Hd τ n' kd w v c F m := by
  intro n
  induction n with
  | zero =>
    intro n' _ kd v c F m h
    cases kd with
    | int => cases n' <;> exact h
    | str => cases n' <;> exact h
    | row t => exact h.elim
  | succ n ih =>
    intro n' hn kd v c F m h
    cases kd with
    | int => cases n' <;> exact h
    | str => cases n' <;> exact h
    | row t =>
      obtain ⟨q, rfl⟩ : ∃ q, n' = q + 1 := ⟨n' - 1, by omega⟩
      obtain ⟨len, cs, ns, Fs, h1, h2, h3, h4, h5⟩ := h
      refine ⟨len, cs, ns, Fs, h1, h2, h3, h4, fun i hi => ?_⟩
      obtain ⟨kd, hk, hs⟩ := h5 i hi
      exact ⟨kd, hk, ih q (by omega) kd _ _ _ _ hs⟩
theorem Hd.num {z : Int} {n : Nat} : Hd τ n .int w (.int .i64 z) 1 F none := by cases n <;> exact ⟨⟨z, rfl, fun _ h => by cases h⟩, rfl⟩
theorem Hd.text {s : ByteArray} {n : Nat} : Hd τ n .str w (.string s) 1 F none := by cases n <;> exact ⟨⟨s, rfl, fun _ h => by cases h⟩, rfl⟩
theorem Hd.numAt {z : Int} {k n : Nat} (hz : z = (k : Int)) : Hd τ n .int w (.int .i64 z) 1 F (some k) := by cases n <;> exact ⟨⟨z, rfl, fun q h => by rw [hz, Option.some.inj h]⟩, rfl⟩
theorem Hd.textAt {k n : Nat} : Hd τ n .str w (.string (str (markB k))) 1 F (some k) := by cases n <;> exact ⟨⟨_, rfl, fun q h => by rw [Option.some.inj h]⟩, rfl⟩
theorem take_getD (ns : List Nat) (i : Nat) : (ns.take (i + 1)).sum = (ns.take i).sum + ns.getD i 0 := by
  by_cases h : i < ns.length
  · rw [List.take_succ_eq_append_getElem h, List.sum_append, List.sum_cons, List.sum_nil, Nat.add_zero, List.getD_eq_getElem?_getD, List.getElem?_eq_getElem h]
    rfl
  · rw [List.take_of_length_le (by omega), List.take_of_length_le (by omega), List.getD_eq_getElem?_getD, List.getElem?_eq_none (by omega)]
    rfl

/-- A row whose first p cells are marked from k on. -/
def HdR (τ : TypeId → List FK) (n : Nat) (t : TypeId) (v : Value) (len : Nat) (ns : List Nat) (F : Nat → Prop) (Fs : Nat → Nat → Prop) (k p : Nat) (w : World) : Prop :=
  ∃ cs : List Value, w.ownsRow 0 t (τ t).length v len cs ∧ ns.length = cs.length ∧ Lay v F Fs ∧
    ∀ i (h : i < cs.length), ∃ kd, (τ t)[i % (τ t).length]? = some kd ∧ Hd τ n kd w cs[i] (ns.getD i 0) (Fs i) (if i < p then some (k + (ns.take i).sum) else none)
variable {n c len k p : Nat} {t : TypeId} {v : Value} {ns : List Nat} {Fs : Nat → Nat → Prop} {a : Option Addr} {cap : Nat}
theorem HdR.start (h : Hd τ (n + 1) (.row t) w v c F none) : ∃ (a : Option Addr) (len cap : Nat) (ns : List Nat) (Fs : Nat → Nat → Prop), v = .slice a len cap ∧ ns.length = len * (τ t).length ∧ c = ns.sum ∧ ∀ k, HdR τ n t v len ns F Fs k 0 w := by
  obtain ⟨len, cs, ns, Fs, h1, h2, h3, h4, h5⟩ := h
  have hv : ∃ a cap, v = .slice a len cap := by
    rcases h1.2 with ⟨rfl, h0⟩ | ⟨g, cap, cur, rfl, _⟩
    · exact ⟨none, 0, by rw [h0]⟩
    · exact ⟨_, cap, rfl⟩
  obtain ⟨a, cap, rfl⟩ := hv
  refine ⟨a, len, cap, ns, Fs, rfl, by rw [h2]; exact h1.1, h3, fun k => ⟨cs, h1, h2, h4, fun i hi => ?_⟩⟩
  obtain ⟨kd, hk, hs⟩ := h5 i hi
  exact ⟨kd, hk, by rw [if_neg (Nat.not_lt_zero _)]; exact hs⟩
/-- A row that is marked, opened to be read. -/
theorem HdR.open (h : Hd τ (n + 1) (.row t) w v c F (some k)) : ∃ (a : Option Addr) (len cap : Nat) (ns : List Nat) (Fs : Nat → Nat → Prop), v = .slice a len cap ∧ ns.length = len * (τ t).length ∧ c = ns.sum ∧ HdR τ n t v len ns F Fs k (len * (τ t).length) w := by
  obtain ⟨len, cs, ns, Fs, h1, h2, h3, h4, h5⟩ := h
  have hv : ∃ a cap, v = .slice a len cap := by
    rcases h1.2 with ⟨rfl, h0⟩ | ⟨g, cap, cur, rfl, _⟩
    · exact ⟨none, 0, by rw [h0]⟩
    · exact ⟨_, cap, rfl⟩
  obtain ⟨a, cap, rfl⟩ := hv
  refine ⟨a, len, cap, ns, Fs, rfl, by rw [h2]; exact h1.1, h3, ⟨cs, h1, h2, h4, fun i hi => ?_⟩⟩
  obtain ⟨kd, hk, hs⟩ := h5 i hi
  have hl : cs.length = len * (τ t).length := h1.1
  exact ⟨kd, hk, by rw [if_pos (by omega)]; exact hs⟩
theorem HdR.done (h : HdR τ n t v len ns F Fs k (len * (τ t).length) w) : Hd τ (n + 1) (.row t) w v ns.sum F (some k) := by
  obtain ⟨cs, h1, h2, h4, h5⟩ := h
  refine ⟨len, cs, ns, Fs, h1, h2, rfl, h4, fun i hi => ?_⟩
  obtain ⟨kd, hk, hs⟩ := h5 i hi
  have hl : cs.length = len * (τ t).length := h1.1
  rw [if_pos (by omega)] at hs
  exact ⟨kd, hk, hs⟩
theorem HdR.ag (h : HdR τ n t v len ns F Fs k p w) (ha : Ag F w w') : HdR τ n t v len ns F Fs k p w' := by
  obtain ⟨cs, h1, h2, h4, h5⟩ := h
  refine ⟨cs, own_ag h1 ha h4.own, h2, h4, fun i hi => ?_⟩
  obtain ⟨kd, hk, hs⟩ := h5 i hi
  exact ⟨kd, hk, Hd.ag n kd _ _ _ _ hs (ha.sub (h4.sub i))⟩
theorem HdR.long (h : HdR τ n t v len ns F Fs k p w) : len ≤ 9223372036854775807 := by
  obtain ⟨cs, h1, _⟩ := h
  rcases h1.2 with ⟨h', h0⟩ | ⟨g, cap', cur, h', hB, hc, hle, hmx, _⟩
  · omega
  · unfold maxLen at hmx
    omega
theorem HdR.lay (h : HdR τ n t v len ns F Fs k p w) : Lay v F Fs := by obtain ⟨cs, h1, h2, h4, h5⟩ := h; exact h4
theorem HdR.at (h : HdR τ n t (.slice a len cap) len ns F Fs k p w) {i : Nat} (hi : i < len * (τ t).length) {kd : FK} (hk : (τ t)[i % (τ t).length]? = some kd) : ∃ g u, a = some ⟨g, 0, none⟩ ∧ F g ∧ w.cell? ⟨g, i, none⟩ = some u ∧ w.frozen? ⟨g, i, none⟩ = false ∧ Hd τ n kd w u (ns.getD i 0) (Fs i) (if i < p then some (k + (ns.take i).sum) else none) := by
  obtain ⟨cs, h1, h2, h4, h5⟩ := h
  have hl : cs.length = len * (τ t).length := h1.1
  have hi' : i < cs.length := by omega
  rcases h1.2 with ⟨h', h0⟩ | ⟨g, cap', cur, h', hB, hc, r⟩
  · rw [h0, Nat.zero_mul] at hi
    exact absurd hi (Nat.not_lt_zero _)
  · cases h'
    have hc1 := World.ownsRow.cells h1 (g := g) rfl i cs[i] (List.getElem?_eq_getElem hi')
    rw [Addr.add_lit, Nat.zero_add] at hc1
    obtain ⟨kd', hk', hs⟩ := h5 i hi'
    rw [hk] at hk'
    obtain rfl := Option.some.inj hk'
    exact ⟨g, cs[i], rfl, h4.own g rfl, hc1, by simp [World.frozen?, hc], hs⟩
theorem HdR.store {g : Nat} {u : Value} {kd : FK} (h : HdR τ n t (.slice (some ⟨g, 0, none⟩) len cap) len ns F Fs k p w) (hk : (τ t)[p % (τ t).length]? = some kd) (hs : ∀ W, Hd τ n kd W u (ns.getD p 0) (Fs p) (some (k + (ns.take p).sum))) : HdR τ n t (.slice (some ⟨g, 0, none⟩) len cap) len ns F Fs k (p + 1) (w.setCell ⟨g, p, none⟩ u) := by
  obtain ⟨cs, h1, h2, h4, h5⟩ := h
  refine ⟨cs.set p u, (World.ownsRow.stored h1 p u).1, by rw [List.length_set]; exact h2, h4, fun i hi => ?_⟩
  rw [List.length_set] at hi
  by_cases e : i = p
  · subst e
    rw [List.getElem_set_self, if_pos (Nat.lt_succ_self _)]
    exact ⟨kd, hk, hs _⟩
  · obtain ⟨kd', hk', hs'⟩ := h5 i hi
    rw [List.getElem_set_ne (fun e' => e e'.symm)]
    refine ⟨kd', hk', ?_⟩
    have hag : Ag (Fs i) w (w.setCell ⟨g, p, none⟩ u) := (Kp.store (F := fun q => q = g) rfl).ag (fun q hq e' => h4.apart g rfl i (by rw [← e']; exact hq))
    have := Hd.ag n kd' _ _ _ _ hs' hag
    by_cases hlt : i < p
    · rw [if_pos (by omega)]
      rwa [if_pos hlt] at this
    · rw [if_neg (by omega)]
      rwa [if_neg hlt] at this
theorem HdR.rowed {g : Nat} {u : Value} {kd : FK} (h : HdR τ n t (.slice (some ⟨g, 0, none⟩) len cap) len ns F Fs k p w) (hk : (τ t)[p % (τ t).length]? = some kd) (hu : w.cell? ⟨g, p, none⟩ = some u) (hm : Kp (Fs p) w w') (hs : Hd τ n kd w' u (ns.getD p 0) (Fs p) (some (k + (ns.take p).sum))) : HdR τ n t (.slice (some ⟨g, 0, none⟩) len cap) len ns F Fs k (p + 1) w' := by
  obtain ⟨cs, h1, h2, h4, h5⟩ := h
  have hag : ∀ G : Nat → Prop, (∀ k, G k → ¬ Fs p k) → Ag G w w' := fun G hG => hm.ag hG
  refine ⟨cs, own_ag h1 (hag (fun q => q = g) (fun q hq => by rw [hq]; exact h4.apart g rfl p)) (fun q hq => (Option.some.inj hq).symm), h2, h4, fun i hi => ?_⟩
  obtain ⟨kd', hk', hs'⟩ := h5 i hi
  by_cases e : i = p
  · subst e
    have hc1 := World.ownsRow.cells h1 (g := g) rfl i cs[i] (List.getElem?_eq_getElem hi)
    rw [Addr.add_lit, Nat.zero_add, hu] at hc1
    obtain rfl := Option.some.inj hc1
    rw [if_pos (Nat.lt_succ_self _)]
    exact ⟨kd, hk, hs⟩
  · have := Hd.ag n kd' _ _ _ _ hs' (hag _ (fun q hq => h4.dis i p q e hq))
    refine ⟨kd', hk', ?_⟩
    by_cases hlt : i < p
    · rw [if_pos (by omega)]
      rwa [if_pos hlt] at this
    · rw [if_neg (by omega)]
      rwa [if_neg hlt] at this
end

end Go.Proofs.Ytbjkfecailnelaa
