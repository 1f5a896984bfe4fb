/- Rows that lie each in a block of its own, and marks that were written into them. No program is named. -/
/- Values of 257 flags: one value, a variable of its own, an element of a row. -/
import Derived.Test.YtofpoiccghpliaaGreatDoorMK
import Derived.Test.YtofpoiccghpliaaGreatDoorE18S
import Derived.Test.YtofpoiccghpliaaGreatDoorRO
import Derived.Deep.MidRow
import Derived.Deep.WholeRow
import Derived.Laws.CopyRow
import Derived.Laws.StructEq
namespace Go.Proofs.YtofpoiccghpliaaGreatDoor
open Go.RowKit
set_option linter.unusedVariables false

/-- The blocks out of F are as they were. -/
def Ag (F : Nat → Prop) (w w' : World) : Prop := w.heap.size ≤ w'.heap.size ∧ ∀ k, F k → k < w.heap.size → w'.heap[k]? = w.heap[k]?
/-- What lies outside of F is as it was. -/
structure Kp (F : Nat → Prop) (w w' : World) : Prop where
  os : w'.os = w.os
  tape : w'.tape = w.tape
  output : w'.output = w.output
  size : w.heap.size ≤ w'.heap.size
  block : ∀ j, j < w.heap.size → ¬ F j → w'.heap[j]? = w.heap[j]?
section
variable {F G : Nat → Prop} {w w' w1 w2 : World}
theorem Ag.refl : Ag F w w := ⟨Nat.le_refl _, fun _ _ _ => rfl⟩
theorem Ag.trans (h : Ag F w w1) (h' : Ag F w1 w2) : Ag F w w2 := ⟨Nat.le_trans h.1 h'.1, fun k hk hl => (h'.2 k hk (Nat.lt_of_lt_of_le hl h.1)).trans (h.2 k hk hl)⟩
theorem Ag.sub (h : Ag F w w') (hs : ∀ k, G k → F k) : Ag G w w' := ⟨h.1, fun k hk hl => h.2 k (hs k hk) hl⟩
theorem Ag.below (hb : Below w.heap.size w w') : Ag F w w' := ⟨hb.size, fun k _ hl => hb.block k hl⟩
theorem Kp.refl : Kp F w w := ⟨rfl, rfl, rfl, Nat.le_refl _, fun _ _ _ => rfl⟩
theorem Kp.trans (h : Kp F w w1) (k : Kp F w1 w2) : Kp F w w2 := ⟨k.os.trans h.os, k.tape.trans h.tape, k.output.trans h.output, Nat.le_trans h.size k.size, fun j hj hF => (k.block j (Nat.lt_of_lt_of_le hj h.size) hF).trans (h.block j hj hF)⟩
theorem Kp.below (hb : Below w.heap.size w w') : Kp F w w' := ⟨hb.os, hb.tape, hb.output, hb.size, fun j hj _ => hb.block j hj⟩
theorem Kp.up (h : Kp F w w') (hs : ∀ k, F k → G k) : Kp G w w' := ⟨h.os, h.tape, h.output, h.size, fun j hj hG => h.block j hj (fun hF => hG (hs j hF))⟩
theorem Kp.ag (h : Kp G w w') (hd : ∀ k, F k → ¬ G k) : Ag F w w' := ⟨h.size, fun k hk hl => h.block k hl (hd k hk)⟩
theorem Kp.mid {B H : Nat} (h : Kp F w w') (hF : ∀ k, F k → B ≤ k ∧ k < H) : Mid B H w w' := ⟨h.os, h.tape, h.output, h.size, fun j hj hr => h.block j hj (fun hf => by have := hF j hf; omega)⟩
theorem Kp.onto {C : Nat} (h : Below C w w1) (hC : C ≤ w.heap.size) (hF : ∀ k, F k → C ≤ k) (k : Kp F w1 w2) : Below C w w2 :=
  ⟨k.os.trans h.os, k.tape.trans h.tape, k.output.trans h.output, Nat.le_trans h.size k.size, fun j hj => (k.block j (by have := h.size; omega) (fun hf => by have := hF j hf; omega)).trans (h.block j hj)⟩
theorem Kp.store {g o : Nat} {u : Value} (hg : F g) : Kp F w (w.setCell ⟨g, o, none⟩ u) :=
  ⟨rfl, rfl, rfl, by simp [World.setCell], fun j _ hr => by
    simp only [World.setCell]
    rw [Array.getElem?_modify, if_neg (fun e => hr (by rw [← e]; exact hg))]⟩
theorem own_ag {B s n : Nat} {e : TypeId} {v : Value} {cs : List Value} (h : w.ownsRow B e s v n cs) (ha : Ag F w w') (hF : ∀ k, v.ownBlock = some k → F k) : w'.ownsRow B e s v n cs := by
  refine ⟨h.1, ?_⟩
  rcases h.2 with h | ⟨g, cap, cur, rfl, hB, hc, r⟩
  · exact .inl h
  · exact .inr ⟨g, cap, cur, rfl, hB, (ha.2 g (hF g rfl) (Array.getElem?_eq_some_iff.1 hc).1).trans hc, r⟩
end
/-- A row's own block is none of those that its elements reach, and no two elements reach one block. -/
structure Lay (v : Value) (F : Nat → Prop) (Fs : Nat → Nat → Prop) : Prop where
  own : ∀ k, v.ownBlock = some k → F k
  apart : ∀ k, v.ownBlock = some k → ∀ i, ¬ Fs i k
  sub : ∀ i k, Fs i k → F k
  dis : ∀ i j k, i ≠ j → Fs i k → ¬ Fs j k
/-- v is of a kind and reaches c numbers and texts, in blocks out of F, each its own; they are marked from m on, where m tells so. -/
def Hd (τ : TypeId → List FK) : Nat → FK → World → Value → Nat → (Nat → Prop) → Option Nat → Prop
  | _, .int, _, v, c, _, m => (∃ z, v = .int .i64 z ∧ ∀ k, m = some k → z = (k : Int)) ∧ c = 1
  | _, .str, _, v, c, _, m => (∃ s, v = .string s ∧ ∀ k, m = some k → s = str (markB k)) ∧ c = 1
  | 0, .row _, _, _, _, _, _ => False
  | n + 1, .row t, w, v, c, F, m => ∃ (len : Nat) (cs : List Value) (ns : List Nat) (Fs : Nat → Nat → Prop), w.ownsRow 0 t (τ t).length v len cs ∧ ns.length = cs.length ∧ c = ns.sum ∧ Lay v F Fs ∧
      ∀ i (h : i < cs.length), ∃ kd, (τ t)[i % (τ t).length]? = some kd ∧ Hd τ n kd w cs[i] (ns.getD i 0) (Fs i) (m.map fun k => k + (ns.take i).sum)
section
variable {τ : TypeId → List FK} {F G : Nat → Prop} {w w' : World}
theorem Hd.ag : ∀ (n : Nat) (kd : FK) (v : Value) (c : Nat) (F : Nat → Prop) (m : Option Nat), Hd τ n kd w v c F m → Ag F w w' → Hd τ n kd w' v c F m := by
  intro n
  induction n with
  | zero => intro kd v c F m h _; cases kd <;> exact h
  | succ n ih =>
    intro kd v c F m h ha
    cases kd with
    | int => exact h
    | str => exact h
    | row t =>
      obtain ⟨len, cs, ns, Fs, h1, h2, h3, h4, h5⟩ := h
      refine ⟨len, cs, ns, Fs, own_ag h1 ha h4.own, h2, h3, h4, fun i hi => ?_⟩
      obtain ⟨kd, hk, hs⟩ := h5 i hi
      exact ⟨kd, hk, ih kd _ _ _ _ hs (ha.sub (h4.sub i))⟩
theorem Hd.mono : ∀ (n : Nat) (kd : FK) (v : Value) (c : Nat) (m : Option Nat), Hd τ n kd w v c F m → (∀ k, F k → G k) → Hd τ n kd w v c G m := by
  intro n kd v c m h hs
  cases kd with
  | int => cases n <;> exact h
  | str => cases n <;> exact h
  | row t =>
    cases n with
    | zero => exact h.elim
    | succ n =>
      obtain ⟨len, cs, ns, Fs, h1, h2, h3, h4, h5⟩ := h
      exact ⟨len, cs, ns, Fs, h1, h2, h3, ⟨fun k hk => hs k (h4.own k hk), h4.apart, fun i k hk => hs k (h4.sub i k hk), h4.dis⟩, h5⟩
theorem Hd.fuel : ∀ (n n' : Nat), n ≤ n' → ∀ (kd : FK) (v : Value) (c : Nat) (F : Nat → Prop) (m : Option Nat), Hd τ n kd w v c F m → Hd τ n' kd w v c F m := by
  intro n
  induction n with
  | zero =>
    intro n' _ kd v c F m h
    cases kd with
    | int => cases n' <;> exact h
    | str => cases n' <;> exact h
    | row t => exact h.elim
  | succ n ih =>
    intro n' hn kd v c F m h
    cases kd with
    | int => cases n' <;> exact h
    | str => cases n' <;> exact h
    | row t =>
      obtain ⟨q, rfl⟩ : ∃ q, n' = q + 1 := ⟨n' - 1, by omega⟩
      obtain ⟨len, cs, ns, Fs, h1, h2, h3, h4, h5⟩ := h
      refine ⟨len, cs, ns, Fs, h1, h2, h3, h4, fun i hi => ?_⟩
      obtain ⟨kd, hk, hs⟩ := h5 i hi
      exact ⟨kd, hk, ih q (by omega) kd _ _ _ _ hs⟩
theorem Hd.num {z : Int} {n : Nat} : Hd τ n .int w (.int .i64 z) 1 F none := by cases n <;> exact ⟨⟨z, rfl, fun _ h => by cases h⟩, rfl⟩
theorem Hd.text {s : ByteArray} {n : Nat} : Hd τ n .str w (.string s) 1 F none := by cases n <;> exact ⟨⟨s, rfl, fun _ h => by cases h⟩, rfl⟩
theorem Hd.numAt {z : Int} {k n : Nat} (hz : z = (k : Int)) : Hd τ n .int w (.int .i64 z) 1 F (some k) := by cases n <;> exact ⟨⟨z, rfl, fun q h => by rw [hz, Option.some.inj h]⟩, rfl⟩
theorem Hd.textAt {k n : Nat} : Hd τ n .str w (.string (str (markB k))) 1 F (some k) := by cases n <;> exact ⟨⟨_, rfl, fun q h => by rw [Option.some.inj h]⟩, rfl⟩
theorem take_getD (ns : List Nat) (i : Nat) : (ns.take (i + 1)).sum = (ns.take i).sum + ns.getD i 0 := by
  by_cases h : i < ns.length
  · rw [List.take_succ_eq_append_getElem h, List.sum_append, List.sum_cons, List.sum_nil, Nat.add_zero, List.getD_eq_getElem?_getD, List.getElem?_eq_getElem h]
    rfl
  · rw [List.take_of_length_le (by omega), List.take_of_length_le (by omega), List.getD_eq_getElem?_getD, List.getElem?_eq_none (by omega)]
    rfl

/-- A row whose first p cells are marked from k on. -/
def HdR (τ : TypeId → List FK) (n : Nat) (t : TypeId) (v : Value) (len : Nat) (ns : List Nat) (F : Nat → Prop) (Fs : Nat → Nat → Prop) (k p : Nat) (w : World) : Prop :=
  ∃ cs : List Value, w.ownsRow 0 t (τ t).length v len cs ∧ ns.length = cs.length ∧ Lay v F Fs ∧
    ∀ i (h : i < cs.length), ∃ kd, (τ t)[i % (τ t).length]? = some kd ∧ Hd τ n kd w cs[i] (ns.getD i 0) (Fs i) (if i < p then some (k + (ns.take i).sum) else none)
variable {n c len k p : Nat} {t : TypeId} {v : Value} {ns : List Nat} {Fs : Nat → Nat → Prop} {a : Option Addr} {cap : Nat}
theorem HdR.start (h : Hd τ (n + 1) (.row t) w v c F none) : ∃ (a : Option Addr) (len cap : Nat) (ns : List Nat) (Fs : Nat → Nat → Prop), v = .slice a len cap ∧ ns.length = len * (τ t).length ∧ c = ns.sum ∧ ∀ k, HdR τ n t v len ns F Fs k 0 w := by
  obtain ⟨len, cs, ns, Fs, h1, h2, h3, h4, h5⟩ := h
  have hv : ∃ a cap, v = .slice a len cap := by
    rcases h1.2 with ⟨rfl, h0⟩ | ⟨g, cap, cur, rfl, _⟩
    · exact ⟨none, 0, by rw [h0]⟩
    · exact ⟨_, cap, rfl⟩
  obtain ⟨a, cap, rfl⟩ := hv
  refine ⟨a, len, cap, ns, Fs, rfl, by rw [h2]; exact h1.1, h3, fun k => ⟨cs, h1, h2, h4, fun i hi => ?_⟩⟩
  obtain ⟨kd, hk, hs⟩ := h5 i hi
  exact ⟨kd, hk, by rw [if_neg (Nat.not_lt_zero _)]; exact hs⟩
/-- A row that is marked, opened to be read. -/
theorem HdR.open (h : Hd τ (n + 1) (.row t) w v c F (some k)) : ∃ (a : Option Addr) (len cap : Nat) (ns : List Nat) (Fs : Nat → Nat → Prop), v = .slice a len cap ∧ ns.length = len * (τ t).length ∧ c = ns.sum ∧ HdR τ n t v len ns F Fs k (len * (τ t).length) w := by
  obtain ⟨len, cs, ns, Fs, h1, h2, h3, h4, h5⟩ := h
  have hv : ∃ a cap, v = .slice a len cap := by
    rcases h1.2 with ⟨rfl, h0⟩ | ⟨g, cap, cur, rfl, _⟩
    · exact ⟨none, 0, by rw [h0]⟩
    · exact ⟨_, cap, rfl⟩
  obtain ⟨a, cap, rfl⟩ := hv
  refine ⟨a, len, cap, ns, Fs, rfl, by rw [h2]; exact h1.1, h3, ⟨cs, h1, h2, h4, fun i hi => ?_⟩⟩
  obtain ⟨kd, hk, hs⟩ := h5 i hi
  have hl : cs.length = len * (τ t).length := h1.1
  exact ⟨kd, hk, by rw [if_pos (by omega)]; exact hs⟩
theorem HdR.done (h : HdR τ n t v len ns F Fs k (len * (τ t).length) w) : Hd τ (n + 1) (.row t) w v ns.sum F (some k) := by
  obtain ⟨cs, h1, h2, h4, h5⟩ := h
  refine ⟨len, cs, ns, Fs, h1, h2, rfl, h4, fun i hi => ?_⟩
  obtain ⟨kd, hk, hs⟩ := h5 i hi
  have hl : cs.length = len * (τ t).length := h1.1
  rw [if_pos (by omega)] at hs
  exact ⟨kd, hk, hs⟩
theorem HdR.ag (h : HdR τ n t v len ns F Fs k p w) (ha : Ag F w w') : HdR τ n t v len ns F Fs k p w' := by
  obtain ⟨cs, h1, h2, h4, h5⟩ := h
  refine ⟨cs, own_ag h1 ha h4.own, h2, h4, fun i hi => ?_⟩
  obtain ⟨kd, hk, hs⟩ := h5 i hi
  exact ⟨kd, hk, Hd.ag n kd _ _ _ _ hs (ha.sub (h4.sub i))⟩
theorem HdR.long (h : HdR τ n t v len ns F Fs k p w) : len ≤ 9223372036854775807 := by
  obtain ⟨cs, h1, _⟩ := h
  rcases h1.2 with ⟨h', h0⟩ | ⟨g, cap', cur, h', hB, hc, hle, hmx, _⟩
  · omega
  · unfold maxLen at hmx
    omega
theorem HdR.lay (h : HdR τ n t v len ns F Fs k p w) : Lay v F Fs := by obtain ⟨cs, h1, h2, h4, h5⟩ := h; exact h4
theorem HdR.at (h : HdR τ n t (.slice a len cap) len ns F Fs k p w) {i : Nat} (hi : i < len * (τ t).length) {kd : FK} (hk : (τ t)[i % (τ t).length]? = some kd) : ∃ g u, a = some ⟨g, 0, none⟩ ∧ F g ∧ w.cell? ⟨g, i, none⟩ = some u ∧ w.frozen? ⟨g, i, none⟩ = false ∧ Hd τ n kd w u (ns.getD i 0) (Fs i) (if i < p then some (k + (ns.take i).sum) else none) := by
  obtain ⟨cs, h1, h2, h4, h5⟩ := h
  have hl : cs.length = len * (τ t).length := h1.1
  have hi' : i < cs.length := by omega
  rcases h1.2 with ⟨h', h0⟩ | ⟨g, cap', cur, h', hB, hc, r⟩
  · rw [h0, Nat.zero_mul] at hi
    exact absurd hi (Nat.not_lt_zero _)
  · cases h'
    have hc1 := World.ownsRow.cells h1 (g := g) rfl i cs[i] (List.getElem?_eq_getElem hi')
    rw [Addr.add_lit, Nat.zero_add] at hc1
    obtain ⟨kd', hk', hs⟩ := h5 i hi'
    rw [hk] at hk'
    obtain rfl := Option.some.inj hk'
    exact ⟨g, cs[i], rfl, h4.own g rfl, hc1, by simp [World.frozen?, hc], hs⟩
theorem HdR.store {g : Nat} {u : Value} {kd : FK} (h : HdR τ n t (.slice (some ⟨g, 0, none⟩) len cap) len ns F Fs k p w) (hk : (τ t)[p % (τ t).length]? = some kd) (hs : ∀ W, Hd τ n kd W u (ns.getD p 0) (Fs p) (some (k + (ns.take p).sum))) : HdR τ n t (.slice (some ⟨g, 0, none⟩) len cap) len ns F Fs k (p + 1) (w.setCell ⟨g, p, none⟩ u) := by
  obtain ⟨cs, h1, h2, h4, h5⟩ := h
  refine ⟨cs.set p u, (World.ownsRow.stored h1 p u).1, by rw [List.length_set]; exact h2, h4, fun i hi => ?_⟩
  rw [List.length_set] at hi
  by_cases e : i = p
  · subst e
    rw [List.getElem_set_self, if_pos (Nat.lt_succ_self _)]
    exact ⟨kd, hk, hs _⟩
  · obtain ⟨kd', hk', hs'⟩ := h5 i hi
    rw [List.getElem_set_ne (fun e' => e e'.symm)]
    refine ⟨kd', hk', ?_⟩
    have hag : Ag (Fs i) w (w.setCell ⟨g, p, none⟩ u) := (Kp.store (F := fun q => q = g) rfl).ag (fun q hq e' => h4.apart g rfl i (by rw [← e']; exact hq))
    have := Hd.ag n kd' _ _ _ _ hs' hag
    by_cases hlt : i < p
    · rw [if_pos (by omega)]
      rwa [if_pos hlt] at this
    · rw [if_neg (by omega)]
      rwa [if_neg hlt] at this
theorem HdR.rowed {g : Nat} {u : Value} {kd : FK} (h : HdR τ n t (.slice (some ⟨g, 0, none⟩) len cap) len ns F Fs k p w) (hk : (τ t)[p % (τ t).length]? = some kd) (hu : w.cell? ⟨g, p, none⟩ = some u) (hm : Kp (Fs p) w w') (hs : Hd τ n kd w' u (ns.getD p 0) (Fs p) (some (k + (ns.take p).sum))) : HdR τ n t (.slice (some ⟨g, 0, none⟩) len cap) len ns F Fs k (p + 1) w' := by
  obtain ⟨cs, h1, h2, h4, h5⟩ := h
  have hag : ∀ G : Nat → Prop, (∀ k, G k → ¬ Fs p k) → Ag G w w' := fun G hG => hm.ag hG
  refine ⟨cs, own_ag h1 (hag (fun q => q = g) (fun q hq => by rw [hq]; exact h4.apart g rfl p)) (fun q hq => (Option.some.inj hq).symm), h2, h4, fun i hi => ?_⟩
  obtain ⟨kd', hk', hs'⟩ := h5 i hi
  by_cases e : i = p
  · subst e
    have hc1 := World.ownsRow.cells h1 (g := g) rfl i cs[i] (List.getElem?_eq_getElem hi)
    rw [Addr.add_lit, Nat.zero_add, hu] at hc1
    obtain rfl := Option.some.inj hc1
    rw [if_pos (Nat.lt_succ_self _)]
    exact ⟨kd, hk, hs⟩
  · have := Hd.ag n kd' _ _ _ _ hs' (hag _ (fun q hq => h4.dis i p q e hq))
    refine ⟨kd', hk', ?_⟩
    by_cases hlt : i < p
    · rw [if_pos (by omega)]
      rwa [if_pos hlt] at this
    · rw [if_neg (by omega)]
      rwa [if_neg hlt] at this
end

end Go.Proofs.YtofpoiccghpliaaGreatDoor

namespace Go.Proofs.YtofpoiccghpliaaGreatDoor
open Go.RowKit
set_option linter.unusedVariables false
set_option maxRecDepth 100000

def bgV (l : List Bool) : Value := .agg (flV18 l).toArray
theorem flV18_len (l : List Bool) : (flV18 l).length = l.length := by simp [flV18]
theorem flV18_size (l : List Bool) : (flV18 l).toArray.size = l.length := by simp [flV18]
theorem flV18_one (l : List Bool) : ∀ v ∈ flV18 l, v.oneCell' = true := fun v hv => by
  obtain ⟨b, _, rfl⟩ := List.mem_map.1 hv
  rfl
theorem flV18_get (l : List Bool) (j : Nat) (hj : j < l.length) : (flV18 l)[j]? = some (.bool (l.getD j false)) := by
  simp [flV18, hj]
/-- No flag; the first flag alone. -/
def zL18 : List Bool := List.replicate 257 false
def oL18 : List Bool := true :: List.replicate 256 false
theorem zL18_len : zL18.length = 257 := by unfold zL18; rw [List.length_replicate]
theorem oL18_len : oL18.length = 257 := by unfold oL18; rw [List.length_cons, List.length_replicate]
theorem zL18_0 : zL18.getD 0 false = false := rfl
theorem oL18_0 : oL18.getD 0 false = true := rfl
theorem Tryz.infoBg : (Tryz.prog.info? 49).map (fun i => (i.zero, i.size)) = some (some (bgV (List.replicate 257 false)), 257) := by kernel_rfl
theorem Tryz.infoB256 : (Tryz.prog.info? 47).map (fun i => (i.zero, i.size)) = some (some (.agg (flV18 (List.replicate 256 false)).toArray), 256) := by kernel_rfl
theorem Tryz.sizeBg : (Tryz.prog.info? 49).map (·.size) = some 257 := (zero_of_info Tryz.infoBg).2
theorem Tryz.sizeB256 : (Tryz.prog.info? 47).map (·.size) = some 256 := (zero_of_info Tryz.infoB256).2
theorem Tryz.rowBg : Tryz.prog.underlying 49 = some (.struct (Tryz.prog.fieldsOf 49)) := by kernel_rfl
theorem Tryz.fieldsBg : (Tryz.prog.fieldsOf 49).toList.map (fun f => (f.name == "_", f.type, f.offset)) = [(false, 4, 0), (false, 47, 1)] := by kernel_rfl
theorem Tryz.rowB256 : Tryz.prog.underlying 47 = some (.array 256 4) := by kernel_rfl
theorem Tryz.rowB : Tryz.prog.underlying 4 = some .bool := by kernel_rfl

section
variable {tb n i : Nat} {F c : List Bool} {w w' : World}
/-- A table of flags, 257 a rule, in a block of its own (one alone: a variable). -/
def TabF (tb : Nat) (F : List Bool) (w : World) : Prop := w.heap[tb]? = some (.cells (flV18 F).toArray 49 (0, 0))
theorem TabF.lt (h : TabF tb F w) : tb < w.heap.size := (Array.getElem?_eq_some_iff.1 h).1
theorem TabF.cell (h : TabF tb F w) (j : Nat) (hj : j < F.length) : w.cell? ⟨tb, j, none⟩ = some (.bool (F.getD j false)) := by
  rw [cell_of_row w tb j _ _ (0, 0) h, List.getElem?_toArray]
  exact flV18_get F j hj
theorem TabF.frozen (h : TabF tb F w) (j : Nat) : w.frozen? ⟨tb, j, none⟩ = false := frozen_of_row w tb j _ _ h
theorem TabF.range (h : TabF tb F w) (hl : F.length = 257 * n) (hi : i < n) : w.rangeAt tb (257 * i) (flV18 (chk F i)) := fun j v hv => by
  have hj : j < 257 := by
    have := (List.getElem?_eq_some_iff.1 hv).1
    rw [flV18_len, chk_len hl hi] at this
    exact this
  rw [flV18_get _ j (by rw [chk_len hl hi]; exact hj), chk_getD hj] at hv
  rw [h.cell _ (by omega), hv]
theorem TabF.load (h : TabF tb F w) (hl : F.length = 257 * n) (hi : i < n) : (Instr.loadAt 49 (.pointer (some ⟨tb, 257 * i, none⟩))).run Tryz.prog w = .ok (bgV (chk F i)) w := by
  exact run_loadAt_mid w tb (257 * i) _ (flV18 (chk F i)) _ (h.range hl hi) Tryz.rowBg rfl (by rw [Tryz.sizeBg, flV18_len, chk_len hl hi])
theorem TabF.keep (h : TabF tb F w) (hb : Below w.heap.size w w') : TabF tb F w' := (hb.block tb h.lt).trans h
theorem TabF.kp {G : Nat → Prop} (h : TabF tb F w) (hb : Kp G w w') (hG : ¬ G tb) : TabF tb F w' := (hb.block tb h.lt hG).trans h
theorem putK_flV (F c : List Bool) (i : Nat) : flV18 (putK F i c) = (flV18 F).take (257 * i) ++ flV18 c ++ (flV18 F).drop (257 * i + (flV18 c).length) := by
  unfold putK
  simp only [flV18, List.map_append, List.map_take, List.map_drop, List.length_map]
/-- The world behind a store of one rule's flags. -/
def putW18 (w : World) (tb : Nat) (F : List Bool) : World := w.setRow tb (flV18 F).toArray
theorem TabF.put (h : TabF tb F w) (G : List Bool) : TabF tb G (putW18 w tb G) := setRow_heap w tb _ _ _ _ h
theorem TabF.store (h : TabF tb F w) (hl : F.length = 257 * n) (hi : i < n) (hc : c.length = 257) :
    (Instr.storeAt 49 (.pointer (some ⟨tb, 257 * i, none⟩)) (bgV c)).run Tryz.prog w = .ok () (putW18 w tb (putK F i c)) := by
  have h1 := run_storeCells_at (P := Tryz.prog) tb (257 * i) _ (flV18 c) 0 (flV18 F).toArray w h (by rw [flV18_len, hc, List.size_toArray, flV18_len]; omega) (flV18_one c)
  have hz : (sizeOf 49).run Tryz.prog w = .ok 257 w := by
    have h2 := Tryz.sizeBg
    unfold sizeOf typeInfo
    cases hq : Tryz.prog.info? 49 with
    | none => rw [hq] at h2; cases h2
    | some t =>
      rw [hq] at h2
      have h3 : t.size = 257 := by simpa using h2
      simp [hq, h3]
  have hsz : (bgV c).cells.size = 257 := by show (flV18 c).toArray.size = 257; rw [flV18_size, hc]
  simp only [Instr.storeAt, Instr.sureAddr, storeVar, Sem.run_bind, Sem.run_pure, Result.andThen_ok, hz, hsz, ne_eq, not_true_eq_false, if_false]
  have e : (bgV c).cells.toList = flV18 c := by show (flV18 c).toArray.toList = _; rw [List.toList_toArray]
  rw [e, h1]
  unfold putW18
  rw [putK_flV, Nat.add_zero]
theorem Kp.put {G : Nat → Prop} {F : List Bool} (hg : G tb) : Kp G w (putW18 w tb F) := ⟨rfl, rfl, rfl, Nat.le_of_eq (setRow_size ..).symm, fun k _ hk => setRow_other w tb k _ (fun e => hk (by rw [e]; exact hg))⟩
theorem putW18_size (F : List Bool) : (putW18 w tb F).heap.size = w.heap.size := setRow_size ..
theorem TabF.set (h : TabF tb F w) (j : Nat) (b : Bool) : TabF tb (F.set j b) (w.setCell ⟨tb, j, none⟩ (.bool b)) := by
  unfold TabF
  rw [heap_setCell_same w tb j _ _ _ h]
  simp [flV18]
/-- A variable of 257 flags alone. -/
theorem chk_one (c : List Bool) (hc : c.length = 257) : chk c 0 = c := by
  unfold chk
  rw [Nat.mul_zero, List.drop_zero, List.take_of_length_le (by omega)]
theorem putK_one (F c : List Bool) (hF : F.length = 257) (hc : c.length = 257) : putK F 0 c = c := by
  unfold putK
  rw [Nat.mul_zero, List.take_zero, List.nil_append, Nat.zero_add, hc, List.drop_of_length_le (by omega), List.append_nil]
theorem TabF.load1 (h : TabF tb c w) (hc : c.length = 257) : (Instr.loadAt 49 (.pointer (some ⟨tb, 0, none⟩))).run Tryz.prog w = .ok (bgV c) w := by
  have := h.load (n := 1) (i := 0) (by omega) (by omega)
  rw [chk_one c hc] at this
  exact this
theorem TabF.store1 (h : TabF tb F w) (hF : F.length = 257) (hc : c.length = 257) : (Instr.storeAt 49 (.pointer (some ⟨tb, 0, none⟩)) (bgV c)).run Tryz.prog w = .ok () (putW18 w tb c) := by
  have := h.store (n := 1) (i := 0) (c := c) (by omega) (by omega) hc
  rw [putK_one F c hF hc] at this
  exact this
end

/-! ### held one against the other -/
theorem all_range_eqB : ∀ (xs ys : List Bool), xs.length = ys.length → ((List.range xs.length).all fun i => xs.getD i false == ys.getD i false) = (xs == ys)
  | [], [], _ => rfl
  | x :: xs, y :: ys, h => by
    have ih := all_range_eqB xs ys (by simpa using h)
    rw [List.length_cons, List.range_succ_eq_map, List.all_cons, List.all_map]
    simp only [List.getD_cons_zero, Function.comp_def, List.getD_cons_succ, ih]
    simp [List.cons_beq_cons]
  | [], _ :: _, h => by simp at h
  | _ :: _, [], h => by simp at h
theorem Tryz.sizeB1 (w : World) : (sizeOf 4).run Tryz.prog w = .ok 1 w := by
  have h2 := Tryz.infoB18
  unfold sizeOf typeInfo
  cases hq : Tryz.prog.info? 4 with
  | none => rw [hq] at h2; cases h2
  | some t =>
    rw [hq] at h2
    have h3 : t.size = 1 := by simp at h2; exact h2.2.1
    simp [hq, h3]
theorem part_bool18 (xs : List Bool) (i : Nat) (hi : i < xs.length) (w : World) : (part 4 (flV18 xs).toArray i).run Tryz.prog w = .ok (.bool (xs.getD i false)) w := by
  have hg : (flV18 xs).toArray[i]? = some (.bool (xs.getD i false)) := by rw [List.getElem?_toArray]; exact flV18_get xs i hi
  simp only [part, isAgg, Sem.run_bind, run_underlying Tryz.rowB, Result.andThen_ok, Sem.run_pure, Bool.false_eq_true, if_false, hg]
theorem eqArr18 (d n : Nat) (t : TypeId) (ht : Tryz.prog.underlying t = some (.array n 4)) (xs ys : List Bool) (hx : xs.length = n) (hy : ys.length = n) (w : World) :
    (Op.equalIn (d + 2) t (.agg (flV18 xs).toArray) (.agg (flV18 ys).toArray)).run Tryz.prog w = .ok (xs == ys) w := by
  rw [← all_range_eqB xs ys (hx.trans hy.symm), hx, List.range_eq_range', Op.equalIn]
  simp only [Sem.run_bind, run_underlying ht, Result.andThen_ok, Tryz.sizeB1, Std.Legacy.Range.forIn_eq_forIn_range', Std.Legacy.Range.size, Nat.sub_zero, Nat.add_sub_cancel, Nat.div_one]
  have hl : ∀ i ∈ List.range' 0 n 1, i < n := fun i hi => by simpa using (List.mem_range'_1.1 hi).2
  generalize List.range' 0 n 1 = l at hl ⊢
  simp only [Nat.mul_one]
  induction l with
  | nil => simp
  | cons i l ih =>
    have hi : i < n := hl i (by simp)
    have px := part_bool18 xs i (by omega) w
    have py := part_bool18 ys i (by omega) w
    have pe : (Op.equalIn (d + 1) 4 (.bool (xs.getD i false)) (.bool (ys.getD i false))).run Tryz.prog w = .ok (xs.getD i false == ys.getD i false) w := run_equalIn_bool' w d 4 _ _ Tryz.rowB
    simp only [List.forIn_cons, Sem.run_bind, px, py, pe, Result.andThen_ok, List.all_cons]
    cases hb : (xs.getD i false == ys.getD i false)
    · simp
    · simp only [Bool.not_true, Bool.false_eq_true, if_false, Sem.run_pure, Result.andThen_ok, Bool.true_and]
      exact ih fun j hj => hl j (by simp [hj])
theorem eqBg18 (d : Nat) (xs ys : List Bool) (hx : xs.length = 257) (hy : ys.length = 257) (w : World) :
    (Op.equalIn (d + 4) 49 (.agg (flV18 xs).toArray) (.agg (flV18 ys).toArray)).run Tryz.prog w = .ok (xs == ys) w := by
  have hf := Tryz.fieldsBg
  rw [run_equalIn_struct w (d + 3) 49 _ _ Tryz.rowBg Tryz.stoodInHeld49]
  generalize (Tryz.prog.fieldsOf 49).toList = l at hf
  obtain ⟨f, l1, rfl, h1, hf1⟩ := List.map_eq_cons_iff.1 hf
  obtain ⟨g, l2, rfl, h2, hf2⟩ := List.map_eq_cons_iff.1 hf1
  obtain rfl := List.map_eq_nil_iff.1 hf2
  rw [Prod.mk.injEq, Prod.mk.injEq] at h1 h2
  obtain ⟨f1, f2, f3⟩ := h1
  obtain ⟨g1, g2, g3⟩ := h2
  cases xs with
  | nil => cases hx
  | cons x xs =>
    cases ys with
    | nil => cases hy
    | cons y ys =>
      have f4 : f.name ≠ "_" := by simpa using f1
      have g4 : g.name ≠ "_" := by simpa using g1
      have px := part_bool18 (x :: xs) 0 (by omega) w
      have py := part_bool18 (y :: ys) 0 (by omega) w
      have pe : (Op.equalIn (d + 3) 4 (.bool ((x :: xs).getD 0 false)) (.bool ((y :: ys).getD 0 false))).run Tryz.prog w = .ok ((x :: xs).getD 0 false == (y :: ys).getD 0 false) w := run_equalIn_bool' w (d + 2) 4 _ _ Tryz.rowB
      have hpt : ∀ (z : Bool) (zs : List Bool), zs.length = 256 → (part 47 (flV18 (z :: zs)).toArray 1).run Tryz.prog w = .ok (.agg (flV18 zs).toArray) w := fun z zs hz => by
        have hs : (sizeOf 47).run Tryz.prog w = .ok 256 w := by
          have h2 := Tryz.sizeB256
          unfold sizeOf typeInfo
          cases hq : Tryz.prog.info? 47 with
          | none => rw [hq] at h2; cases h2
          | some t =>
            rw [hq] at h2
            have h3 : t.size = 256 := by simpa using h2
            simp [hq, h3]
        simp only [part, isAgg, Sem.run_bind, run_underlying Tryz.rowB256, Result.andThen_ok, Sem.run_pure, if_true, hs]
        have e1 : flV18 (z :: zs) = .bool z :: flV18 zs := rfl
        rw [e1, List.extract_toArray, List.extract_eq_take_drop, List.drop_succ_cons, List.drop_zero, List.take_of_length_le (by rw [flV18_len, hz]; decide)]
      have hx2 : xs.length = 256 := by simpa using hx
      have hy2 : ys.length = 256 := by simpa using hy
      simp only [Op.eqFields, f4, g4, ne_eq, not_false_eq_true, if_true, f2, f3, g2, g3, Sem.run_bind, px, py, pe, Result.andThen_ok]
      simp only [List.getD_cons_zero, List.cons_beq_cons]
      cases hb : (x == y)
      · simp
      · simp only [Bool.not_true, Bool.false_eq_true, if_false, Bool.true_and]
        rw [Sem.run_bind, hpt x xs hx2, Result.andThen_ok, Sem.run_bind, hpt y ys hy2, Result.andThen_ok, Sem.run_bind, eqArr18 (d + 1) 256 47 Tryz.rowB256 xs ys hx2 hy2 w, Result.andThen_ok]
        cases hc : (xs == ys) <;> simp
theorem flZero18 : Value.agg Tryz.zeroCells49 = .agg (flV18 zL18).toArray := by
  have h1 := (zero_of_info Tryz.infoBg).1 { heap := #[], tape := default, drawn := default, os := default, output := default }
  rw [Tryz.zeroValue49] at h1
  cases h1
  rfl

/-! ### the walk's steps -/
section
variable {ops : Array Oper} {rest : List Oper} {op : Oper} {a : Act} {w : World} {Q : Exit → Act → World → Prop} {tb n i : Nat} {F p q : List Bool}
theorem wpl_load18 {o : Nat} (hgd : op.guard = none) (x : Operand) (ho : op.op = .load 49 x) (hx : a.eval x = .pointer (some ⟨tb, o, none⟩)) (hoi : o = 257 * i) (hT : TabF tb F w) (hl : F.length = 257 * n) (hi : i < n)
    (h : wpList Tryz.prog ops Q rest (a.put op.dst (.agg (flV18 (chk F i)).toArray)) w) : wpList Tryz.prog ops Q (op :: rest) a w :=
  wpList_plain hgd fun K hK => by
    unfold Oper.wp execOp
    subst hoi
    simp only [ho, hx, Sem.run_bind, hT.load hl hi, Result.andThen_ok]
    exact hK _ _ h
theorem wpl_load1 (hgd : op.guard = none) (x : Operand) (ho : op.op = .load 49 x) (hx : a.eval x = .pointer (some ⟨tb, 0, none⟩)) (hT : TabF tb p w) (hp : p.length = 257)
    (h : wpList Tryz.prog ops Q rest (a.put op.dst (.agg (flV18 p).toArray)) w) : wpList Tryz.prog ops Q (op :: rest) a w :=
  wpList_plain hgd fun K hK => by
    unfold Oper.wp execOp
    simp only [ho, hx, Sem.run_bind, hT.load1 hp, Result.andThen_ok]
    exact hK _ _ h
theorem wpl_loadArr (hgd : op.guard = none) (x : Operand) (ho : op.op = .load 47 x) (hx : a.eval x = .pointer (some ⟨tb, 1, none⟩)) (hT : TabF tb p w) (hp : p.length = 257)
    (h : wpList Tryz.prog ops Q rest (a.put op.dst (.agg (flV18 p.tail).toArray)) w) : wpList Tryz.prog ops Q (op :: rest) a w := by
  rw [← List.drop_one] at h
  refine wpList_load_mid hgd _ x ho tb 1 hx (flV18 (p.drop 1)) _ (fun j v hv => ?_) Tryz.rowB256 rfl (by rw [Tryz.sizeB256, flV18_len, List.length_drop, hp]) h
  have hj : j < 256 := by
    have := (List.getElem?_eq_some_iff.1 hv).1
    rw [flV18_len, List.length_drop, hp] at this
    exact this
  rw [flV18_get _ j (by rw [List.length_drop, hp]; exact hj), List.getD_eq_getElem?_getD, List.getElem?_drop, ← List.getD_eq_getElem?_getD] at hv
  rw [hT.cell _ (by omega), hv]
theorem wpl_store1 (hgd : op.guard = none) (x y : Operand) (ho : op.op = .store 49 x y) (hx : a.eval x = .pointer (some ⟨tb, 0, none⟩)) (hy : a.eval y = .agg (flV18 p).toArray) (hT : TabF tb F w) (hF : F.length = 257) (hp : p.length = 257)
    (h : wpList Tryz.prog ops Q rest (a.put op.dst undef) (putW18 w tb p)) : wpList Tryz.prog ops Q (op :: rest) a w :=
  wpList_plain hgd fun K hK => by
    unfold Oper.wp execOp
    have := hT.store1 hF hp
    unfold bgV at this
    simp only [ho, hx, hy, Sem.run_bind, this, Result.andThen_ok]
    exact hK _ _ h
theorem wpl_eql18 (hgd : op.guard = none) (x y : Operand) (k : TypeId) (ho : op.op = .binOp .eql 49 x y k) (hx : a.eval x = .agg (flV18 p).toArray) (hy : a.eval y = .agg (flV18 q).toArray) (hp : p.length = 257) (hq : q.length = 257)
    (h : wpList Tryz.prog ops Q rest (a.put op.dst (.bool (p == q))) w) : wpList Tryz.prog ops Q (op :: rest) a w :=
  wpList_plain hgd fun K hK => by
    unfold Oper.wp execOp
    simp only [ho, hx, hy, Sem.run_bind, run_eqGuard_agg (P := Tryz.prog) w .eql 49 x y _ _ Tryz.eqGuardType49, Result.andThen_ok, run_eql_struct (P := Tryz.prog) w, eqBg18 9996 p q hp hq w]
    exact hK _ _ h
theorem run_index18 {l : List Bool} {i : Nat} (hl : l.length = 256) (hi : i < 256) (w : World) : (Instr.index 47 (.agg (flV18 l).toArray) (.int .i64 (i : Int))).run Tryz.prog w = .ok (.bool (l.getD i false)) w := by
  have hc : (0 : Int) ≤ (i : Int) ∧ (i : Int) < ((256 : Nat) : Int) := ⟨by omega, by omega⟩
  have h1 := part_bool18 l i (by omega) w
  simp only [Instr.index, asIntOf, Sem.run_bind, Sem.run_pure, Result.andThen_ok, run_underlying Tryz.rowB256, Tryz.sizeB1, Int.toNat_natCast, Nat.mul_one, hc, and_self, if_true, h1]
theorem wpl_index18 (hgd : op.guard = none) (x y : Operand) (ho : op.op = .index 47 x y) (hx : a.eval x = .agg (flV18 p).toArray) (hy : a.eval y = .int .i64 (i : Int)) (hp : p.length = 256) (hi : i < 256)
    (h : wpList Tryz.prog ops Q rest (a.put op.dst (.bool (p.getD i false))) w) : wpList Tryz.prog ops Q (op :: rest) a w :=
  wpList_plain hgd fun K hK => by
    unfold Oper.wp execOp
    simp only [ho, hx, hy, Sem.run_bind, run_index18 hp hi w, Result.andThen_ok]
    exact hK _ _ h
theorem Tryz.built0 : Tryz.prog.built 49 [] = some (flV18 zL18).toArray := by kernel_rfl
theorem Tryz.built1 : Tryz.prog.built 49 [(0, .bool true)] = some (flV18 oL18).toArray := by kernel_rfl
theorem wpl_build0 (hgd : op.guard = none) (ho : op.op = .build 49 #[])
    (h : wpList Tryz.prog ops Q rest (a.put op.dst (.agg (flV18 zL18).toArray)) w) : wpList Tryz.prog ops Q (op :: rest) a w :=
  wpList_plain hgd fun K hK => by
    unfold Oper.wp execOp
    simp only [ho, Sem.run_bind, Array.map_empty, run_build w 49 #[] _ Tryz.built0, Result.andThen_ok]
    exact hK _ _ h
theorem wpl_build1 (hgd : op.guard = none) (x : Operand) (ho : op.op = .build 49 #[(0, x)]) (hx : a.eval x = .bool true)
    (h : wpList Tryz.prog ops Q rest (a.put op.dst (.agg (flV18 oL18).toArray)) w) : wpList Tryz.prog ops Q (op :: rest) a w :=
  wpList_plain hgd fun K hK => by
    unfold Oper.wp execOp
    simp only [ho, Sem.run_bind, List.map_toArray, List.map_cons, List.map_nil, hx, run_build w 49 #[(0, .bool true)] _ Tryz.built1, Result.andThen_ok]
    exact hK _ _ h
end
/-- What is left in the cell of the result is answered. -/
theorem ret18 {fn : Func} {u : Tmp} {R : Ending → World → Prop} {a : Act} {w : World} {b : Nat} {l : List Bool} (h : fn.results = #[.cell u 49]) (hu : a.tmps.getD u undef = .pointer (some ⟨b, 0, none⟩)) (hd : a.defers = []) (hT : TabF b l w) (hl : l.length = 257)
    (hR : R (.returned (.agg (flV18 l).toArray)) w) : bodyPost Tryz.prog fn R .ret a w := by
  refine bodyPost_ret ?_ hd hR
  have h1 := hT.load1 hl
  simp only [Instr.loadAt, Instr.sureAddr, Sem.run_bind, Sem.run_pure, Result.andThen_ok] at h1
  simp only [results, h]
  have hu' : a.tmps[u]?.getD undef = .pointer (some ⟨b, 0, none⟩) := by simpa using hu
  simp [hu', asAddr, h1, bgV]
end Go.Proofs.YtofpoiccghpliaaGreatDoor
