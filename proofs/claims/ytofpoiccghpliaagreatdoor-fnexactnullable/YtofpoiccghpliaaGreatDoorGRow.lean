/- Expressions, as they lie in memory: nodes with their kids. -/
/- Lists of structs as they lie in memory, whatever their elements are: read, kept, opened as arguments, and built cell by cell. No program is named. -/
import Derived.Test.YtofpoiccghpliaaGreatDoorVRow
import Derived.Deep.Slices
import Derived.OpenShut
import Derived.Laws.OwnMore
import Derived.OwnWalk
import Derived.Handy
namespace Go.Proofs.YtofpoiccghpliaaGreatDoor
open Go.RowKit

/-- A list of numbers. -/
def IRow (w : World) (v : Value) (ks : List Int) : Prop :=
  ∃ a cap, v = .slice a ks.length cap ∧ (a = none → cap = 0) ∧ (0 < ks.length → ∃ b off, a = some ⟨b, off, none⟩ ∧ b < w.heap.size ∧
    ∀ i (h : i < ks.length), w.cell? ⟨b, off + i, none⟩ = some (.int .i64 ks[i]))
theorem IRow.slice {w : World} {v : Value} {ks : List Int} (h : IRow w v ks) : ∃ a cap, v = .slice a ks.length cap := by
  obtain ⟨a, cap, rfl, _⟩ := h
  exact ⟨a, cap, rfl⟩
theorem IRow.below {w w' : World} {v : Value} {ks : List Int} (h : IRow w v ks) (hb : Below w.heap.size w w') : IRow w' v ks := by
  obtain ⟨a, cap, rfl, hcap, hh⟩ := h
  refine ⟨a, cap, rfl, hcap, fun h0 => ?_⟩
  obtain ⟨b, off, rfl, hlt, hc⟩ := hh h0
  exact ⟨b, off, rfl, Nat.lt_of_lt_of_le hlt hb.size, fun i hi => (World.cell?_of_block (hb.block b hlt)).trans (hc i hi)⟩
theorem IRow.at {w : World} {a : Option Addr} {n cap k : Nat} {ks : List Int} (h : IRow w (.slice a n cap) ks) (hk : k < ks.length) :
    ∃ b off, a = some ⟨b, off, none⟩ ∧ w.cell? ⟨b, off + k, none⟩ = some (.int .i64 ks[k]) := by
  obtain ⟨a', cap', e, _, hh⟩ := h
  cases e
  obtain ⟨b, off, rfl, _, hc⟩ := hh (by omega)
  exact ⟨b, off, rfl, hc k hk⟩

/-- A node: its Op, its Num, its Name, its Kids. -/
structure NodeD where
  op : Int
  num : Int
  name : ByteArray
  kids : List Int
/-- A node's four cells. -/
def NodeAt (w : World) (b o : Nat) (x : NodeD) (kv : Value) : Prop :=
  w.cell? ⟨b, o, none⟩ = some (.int .i64 x.op) ∧ w.cell? ⟨b, o + 1, none⟩ = some (.int .i64 x.num) ∧ w.cell? ⟨b, o + 2, none⟩ = some (.string x.name) ∧ w.cell? ⟨b, o + 3, none⟩ = some kv ∧ IRow w kv x.kids
theorem NodeAt.below {w w' : World} {b o : Nat} {x : NodeD} {kv : Value} (h : NodeAt w b o x kv) (hb : Below w.heap.size w w') : NodeAt w' b o x kv := by
  have hlt := World.block_lt_of_cell? w _ h.1
  have e := hb.block b hlt
  exact ⟨(World.cell?_of_block e).trans h.1, (World.cell?_of_block e).trans h.2.1, (World.cell?_of_block e).trans h.2.2.1, (World.cell?_of_block e).trans h.2.2.2.1, h.2.2.2.2.below hb⟩
/-- A list of nodes: four cells each. -/
def NRow (w : World) (v : Value) (ns : List NodeD) : Prop :=
  ∃ a cap, v = .slice a ns.length cap ∧ (a = none → cap = 0) ∧ (0 < ns.length → ∃ b off, a = some ⟨b, off, none⟩ ∧ b < w.heap.size ∧
    ∀ i (h : i < ns.length), ∃ kv, NodeAt w b (off + i * 4) ns[i] kv)
theorem NRow.slice {w : World} {v : Value} {ns : List NodeD} (h : NRow w v ns) : ∃ a cap, v = .slice a ns.length cap := by
  obtain ⟨a, cap, rfl, _⟩ := h
  exact ⟨a, cap, rfl⟩
theorem NRow.below {w w' : World} {v : Value} {ns : List NodeD} (h : NRow w v ns) (hb : Below w.heap.size w w') : NRow w' v ns := by
  obtain ⟨a, cap, rfl, hcap, hh⟩ := h
  refine ⟨a, cap, rfl, hcap, fun h0 => ?_⟩
  obtain ⟨b, off, rfl, hlt, hc⟩ := hh h0
  exact ⟨b, off, rfl, Nat.lt_of_lt_of_le hlt hb.size, fun i hi => (hc i hi).imp fun kv h => h.below hb⟩
theorem NRow.at {w : World} {a : Option Addr} {n cap k : Nat} {ns : List NodeD} (h : NRow w (.slice a n cap) ns) (hk : k < ns.length) :
    ∃ b off kv, a = some ⟨b, off, none⟩ ∧ NodeAt w b (off + k * 4) ns[k] kv := by
  obtain ⟨a', cap', e, _, hh⟩ := h
  cases e
  obtain ⟨b, off, rfl, _, hc⟩ := hh (by omega)
  obtain ⟨kv, h⟩ := hc k hk
  exact ⟨b, off, kv, rfl, h⟩

/-- Within the machine's bounds. -/
def i64 (z : Int) : Prop := -9223372036854775808 ≤ z ∧ z ≤ 9223372036854775807
def NodeIn (x : NodeD) : Prop := i64 x.op ∧ i64 x.num ∧ x.name.size ≤ maxLen ∧ x.kids.length ≤ maxLen ∧ ∀ k ∈ x.kids, i64 k
def NArg (w : World) (v : Value) (ns : List NodeD) : Prop := NRow w v ns ∧ ns.length ≤ maxLen ∧ ∀ x ∈ ns, NodeIn x

theorem iRow_of_trod {H : Type} {enc : TypeId × Value → H} {P : Program} {w : World} {base : Nat} {held : Bool} {t e : TypeId} {fuel : Nat} {v : Value} {x : DataW H × List MemPlace} (ht : P.underlying t = some (.slice e)) (he : P.underlying e = some (.int .i64)) (ce : P.cellsOf e = 1)
    (h : DataW.trod enc P w base (fun _ => true) held fuel t [v] = some x) : ∃ ks, IRow w v ks ∧ ks.length ≤ maxLen ∧ ∀ k ∈ ks, i64 k := by
  rcases Go.Deep.open_slice1 ht ce h with ⟨h0, _⟩ | ⟨a, len, cap, m, n, V, D, Pl, hv, hb, hl, hm, hmm, _, hc⟩
  · obtain rfl : v = .slice none 0 0 := by simpa using h0
    exact ⟨[], ⟨none, 0, rfl, fun _ => rfl, fun h => absurd h (by simp)⟩, by simp, by simp⟩
  · obtain rfl : v = .slice (some a) len cap := by simpa using hv
    have hml : len ≤ m := by rw [hmm, if_pos rfl]; exact hl
    have each : ∀ i, i < len → ∃ q : Int, w.cell? (a.add i) = some (.int .i64 q) ∧ i64 q := by
      intro i hi
      obtain ⟨h1, h2⟩ := hc i (by omega)
      obtain ⟨z, e2, _, hz⟩ := DataW.trod_int he h2
      have e2' : V i = .int .i64 z := by simpa using e2
      exact ⟨z, by rw [h1, e2'], bounds_i64 hz⟩
    obtain ⟨q, hq⟩ := Go.Deep.choose_lt each
    have hxl : ((List.range len).map q).length = len := by simp
    refine ⟨(List.range len).map q, ⟨some a, cap, by rw [hxl], fun h => (by cases h), fun h0 => ?_⟩, by rw [hxl]; omega, fun x hx => ?_⟩
    · obtain ⟨b, off, spot⟩ := a
      rw [hxl] at h0
      have h1 := (hq 0 h0).1
      have hspot : spot = none := by simpa [Addr.add] using World.cell?_spot h1
      subst hspot
      refine ⟨b, off, rfl, ?_, fun i hi => ?_⟩
      · have := World.block_lt_of_cell? w _ h1
        simpa [Addr.add] using this
      · rw [hxl] at hi
        have h2 := (hq i hi).1
        rw [Addr.add_lit] at h2
        simpa using h2
    · obtain ⟨i, hi, rfl⟩ := List.mem_map.1 hx
      exact (hq i (List.mem_range.1 hi)).2

theorem nArg_of_trod {H : Type} {enc : TypeId × Value → H} {P : Program} {w : World} {base : Nat} {held : Bool} {t e : TypeId} {f0 f1 f2 f3 : Field} {ke : TypeId} {fuel : Nat} {v : Value} {x : DataW H × List MemPlace} (ht : P.underlying t = some (.slice e)) (he : P.underlying e = some (.struct #[f0, f1, f2, f3]))
    (ce : P.cellsOf e = 4) (o0 : f0.offset = 0) (o1 : f1.offset = 1) (o2 : f2.offset = 2) (o3 : f3.offset = 3) (c0 : P.cellsOf f0.type = 1) (c1 : P.cellsOf f1.type = 1) (c2 : P.cellsOf f2.type = 1) (c3 : P.cellsOf f3.type = 1)
    (u0 : P.underlying f0.type = some (.int .i64)) (u1 : P.underlying f1.type = some (.int .i64)) (u2 : P.underlying f2.type = some .string) (u3 : P.underlying f3.type = some (.slice ke)) (uk : P.underlying ke = some (.int .i64)) (ck : P.cellsOf ke = 1)
    (h : DataW.trod enc P w base (fun _ => true) held fuel t [v] = some x) : ∃ ns, NArg w v ns := by
  rcases Go.Deep.open_slice ht h with ⟨h0, _⟩ | ⟨a, len, cap, m, n, D, Pl, hv, hb, hl, hm, hmm, _, hc⟩
  · obtain rfl : v = .slice none 0 0 := by simpa using h0
    exact ⟨[], ⟨none, 0, rfl, fun _ => rfl, fun h => absurd h (by simp)⟩, by simp, by simp⟩
  · obtain rfl : v = .slice (some a) len cap := by simpa using hv
    have hml : len ≤ m := by rw [hmm, if_pos rfl]; exact hl
    have each : ∀ i, i < len → ∃ q : NodeD × Value, w.cell? (a.add (i * 4)) = some (.int .i64 q.1.op) ∧ w.cell? (a.add (i * 4 + 1)) = some (.int .i64 q.1.num) ∧ w.cell? (a.add (i * 4 + 2)) = some (.string q.1.name) ∧ w.cell? (a.add (i * 4 + 3)) = some q.2 ∧ IRow w q.2 q.1.kids ∧ NodeIn q.1 := by
      intro i hi
      obtain ⟨cs', h1, h2⟩ := hc i (by omega)
      rw [ce] at h1
      obtain ⟨_, hlen, hcell⟩ := World.cells?_some h1
      obtain ⟨xs, k, hk, hxy, _, hxl, hf⟩ := DataW.trod_struct he h2
      match xs, hxl, cs', hlen with
      | [y0, y1, y2, y3], _, [v0, v1, v2, v3], _ =>
        have g0 := hf 0 f0 rfl
        have g1 := hf 1 f1 rfl
        have g2 := hf 2 f2 rfl
        have g3 := hf 3 f3 rfl
        simp [o0, o1, o2, o3, c0, c1, c2, c3] at g0 g1 g2 g3
        have e0 := hcell 0 (by omega)
        have e1 := hcell 1 (by omega)
        have e2 := hcell 2 (by omega)
        have e3 := hcell 3 (by omega)
        rw [Go.Deep.add_add] at e0 e1 e2 e3
        obtain ⟨z0, d0, _, hz0⟩ := DataW.trod_int u0 g0
        obtain ⟨z1, d1, _, hz1⟩ := DataW.trod_int u1 g1
        obtain ⟨s2, d2, _, hs2⟩ := DataW.trod_string u2 g2
        obtain ⟨ks, hks, hkl, hkb⟩ := iRow_of_trod u3 uk ck g3
        have d0' : v0 = .int .i64 z0 := by simpa using d0
        have d1' : v1 = .int .i64 z1 := by simpa using d1
        have d2' : v2 = .string s2 := by simpa using d2
        subst d0' d1' d2'
        exact ⟨(⟨z0, z1, s2, ks⟩, v3), by simpa using e0, by simpa using e1, by simpa using e2, by simpa using e3, hks, bounds_i64 hz0, bounds_i64 hz1, hs2, hkl, hkb⟩
    have : Inhabited (NodeD × Value) := ⟨(⟨0, 0, ⟨#[]⟩, []⟩, .slice none 0 0)⟩
    obtain ⟨q, hq⟩ := Go.Deep.choose_lt each
    have hxl : ((List.range len).map fun i => (q i).1).length = len := by simp
    refine ⟨(List.range len).map fun i => (q i).1, ⟨some a, cap, by rw [hxl], fun h => (by cases h), fun h0 => ?_⟩, by rw [hxl]; omega, fun x hx => ?_⟩
    · obtain ⟨b, off, spot⟩ := a
      rw [hxl] at h0
      have h1 := (hq 0 h0).1
      have hspot : spot = none := by simpa [Addr.add] using World.cell?_spot h1
      subst hspot
      refine ⟨b, off, rfl, ?_, fun i hi => ?_⟩
      · have := World.block_lt_of_cell? w _ h1
        simpa [Addr.add] using this
      · rw [hxl] at hi
        obtain ⟨h1, h2, h3, h4, h5, _⟩ := hq i hi
        rw [Addr.add_lit] at h1 h2 h3 h4
        refine ⟨(q i).2, ?_⟩
        simp only [List.getElem_map, List.getElem_range]
        exact ⟨h1, by rw [Nat.add_assoc]; exact h2, by rw [Nat.add_assoc]; exact h3, by rw [Nat.add_assoc]; exact h4, h5⟩
    · obtain ⟨i, hi, rfl⟩ := List.mem_map.1 hx
      exact (hq i (List.mem_range.1 hi)).2.2.2.2.2

end Go.Proofs.YtofpoiccghpliaaGreatDoor

namespace Go.Proofs.YtofpoiccghpliaaGreatDoor
open Go.RowKit
variable {α : Type}

/-- A list: each element lies in sz cells, as E tells of them. -/
def RowC (sz : Nat) (E : World → List Value → α → Prop) (w : World) (v : Value) (xs : List α) : Prop :=
  ∃ a cap, v = .slice a xs.length cap ∧ (a = none → cap = 0) ∧ (0 < xs.length → ∃ b off, a = some ⟨b, off, none⟩ ∧ b < w.heap.size ∧
    ∀ i (h : i < xs.length), ∃ vs : List Value, vs.length = sz ∧ (∀ j (hj : j < vs.length), w.cell? ⟨b, off + i * sz + j, none⟩ = some vs[j]) ∧ E w vs xs[i])
theorem RowC.slice {sz : Nat} {E : World → List Value → α → Prop} {w : World} {v : Value} {xs : List α} (h : RowC sz E w v xs) : ∃ a cap, v = .slice a xs.length cap := by
  obtain ⟨a, cap, rfl, _⟩ := h
  exact ⟨a, cap, rfl⟩
theorem RowC.at {sz : Nat} {E : World → List Value → α → Prop} {w : World} {a : Option Addr} {n cap k : Nat} {xs : List α} (h : RowC sz E w (.slice a n cap) xs) (hk : k < xs.length) :
    ∃ b off vs, a = some ⟨b, off, none⟩ ∧ vs.length = sz ∧ (∀ j (hj : j < vs.length), w.cell? ⟨b, off + k * sz + j, none⟩ = some vs[j]) ∧ E w vs xs[k] := by
  obtain ⟨a', cap', e, _, hh⟩ := h
  cases e
  obtain ⟨b, off, rfl, _, hc⟩ := hh (by omega)
  obtain ⟨vs, h1, h2, h3⟩ := hc k hk
  exact ⟨b, off, vs, rfl, h1, h2, h3⟩

/-- What is told of a world stays told behind what makes new memory alone. -/
def StableE (E : World → List Value → α → Prop) : Prop := ∀ (w w' : World) (vs : List Value) (x : α), E w vs x → Below w.heap.size w w' → E w' vs x
theorem RowC.below {sz : Nat} {E : World → List Value → α → Prop} (hE : StableE E) {w w' : World} {v : Value} {xs : List α} (h : RowC sz E w v xs) (hb : Below w.heap.size w w') : RowC sz E w' v xs := by
  obtain ⟨a, cap, rfl, hcap, hh⟩ := h
  refine ⟨a, cap, rfl, hcap, fun h0 => ?_⟩
  obtain ⟨b, off, rfl, hlt, hc⟩ := hh h0
  refine ⟨b, off, rfl, Nat.lt_of_lt_of_le hlt hb.size, fun i hi => ?_⟩
  obtain ⟨vs, h1, h2, h3⟩ := hc i hi
  exact ⟨vs, h1, fun j hj => (World.cell?_of_block (hb.block b hlt)).trans (h2 j hj), hE _ _ _ _ h3 hb⟩

/-- An argument's list, opened: each element by its own opener. -/
theorem rowC_of_trod {H : Type} {enc : TypeId × Value → H} {P : Program} {w : World} {base : Nat} {held : Bool} {t e : TypeId} {sz fuel : Nat} {v : Value} {x : DataW H × List MemPlace} {E : World → List Value → α → Prop} {In : α → Prop} [Inhabited α]
    (ht : P.underlying t = some (.slice e)) (ce : P.cellsOf e = sz) (hsz : 0 < sz) (hel : ∀ (n : Nat) (cs : List Value) (y : DataW H × List MemPlace), cs.length = sz → DataW.trod enc P w base (fun _ => true) held n e cs = some y → ∃ x, E w cs x ∧ In x)
    (h : DataW.trod enc P w base (fun _ => true) held fuel t [v] = some x) : ∃ xs : List α, RowC sz E w v xs ∧ xs.length ≤ maxLen ∧ ∀ x ∈ xs, In x := by
  rcases Go.Deep.open_slice ht h with ⟨h0, _⟩ | ⟨a, len, cap, m, n, D, Pl, hv, hb, hl, hm, hmm, _, hc⟩
  · obtain rfl : v = .slice none 0 0 := by simpa using h0
    exact ⟨[], ⟨none, 0, rfl, fun _ => rfl, fun h => absurd h (by simp)⟩, by simp, by simp⟩
  · obtain rfl : v = .slice (some a) len cap := by simpa using hv
    have hml : len ≤ m := by rw [hmm, if_pos rfl]; exact hl
    have each : ∀ i, i < len → ∃ q : α × List Value, q.2.length = sz ∧ (∀ j (hj : j < q.2.length), w.cell? (a.add (i * sz + j)) = some q.2[j]) ∧ E w q.2 q.1 ∧ In q.1 := by
      intro i hi
      obtain ⟨cs', h1, h2⟩ := hc i (by omega)
      rw [ce] at h1
      obtain ⟨_, hlen, hcell⟩ := World.cells?_some h1
      obtain ⟨x, hx, hi⟩ := hel n cs' _ hlen h2
      refine ⟨(x, cs'), hlen, fun j hj => ?_, hx, hi⟩
      have := hcell j (by rw [← hlen]; exact hj)
      rw [Go.Deep.add_add] at this
      rw [this, List.getElem?_eq_getElem hj]
    have : Inhabited (α × List Value) := ⟨(default, [])⟩
    obtain ⟨q, hq⟩ := Go.Deep.choose_lt each
    have hxl : ((List.range len).map fun i => (q i).1).length = len := by simp
    refine ⟨(List.range len).map fun i => (q i).1, ⟨some a, cap, by rw [hxl], fun h => (by cases h), fun h0 => ?_⟩, by rw [hxl]; omega, fun x hx => ?_⟩
    · obtain ⟨b, off, spot⟩ := a
      rw [hxl] at h0
      have h1 := (hq 0 h0).2.1 0 (by rw [(hq 0 h0).1]; exact hsz)
      have hspot : spot = none := by simpa [Addr.add] using World.cell?_spot h1
      subst hspot
      refine ⟨b, off, rfl, ?_, fun i hi => ?_⟩
      · have := World.block_lt_of_cell? w _ h1
        simpa [Addr.add] using this
      · rw [hxl] at hi
        obtain ⟨h1, h2, h3, _⟩ := hq i hi
        refine ⟨(q i).2, h1, fun j hj => ?_, by simpa using h3⟩
        have := h2 j hj
        rw [Addr.add_lit] at this
        rw [Nat.add_assoc]
        exact this
    · obtain ⟨i, hi, rfl⟩ := List.mem_map.1 hx
      exact (hq i (List.mem_range.1 hi)).2.2.2

/-- What is told of a world is told of every world that has its blocks from B on. -/
def Fresh (B : Nat) (w : World) (P : World → Prop) : Prop := ∀ W : World, w.heap.size ≤ W.heap.size → (∀ k, B ≤ k → k < w.heap.size → W.heap[k]? = w.heap[k]?) → P W
theorem Fresh.here {B : Nat} {w : World} {P : World → Prop} (h : Fresh B w P) : P w := h w (Nat.le_refl _) (fun _ _ _ => rfl)
theorem Fresh.base {B B' : Nat} {w : World} {P : World → Prop} (h : Fresh B w P) (hB : B' ≤ B) : Fresh B' w P := fun W h1 h2 => h W h1 (fun k hk => h2 k (Nat.le_trans hB hk))
theorem Fresh.step {B : Nat} {w w' : World} {P : World → Prop} (h : Fresh B w P) (h1 : w.heap.size ≤ w'.heap.size) (h2 : ∀ k, B ≤ k → k < w.heap.size → w'.heap[k]? = w.heap[k]?) : Fresh B w' P :=
  fun W h3 h4 => h W (Nat.le_trans h1 h3) (fun k hk hlt => (h4 k hk (Nat.lt_of_lt_of_le hlt h1)).trans (h2 k hk hlt))
theorem Fresh.below {B : Nat} {w w' : World} {P : World → Prop} (h : Fresh B w P) (hb : Below w.heap.size w w') : Fresh B w' P := h.step hb.size (fun k _ hlt => hb.block k hlt)
theorem Fresh.setLow {B : Nat} {w : World} {P : World → Prop} (h : Fresh B w P) {b : Nat} (hb : b < B) (j : Nat) (u : Value) : Fresh B (w.setCell ⟨b, j, none⟩ u) P :=
  h.step (by simp) (fun k hk _ => by
    simp only [World.setCell]
    rw [Array.getElem?_modify, if_neg (by omega)])
theorem Fresh.imp {B : Nat} {w : World} {P Q : World → Prop} (h : Fresh B w P) (hi : ∀ W, P W → Q W) : Fresh B w Q := fun W h1 h2 => hi W (h W h1 h2)
theorem Fresh.and {B : Nat} {w : World} {P Q : World → Prop} (h : Fresh B w P) (k : Fresh B w Q) : Fresh B w fun W => P W ∧ Q W := fun W h1 h2 => ⟨h W h1 h2, k W h1 h2⟩
theorem Fresh.pure {B : Nat} {w : World} {P : Prop} (h : P) : Fresh B w fun _ => P := fun _ _ _ => h

/-- Cells written one behind the other: into a list, and into a block. -/
def setsL (cs : List Value) (j : Nat) : List Value → List Value
  | [] => cs
  | v :: vs => setsL (cs.set j v) (j + 1) vs
def setsW (w : World) (g j : Nat) : List Value → World
  | [] => w
  | v :: vs => setsW (w.setCell ⟨g, j, none⟩ v) g (j + 1) vs
theorem setsL_len (cs : List Value) (j : Nat) (vs : List Value) : (setsL cs j vs).length = cs.length := by
  induction vs generalizing cs j with
  | nil => rfl
  | cons v vs ih => rw [setsL, ih, List.length_set]
theorem setsL_take (cs : List Value) (j : Nat) (vs : List Value) (h : j + vs.length ≤ cs.length) : (setsL cs j vs).take (j + vs.length) = cs.take j ++ vs := by
  induction vs generalizing cs j with
  | nil => simp [setsL]
  | cons v vs ih =>
    have h1 : j + 1 + vs.length ≤ (cs.set j v).length := by simp only [List.length_set, List.length_cons] at *; omega
    have h2 := ih (cs.set j v) (j + 1) h1
    have hj : j < cs.length := by simp only [List.length_cons] at h; omega
    rw [setsL, List.length_cons, show j + (vs.length + 1) = j + 1 + vs.length by omega, h2, List.take_succ_eq_append_getElem (by rw [List.length_set]; exact hj), List.take_set_of_le (Nat.le_refl _)]
    simp
theorem setsW_own {B : Nat} {e : TypeId} {sz g n cap : Nat} {cs : List Value} {w : World} (h : w.ownsRow B e sz (.slice (some ⟨g, 0, none⟩) n cap) n cs) (j : Nat) (vs : List Value) : (setsW w g j vs).ownsRow B e sz (.slice (some ⟨g, 0, none⟩) n cap) n (setsL cs j vs) := by
  induction vs generalizing w cs j with
  | nil => exact h
  | cons v vs ih => exact ih (World.ownsRow.stored h j v).1 (j + 1)
theorem setsW_fresh {B g : Nat} {w : World} {P : World → Prop} (h : Fresh B w P) (hg : g < B) (j : Nat) (vs : List Value) : Fresh B (setsW w g j vs) P := by
  induction vs generalizing w j with
  | nil => exact h
  | cons v vs ih => exact ih (h.setLow hg j v) (j + 1)
theorem setsW_below {B g : Nat} {w0 w : World} (h : Below B w0 w) (hg : B ≤ g) (j : Nat) (vs : List Value) : Below B w0 (setsW w g j vs) := by
  induction vs generalizing w j with
  | nil => exact h
  | cons v vs ih => exact ih (h.setCell hg v) (j + 1)

/-- A list that is being built in the block g: its first elements are laid, what they reach lies behind g. -/
def RowTo (sz : Nat) (E : World → List Value → α → Prop) (e : TypeId) (B g : Nat) (xs : List α) (k : Nat) (w : World) : Prop :=
  ∃ (cs : List Value) (vss : List (List Value)), w.ownsRow B e sz (.slice (some ⟨g, 0, none⟩) xs.length xs.length) xs.length cs ∧ k ≤ xs.length ∧ vss.length = k ∧ (∀ vs ∈ vss, vs.length = sz) ∧ cs.take (k * sz) = vss.flatten ∧
    ∀ i (h : i < vss.length) (h' : i < xs.length), Fresh (g + 1) w fun W => E W vss[i] xs[i]
theorem rowTo_start {sz : Nat} {E : World → List Value → α → Prop} {e : TypeId} {B g : Nat} {xs : List α} {w : World} {cs : List Value} (h : w.ownsRow B e sz (.slice (some ⟨g, 0, none⟩) xs.length xs.length) xs.length cs) : RowTo sz E e B g xs 0 w :=
  ⟨cs, [], h, Nat.zero_le _, rfl, (fun _ h => by cases h), by simp, (fun i h => by cases h)⟩
theorem RowTo.below {sz : Nat} {E : World → List Value → α → Prop} {e : TypeId} {B g : Nat} {xs : List α} {k : Nat} {w w' : World} (h : RowTo sz E e B g xs k w) (hb : Below w.heap.size w w') : RowTo sz E e B g xs k w' := by
  obtain ⟨cs, vss, h1, h2, h3, h4, h5, h6⟩ := h
  refine ⟨cs, vss, ?_, h2, h3, h4, h5, fun i hi hi' => (h6 i hi hi').below hb⟩
  exact World.ownsRow.kept h1 (row := none) ⟨hb.os, hb.tape, hb.output, hb.size, fun k hk _ => hb.block k hk⟩ (.inr (fun e => by cases e))
theorem RowTo.own {sz : Nat} {E : World → List Value → α → Prop} {e : TypeId} {B g : Nat} {xs : List α} {k : Nat} {w : World} (h : RowTo sz E e B g xs k w) : ∃ cs, w.ownsRow B e sz (.slice (some ⟨g, 0, none⟩) xs.length xs.length) xs.length cs := by
  obtain ⟨cs, _, h1, _⟩ := h
  exact ⟨cs, h1⟩
theorem RowTo.next {sz : Nat} {E : World → List Value → α → Prop} {e : TypeId} {B g : Nat} {xs : List α} {k : Nat} {w : World} (h : RowTo sz E e B g xs k w) (hk : k < xs.length) {vs : List Value} (hl : vs.length = sz) (hE : Fresh (g + 1) w fun W => E W vs xs[k]) :
    RowTo sz E e B g xs (k + 1) (setsW w g (k * sz) vs) := by
  obtain ⟨cs, vss, h1, h2, h3, h4, h5, h6⟩ := h
  have hcs : cs.length = xs.length * sz := h1.1
  have hle : k * sz + vs.length ≤ cs.length := by
    rw [hcs, hl, ← Nat.succ_mul]
    exact Nat.mul_le_mul_right sz hk
  refine ⟨setsL cs (k * sz) vs, vss ++ [vs], setsW_own h1 _ _, hk, by simp [h3], fun v hv => ?_, ?_, fun i hi hi' => ?_⟩
  · rcases List.mem_append.1 hv with hv | hv
    · exact h4 v hv
    · rw [List.mem_singleton.1 hv]; exact hl
  · have := setsL_take cs (k * sz) vs hle
    rw [show (k + 1) * sz = k * sz + vs.length by rw [hl, Nat.succ_mul], this, h5]
    simp
  · by_cases hlt : i < vss.length
    · rw [List.getElem_append_left hlt]
      exact setsW_fresh (h6 i hlt hi') (Nat.lt_succ_self g) _ _
    · obtain rfl : i = k := by simp at hi; omega
      have e : (vss ++ [vs])[i] = vs := by
        rw [List.getElem_append_right (by omega)]
        simp
      rw [e]
      exact setsW_fresh hE (Nat.lt_succ_self g) _ _
theorem flat_at (sz : Nat) : ∀ (vss : List (List Value)), (∀ vs ∈ vss, vs.length = sz) → ∀ (i j : Nat) (h : i < vss.length) (hj : j < vss[i].length), vss.flatten[i * sz + j]? = some vss[i][j]
  | v :: vss, hl, 0, j, h, hj => by
    have hj' : j < v.length := hj
    rw [List.flatten_cons, Nat.zero_mul, Nat.zero_add, List.getElem?_append_left hj', List.getElem?_eq_getElem hj']
    rfl
  | v :: vss, hl, i + 1, j, h, hj => by
    have hv := hl v (List.mem_cons_self ..)
    rw [List.flatten_cons, List.getElem?_append_right (by rw [hv, Nat.succ_mul]; omega), hv, show (i + 1) * sz + j - sz = i * sz + j by rw [Nat.succ_mul]; omega]
    exact flat_at sz vss (fun x hx => hl x (List.mem_cons_of_mem _ hx)) i j (by simpa using h) hj
/-- The list, when all are laid. -/
theorem RowTo.done {sz : Nat} {E : World → List Value → α → Prop} {e : TypeId} {B g : Nat} {xs : List α} {w : World} (h : RowTo sz E e B g xs xs.length w) : Fresh g w fun W => RowC sz E W (.slice (some ⟨g, 0, none⟩) xs.length xs.length) xs := by
  obtain ⟨cs, vss, h1, h2, h3, h4, h5, h6⟩ := h
  intro W hW hbl
  refine ⟨some ⟨g, 0, none⟩, xs.length, rfl, fun h => (by cases h), fun h0 => ?_⟩
  have hg := World.ownsRow.lt h1 g rfl
  refine ⟨g, 0, rfl, Nat.lt_of_lt_of_le hg.2 hW, fun i hi => ⟨vss[i]'(by omega), h4 _ (List.getElem_mem _), fun j hj => ?_, h6 i (by omega) hi W hW (fun k hk => hbl k (by omega))⟩⟩
  rw [World.cell?_of_block (hbl g (Nat.le_refl _) hg.2)]
  have hf := flat_at sz vss h4 i j (by omega) hj
  rw [← h5, List.getElem?_take] at hf
  split at hf
  · have := World.ownsRow.cells h1 (g := g) rfl (i * sz + j) _ hf
    rwa [Addr.add_lit, ← Nat.add_assoc] at this
  · cases hf

end Go.Proofs.YtofpoiccghpliaaGreatDoor
