/- Expressions, as they lie in memory: nodes with their kids. -/
import Derived.Test.YtbjkfecailnelaaVRow
import Derived.Deep.Slices
import Derived.OpenShut
namespace Go.Proofs.Ytbjkfecailnelaa
open Go.RowKit

/-- A list of numbers. -/
def IRow (w : World) (v : Value) (ks : List Int) : Prop :=
  ∃ a cap, v = .slice a ks.length cap ∧ (a = none → cap = 0) ∧ (0 < ks.length → ∃ b off, a = some ⟨b, off, none⟩ ∧ b < w.heap.size ∧
    ∀ i (h : i < ks.length), w.cell? ⟨b, off + i, none⟩ = some (.int .i64 ks[i]))
theorem IRow.slice {w : World} {v : Value} {ks : List Int} (h : IRow w v ks) : ∃ a cap, v = .slice a ks.length cap := by
  obtain ⟨a, cap, rfl, _⟩ := h
  exact ⟨a, cap, rfl⟩
theorem IRow.below {w w' : World} {v : Value} {ks : List Int} (h : IRow w v ks) (hb : Below w.heap.size w w') : IRow w' v ks := by
  obtain ⟨a, cap, rfl, hcap, hh⟩ := h
  refine ⟨a, cap, rfl, hcap, fun h0 => ?_⟩
  obtain ⟨b, off, rfl, hlt, hc⟩ := hh h0
  exact ⟨b, off, rfl, Nat.lt_of_lt_of_le hlt hb.size, fun i hi => (World.cell?_of_block (hb.block b hlt)).trans (hc i hi)⟩
theorem IRow.at {w : World} {a : Option Addr} {n cap k : Nat} {ks : List Int} (h : IRow w (.slice a n cap) ks) (hk : k < ks.length) :
    ∃ b off, a = some ⟨b, off, none⟩ ∧ w.cell? ⟨b, off + k, none⟩ = some (.int .i64 ks[k]) := by
  obtain ⟨a', cap', e, _, hh⟩ := h
  cases e
  obtain ⟨b, off, rfl, _, hc⟩ := hh (by omega)
  exact ⟨b, off, rfl, hc k hk⟩

/-- A node: its Op, its Num, its Name, its Kids. -/
structure NodeD where
  op : Int
  num : Int
  name : ByteArray
  kids : List Int
/-- A node's four cells. -/
def NodeAt (w : World) (b o : Nat) (x : NodeD) (kv : Value) : Prop :=
  w.cell? ⟨b, o, none⟩ = some (.int .i64 x.op) ∧ w.cell? ⟨b, o + 1, none⟩ = some (.int .i64 x.num) ∧ w.cell? ⟨b, o + 2, none⟩ = some (.string x.name) ∧ w.cell? ⟨b, o + 3, none⟩ = some kv ∧ IRow w kv x.kids
theorem NodeAt.below {w w' : World} {b o : Nat} {x : NodeD} {kv : Value} (h : NodeAt w b o x kv) (hb : Below w.heap.size w w') : NodeAt w' b o x kv := by
  have hlt := World.block_lt_of_cell? w _ h.1
  have e := hb.block b hlt
  exact ⟨(World.cell?_of_block e).trans h.1, (World.cell?_of_block e).trans h.2.1, (World.cell?_of_block e).trans h.2.2.1, (World.cell?_of_block e).trans h.2.2.2.1, h.2.2.2.2.below hb⟩
/-- A list of nodes: four cells each. -/
def NRow (w : World) (v : Value) (ns : List NodeD) : Prop :=
  ∃ a cap, v = .slice a ns.length cap ∧ (a = none → cap = 0) ∧ (0 < ns.length → ∃ b off, a = some ⟨b, off, none⟩ ∧ b < w.heap.size ∧
    ∀ i (h : i < ns.length), ∃ kv, NodeAt w b (off + i * 4) ns[i] kv)
theorem NRow.slice {w : World} {v : Value} {ns : List NodeD} (h : NRow w v ns) : ∃ a cap, v = .slice a ns.length cap := by
  obtain ⟨a, cap, rfl, _⟩ := h
  exact ⟨a, cap, rfl⟩
theorem NRow.below {w w' : World} {v : Value} {ns : List NodeD} (h : NRow w v ns) (hb : Below w.heap.size w w') : NRow w' v ns := by
  obtain ⟨a, cap, rfl, hcap, hh⟩ := h
  refine ⟨a, cap, rfl, hcap, fun h0 => ?_⟩
  obtain ⟨b, off, rfl, hlt, hc⟩ := hh h0
  exact ⟨b, off, rfl, Nat.lt_of_lt_of_le hlt hb.size, fun i hi => (hc i hi).imp fun kv h => h.below hb⟩
theorem NRow.at {w : World} {a : Option Addr} {n cap k : Nat} {ns : List NodeD} (h : NRow w (.slice a n cap) ns) (hk : k < ns.length) :
    ∃ b off kv, a = some ⟨b, off, none⟩ ∧ NodeAt w b (off + k * 4) ns[k] kv := by
  obtain ⟨a', cap', e, _, hh⟩ := h
  cases e
  obtain ⟨b, off, rfl, _, hc⟩ := hh (by omega)
  obtain ⟨kv, h⟩ := hc k hk
  exact ⟨b, off, kv, rfl, h⟩

/-- Within the machine's bounds. -/
def i64 (z : Int) : Prop := -9223372036854775808 ≤ z ∧ z ≤ 9223372036854775807
def NodeIn (x : NodeD) : Prop := i64 x.op ∧ i64 x.num ∧ x.name.size ≤ maxLen ∧ x.kids.length ≤ maxLen ∧ ∀ k ∈ x.kids, i64 k
def NArg (w : World) (v : Value) (ns : List NodeD) : Prop := NRow w v ns ∧ ns.length ≤ maxLen ∧ ∀ x ∈ ns, NodeIn x

theorem iRow_of_trod {H : Type} {enc : TypeId × Value → H} {P : Program} {w : World} {base : Nat} {held : Bool} {t e : TypeId} {fuel : Nat} {v : Value} {x : DataW H × List MemPlace} (ht : P.underlying t = some (.slice e)) (he : P.underlying e = some (.int .i64)) (ce : P.cellsOf e = 1)
    (h : DataW.trod enc P w base (fun _ => true) held fuel t [v] = some x) : ∃ ks, IRow w v ks ∧ ks.length ≤ maxLen ∧ ∀ k ∈ ks, i64 k := by
  rcases Go.Deep.open_slice1 ht ce h with ⟨h0, _⟩ | ⟨a, len, cap, m, n, V, D, Pl, hv, hb, hl, hm, hmm, _, hc⟩
  · obtain rfl : v = .slice none 0 0 := by simpa using h0
    exact ⟨[], ⟨none, 0, rfl, fun _ => rfl, fun h => absurd h (by simp)⟩, by simp, by simp⟩
  · obtain rfl : v = .slice (some a) len cap := by simpa using hv
    have hml : len ≤ m := by rw [hmm, if_pos rfl]; exact hl
    have each : ∀ i, i < len → ∃ q : Int, w.cell? (a.add i) = some (.int .i64 q) ∧ i64 q := by
      intro i hi
      obtain ⟨h1, h2⟩ := hc i (by omega)
      obtain ⟨z, e2, _, hz⟩ := DataW.trod_int he h2
      have e2' : V i = .int .i64 z := by simpa using e2
      exact ⟨z, by rw [h1, e2'], bounds_i64 hz⟩
    obtain ⟨q, hq⟩ := Go.Deep.choose_lt each
    have hxl : ((List.range len).map q).length = len := by simp
    refine ⟨(List.range len).map q, ⟨some a, cap, by rw [hxl], fun h => (by cases h), fun h0 => ?_⟩, by rw [hxl]; omega, fun x hx => ?_⟩
    · obtain ⟨b, off, spot⟩ := a
      rw [hxl] at h0
      have h1 := (hq 0 h0).1
      have hspot : spot = none := by simpa [Addr.add] using World.cell?_spot h1
      subst hspot
      refine ⟨b, off, rfl, ?_, fun i hi => ?_⟩
      · have := World.block_lt_of_cell? w _ h1
        simpa [Addr.add] using this
      · rw [hxl] at hi
        have h2 := (hq i hi).1
        rw [Addr.add_lit] at h2
        simpa using h2
    · obtain ⟨i, hi, rfl⟩ := List.mem_map.1 hx
      exact (hq i (List.mem_range.1 hi)).2

theorem nArg_of_trod {H : Type} {enc : TypeId × Value → H} {P : Program} {w : World} {base : Nat} {held : Bool} {t e : TypeId} {f0 f1 f2 f3 : Field} {ke : TypeId} {fuel : Nat} {v : Value} {x : DataW H × List MemPlace} (ht : P.underlying t = some (.slice e)) (he : P.underlying e = some (.struct #[f0, f1, f2, f3]))
    (ce : P.cellsOf e = 4) (o0 : f0.offset = 0) (o1 : f1.offset = 1) (o2 : f2.offset = 2) (o3 : f3.offset = 3) (c0 : P.cellsOf f0.type = 1) (c1 : P.cellsOf f1.type = 1) (c2 : P.cellsOf f2.type = 1) (c3 : P.cellsOf f3.type = 1)
    (u0 : P.underlying f0.type = some (.int .i64)) (u1 : P.underlying f1.type = some (.int .i64)) (u2 : P.underlying f2.type = some .string) (u3 : P.underlying f3.type = some (.slice ke)) (uk : P.underlying ke = some (.int .i64)) (ck : P.cellsOf ke = 1)
    (h : DataW.trod enc P w base (fun _ => true) held fuel t [v] = some x) : ∃ ns, NArg w v ns := by
  rcases Go.Deep.open_slice ht h with ⟨h0, _⟩ | ⟨a, len, cap, m, n, D, Pl, hv, hb, hl, hm, hmm, _, hc⟩
  · obtain rfl : v = .slice none 0 0 := by simpa using h0
    exact ⟨[], ⟨none, 0, rfl, fun _ => rfl, fun h => absurd h (by simp)⟩, by simp, by simp⟩
  · obtain rfl : v = .slice (some a) len cap := by simpa using hv
    have hml : len ≤ m := by rw [hmm, if_pos rfl]; exact hl
    have each : ∀ i, i < len → ∃ q : NodeD × Value, w.cell? (a.add (i * 4)) = some (.int .i64 q.1.op) ∧ w.cell? (a.add (i * 4 + 1)) = some (.int .i64 q.1.num) ∧ w.cell? (a.add (i * 4 + 2)) = some (.string q.1.name) ∧ w.cell? (a.add (i * 4 + 3)) = some q.2 ∧ IRow w q.2 q.1.kids ∧ NodeIn q.1 := by
      intro i hi
      obtain ⟨cs', h1, h2⟩ := hc i (by omega)
      rw [ce] at h1
      obtain ⟨_, hlen, hcell⟩ := World.cells?_some h1
      obtain ⟨xs, k, hk, hxy, _, hxl, hf⟩ := DataW.trod_struct he h2
      match xs, hxl, cs', hlen with
      | [y0, y1, y2, y3], _, [v0, v1, v2, v3], _ =>
        have g0 := hf 0 f0 rfl
        have g1 := hf 1 f1 rfl
        have g2 := hf 2 f2 rfl
        have g3 := hf 3 f3 rfl
        simp [o0, o1, o2, o3, c0, c1, c2, c3] at g0 g1 g2 g3
        have e0 := hcell 0 (by omega)
        have e1 := hcell 1 (by omega)
        have e2 := hcell 2 (by omega)
        have e3 := hcell 3 (by omega)
        rw [Go.Deep.add_add] at e0 e1 e2 e3
        obtain ⟨z0, d0, _, hz0⟩ := DataW.trod_int u0 g0
        obtain ⟨z1, d1, _, hz1⟩ := DataW.trod_int u1 g1
        obtain ⟨s2, d2, _, hs2⟩ := DataW.trod_string u2 g2
        obtain ⟨ks, hks, hkl, hkb⟩ := iRow_of_trod u3 uk ck g3
        have d0' : v0 = .int .i64 z0 := by simpa using d0
        have d1' : v1 = .int .i64 z1 := by simpa using d1
        have d2' : v2 = .string s2 := by simpa using d2
        subst d0' d1' d2'
        exact ⟨(⟨z0, z1, s2, ks⟩, v3), by simpa using e0, by simpa using e1, by simpa using e2, by simpa using e3, hks, bounds_i64 hz0, bounds_i64 hz1, hs2, hkl, hkb⟩
    have : Inhabited (NodeD × Value) := ⟨(⟨0, 0, ⟨#[]⟩, []⟩, .slice none 0 0)⟩
    obtain ⟨q, hq⟩ := Go.Deep.choose_lt each
    have hxl : ((List.range len).map fun i => (q i).1).length = len := by simp
    refine ⟨(List.range len).map fun i => (q i).1, ⟨some a, cap, by rw [hxl], fun h => (by cases h), fun h0 => ?_⟩, by rw [hxl]; omega, fun x hx => ?_⟩
    · obtain ⟨b, off, spot⟩ := a
      rw [hxl] at h0
      have h1 := (hq 0 h0).1
      have hspot : spot = none := by simpa [Addr.add] using World.cell?_spot h1
      subst hspot
      refine ⟨b, off, rfl, ?_, fun i hi => ?_⟩
      · have := World.block_lt_of_cell? w _ h1
        simpa [Addr.add] using this
      · rw [hxl] at hi
        obtain ⟨h1, h2, h3, h4, h5, _⟩ := hq i hi
        rw [Addr.add_lit] at h1 h2 h3 h4
        refine ⟨(q i).2, ?_⟩
        simp only [List.getElem_map, List.getElem_range]
        exact ⟨h1, by rw [Nat.add_assoc]; exact h2, by rw [Nat.add_assoc]; exact h3, by rw [Nat.add_assoc]; exact h4, h5⟩
    · obtain ⟨i, hi, rfl⟩ := List.mem_map.1 hx
      exact (hq i (List.mem_range.1 hi)).2.2.2.2.2

end Go.Proofs.Ytbjkfecailnelaa
