/- Small laws that no program is named in: bytes as cells, an owned row of bytes made a string, and the bytes of a number. Nothing is assumed. -/
/- Lists of names with numbers, as they lie in memory. -/
/- Expressions, as they lie in memory: nodes with their kids. -/
/- Lists of structs as they lie in memory, whatever their elements are: read, kept, opened as arguments, and built cell by cell. No program is named. -/
/- EnvGet of the specification. -/
/- VarName and EnvOk of the specification. -/
/- The laws' own helpers on lists of names with numbers: how great they are, copied, compared. -/
/- Decimal figures: the plain mathematics, with no program in it. -/
/- The texts that the laws write into an answer's strings: what markText answers at every number above 0. -/
import Derived.Test.YtkmkfpgaehgonaaGreatDoorRows
import Derived.WalkKit
import Derived.ProofKit
import Derived.Below
import Derived.ShutString
import Derived.SizedLaws
import Derived.Laws.IdiomStrings
import Derived.Laws.BytesArg
import Derived.Deep.QuietTactic
import Derived.BigQuiet
import Derived.Deep.RegionWith
import Derived.Deep.RegionHeld3
import Derived.Deep.AppendLies
import Derived.Deep.Slices
import Derived.OpenShut
import Derived.Laws.OwnMore
import Derived.OwnWalk
import Derived.Handy
import Derived.Laws.Cover1
import Derived.Lib.ItoaNum
import Derived.Lib.ItoaMem
namespace Go.Proofs.YtkmkfpgaehgonaaGreatDoor
open Go.RowKit

def bv (l : List UInt8) : List Value := l.map fun b => Value.int .u8 (b.toNat : Int)

theorem bv_len (l : List UInt8) : (bv l).length = l.length := by simp [bv]
theorem bv_app (l m : List UInt8) : bv (l ++ m) = bv l ++ bv m := by simp [bv]
theorem bv_one (b : UInt8) : bv [b] = [Value.int .u8 (b.toNat : Int)] := rfl

def str (l : List UInt8) : ByteArray := ⟨l.toArray⟩
theorem str_size (l : List UInt8) : (str l).size = l.length := by simp [str, ByteArray.size]
theorem str_list (l : List UInt8) : (str l).data.toList = l := by simp [str]

theorem own_string {P : Program} {w : World} {base : Nat} {src dst e : TypeId} {v : Value} (l : List UInt8) (hs : P.underlying src = some (.slice e)) (he : P.underlying e = some (.int .u8)) (hd : P.underlying dst = some .string)
    (hown : w.ownsRow base e 1 v l.length (bv l)) : (convert src dst v).run P w = .ok (.string (str l)) w := by
  have hown0 := hown
  rcases hown.2 with ⟨rfl, h0⟩ | ⟨g, cap, cur, rfl, hg, hh, hnc, hcp, hcs, htake⟩
  · obtain rfl : l = [] := List.length_eq_zero_iff.1 h0
    rw [run_convert_bytes_nil w src e hs he 0 0 dst hd]
    rfl
  · have hcells : ∀ j (hj : j < l.length), w.cell? ((⟨g, 0, none⟩ : Addr).add j) = some (.int .u8 (l[j].toNat : Int)) := fun j hj => by
      rw [Addr.add_lit, Nat.zero_add, hown0.cellAt j (by omega)]
      simp [bv, hj]
    exact run_convert_bytes_back (P := P) w src dst e ⟨g, 0, none⟩ cap l hs he hd hcells

theorem one_at (w : World) (x : Value) (t : TypeId) : ∀ j u, [x][j]? = some u → (w.alloc (.cells #[x] t)).cell? ((⟨w.heap.size, 0, none⟩ : Addr).add j) = some u := by
  intro j u hj
  match j, hj with
  | 0, hj => simp at hj; subst hj; simp [Addr.add]

theorem one_cell (k : IntKind) (n : Int) : ∀ u ∈ [Value.int k n], u.oneCell' = true := by
  intro u hu; simp at hu; subst hu; rfl

theorem bel_drewN {B : Nat} {a w : World} (h : Below B a w) (q : Nat) : Below B a (w.drewN q) := ⟨h.os, h.tape, h.output, h.size, h.block⟩

theorem bel_of_drew {B : Nat} {w w' : World} (h : Below B w.drew w') : Below B w w' := ⟨h.os, h.tape, h.output, h.size, h.block⟩

/-- The bytes of a number: seven bits a byte, the lowest first. -/
def varF : Nat → Nat → List UInt8
  | 0, n => [UInt8.ofNat n]
  | f + 1, n => if 127 < n then UInt8.ofNat (n % 128 + 128) :: varF f (n / 128) else [UInt8.ofNat n]

theorem varF_any : ∀ (f g n : Nat), n ≤ f → n ≤ g → varF f n = varF g n
  | 0, 0, _, _, _ => rfl
  | 0, g + 1, n, h, _ => by
    obtain rfl : n = 0 := by omega
    simp [varF]
  | f + 1, 0, n, _, h => by
    obtain rfl : n = 0 := by omega
    simp [varF]
  | f + 1, g + 1, n, h, k => by
    simp only [varF]
    split
    · rw [varF_any f g (n / 128) (by omega) (by omega)]
    · rfl

def varB (n : Nat) : List UInt8 := varF n n

theorem varB_more (n : Nat) (h : 127 < n) : varB n = UInt8.ofNat (n % 128 + 128) :: varB (n / 128) := by
  unfold varB
  match n, h with
  | n + 1, h =>
    rw [varF, if_pos h, varF_any n ((n + 1) / 128) ((n + 1) / 128) (by omega) (by omega)]

theorem varB_last (n : Nat) (h : n ≤ 127) : varB n = [UInt8.ofNat n] := by
  unfold varB
  cases n with
  | zero => rfl
  | succ n => rw [varF, if_neg (by omega)]

theorem varF_len : ∀ (f n : Nat), (varF f n).length ≤ f + 1
  | 0, _ => by simp [varF]
  | f + 1, n => by
    simp only [varF]
    split
    · have := varF_len f (n / 128); simp only [List.length_cons]; omega
    · simp

theorem varB_len (n : Nat) : (varB n).length ≤ n + 1 := varF_len n n
theorem varB_pos (n : Nat) : 0 < (varB n).length := by
  by_cases h : 127 < n
  · rw [varB_more n h]; simp
  · rw [varB_last n (by omega)]; simp

theorem toNat_ofNat (n : Nat) (h : n < 256) : (UInt8.ofNat n).toNat = n := by simp [UInt8.toNat_ofNat']; omega

end Go.Proofs.YtkmkfpgaehgonaaGreatDoor

namespace Go.Proofs.YtkmkfpgaehgonaaGreatDoor
open Go.RowKit

/-- A name and its number. -/
abbrev VarD := ByteArray × Int

/-- A list of them: two cells each. -/
def VRow (w : World) (v : Value) (xs : List VarD) : Prop :=
  ∃ a cap, v = .slice a xs.length cap ∧ (a = none → cap = 0) ∧ (0 < xs.length → ∃ b off, a = some ⟨b, off, none⟩ ∧ b < w.heap.size ∧
    ∀ i (h : i < xs.length), w.cell? ⟨b, off + i * 2, none⟩ = some (.string xs[i].1) ∧ w.cell? ⟨b, off + i * 2 + 1, none⟩ = some (.int .i64 xs[i].2))

theorem VRow.slice {w : World} {v : Value} {xs : List VarD} (h : VRow w v xs) : ∃ a cap, v = .slice a xs.length cap := by
  obtain ⟨a, cap, rfl, _⟩ := h
  exact ⟨a, cap, rfl⟩

theorem VRow.below {w w' : World} {v : Value} {xs : List VarD} (h : VRow w v xs) (hb : Below w.heap.size w w') : VRow w' v xs := by
  obtain ⟨a, cap, rfl, hcap, hh⟩ := h
  refine ⟨a, cap, rfl, hcap, fun h0 => ?_⟩
  obtain ⟨b, off, rfl, hlt, hc⟩ := hh h0
  refine ⟨b, off, rfl, Nat.lt_of_lt_of_le hlt hb.size, fun i hi => ?_⟩
  have e := hb.block b hlt
  exact ⟨(World.cell?_of_block e).trans (hc i hi).1, (World.cell?_of_block e).trans (hc i hi).2⟩

/-- What is read at a place of the list. -/
theorem VRow.at {w : World} {a : Option Addr} {n cap k : Nat} {xs : List VarD} (h : VRow w (.slice a n cap) xs) (hk : k < xs.length) :
    ∃ b off, a = some ⟨b, off, none⟩ ∧ w.cell? ⟨b, off + k * 2, none⟩ = some (.string xs[k].1) ∧ w.cell? ⟨b, off + k * 2 + 1, none⟩ = some (.int .i64 xs[k].2) := by
  obtain ⟨a', cap', e, _, hh⟩ := h
  cases e
  obtain ⟨b, off, rfl, _, hc⟩ := hh (by omega)
  exact ⟨b, off, rfl, hc k hk⟩

end Go.Proofs.YtkmkfpgaehgonaaGreatDoor

namespace Go.Proofs.YtkmkfpgaehgonaaGreatDoor
open Go.RowKit

/-- A list of numbers. -/
def IRow (w : World) (v : Value) (ks : List Int) : Prop :=
  ∃ a cap, v = .slice a ks.length cap ∧ (a = none → cap = 0) ∧ (0 < ks.length → ∃ b off, a = some ⟨b, off, none⟩ ∧ b < w.heap.size ∧
    ∀ i (h : i < ks.length), w.cell? ⟨b, off + i, none⟩ = some (.int .i64 ks[i]))
theorem IRow.slice {w : World} {v : Value} {ks : List Int} (h : IRow w v ks) : ∃ a cap, v = .slice a ks.length cap := by
  obtain ⟨a, cap, rfl, _⟩ := h
  exact ⟨a, cap, rfl⟩
theorem IRow.below {w w' : World} {v : Value} {ks : List Int} (h : IRow w v ks) (hb : Below w.heap.size w w') : IRow w' v ks := by
  obtain ⟨a, cap, rfl, hcap, hh⟩ := h
  refine ⟨a, cap, rfl, hcap, fun h0 => ?_⟩
  obtain ⟨b, off, rfl, hlt, hc⟩ := hh h0
  exact ⟨b, off, rfl, Nat.lt_of_lt_of_le hlt hb.size, fun i hi => (World.cell?_of_block (hb.block b hlt)).trans (hc i hi)⟩
theorem IRow.at {w : World} {a : Option Addr} {n cap k : Nat} {ks : List Int} (h : IRow w (.slice a n cap) ks) (hk : k < ks.length) :
    ∃ b off, a = some ⟨b, off, none⟩ ∧ w.cell? ⟨b, off + k, none⟩ = some (.int .i64 ks[k]) := by
  obtain ⟨a', cap', e, _, hh⟩ := h
  cases e
  obtain ⟨b, off, rfl, _, hc⟩ := hh (by omega)
  exact ⟨b, off, rfl, hc k hk⟩

/-- A node: its Op, its Num, its Name, its Kids. -/
structure NodeD where
  op : Int
  num : Int
  name : ByteArray
  kids : List Int
/-- A node's four cells. -/
def NodeAt (w : World) (b o : Nat) (x : NodeD) (kv : Value) : Prop :=
  w.cell? ⟨b, o, none⟩ = some (.int .i64 x.op) ∧ w.cell? ⟨b, o + 1, none⟩ = some (.int .i64 x.num) ∧ w.cell? ⟨b, o + 2, none⟩ = some (.string x.name) ∧ w.cell? ⟨b, o + 3, none⟩ = some kv ∧ IRow w kv x.kids
theorem NodeAt.below {w w' : World} {b o : Nat} {x : NodeD} {kv : Value} (h : NodeAt w b o x kv) (hb : Below w.heap.size w w') : NodeAt w' b o x kv := by
  have hlt := World.block_lt_of_cell? w _ h.1
  have e := hb.block b hlt
  exact ⟨(World.cell?_of_block e).trans h.1, (World.cell?_of_block e).trans h.2.1, (World.cell?_of_block e).trans h.2.2.1, (World.cell?_of_block e).trans h.2.2.2.1, h.2.2.2.2.below hb⟩
/-- A list of nodes: four cells each. -/
def NRow (w : World) (v : Value) (ns : List NodeD) : Prop :=
  ∃ a cap, v = .slice a ns.length cap ∧ (a = none → cap = 0) ∧ (0 < ns.length → ∃ b off, a = some ⟨b, off, none⟩ ∧ b < w.heap.size ∧
    ∀ i (h : i < ns.length), ∃ kv, NodeAt w b (off + i * 4) ns[i] kv)
theorem NRow.slice {w : World} {v : Value} {ns : List NodeD} (h : NRow w v ns) : ∃ a cap, v = .slice a ns.length cap := by
  obtain ⟨a, cap, rfl, _⟩ := h
  exact ⟨a, cap, rfl⟩
theorem NRow.below {w w' : World} {v : Value} {ns : List NodeD} (h : NRow w v ns) (hb : Below w.heap.size w w') : NRow w' v ns := by
  obtain ⟨a, cap, rfl, hcap, hh⟩ := h
  refine ⟨a, cap, rfl, hcap, fun h0 => ?_⟩
  obtain ⟨b, off, rfl, hlt, hc⟩ := hh h0
  exact ⟨b, off, rfl, Nat.lt_of_lt_of_le hlt hb.size, fun i hi => (hc i hi).imp fun kv h => h.below hb⟩
theorem NRow.at {w : World} {a : Option Addr} {n cap k : Nat} {ns : List NodeD} (h : NRow w (.slice a n cap) ns) (hk : k < ns.length) :
    ∃ b off kv, a = some ⟨b, off, none⟩ ∧ NodeAt w b (off + k * 4) ns[k] kv := by
  obtain ⟨a', cap', e, _, hh⟩ := h
  cases e
  obtain ⟨b, off, rfl, _, hc⟩ := hh (by omega)
  obtain ⟨kv, h⟩ := hc k hk
  exact ⟨b, off, kv, rfl, h⟩

/-- Within the machine's bounds. -/
def i64 (z : Int) : Prop := -9223372036854775808 ≤ z ∧ z ≤ 9223372036854775807
def NodeIn (x : NodeD) : Prop := i64 x.op ∧ i64 x.num ∧ x.name.size ≤ maxLen ∧ x.kids.length ≤ maxLen ∧ ∀ k ∈ x.kids, i64 k
def NArg (w : World) (v : Value) (ns : List NodeD) : Prop := NRow w v ns ∧ ns.length ≤ maxLen ∧ ∀ x ∈ ns, NodeIn x

theorem iRow_of_trod {H : Type} {enc : TypeId × Value → H} {P : Program} {w : World} {base : Nat} {held : Bool} {t e : TypeId} {fuel : Nat} {v : Value} {x : DataW H × List MemPlace} (ht : P.underlying t = some (.slice e)) (he : P.underlying e = some (.int .i64)) (ce : P.cellsOf e = 1)
    (h : DataW.trod enc P w base (fun _ => true) held fuel t [v] = some x) : ∃ ks, IRow w v ks ∧ ks.length ≤ maxLen ∧ ∀ k ∈ ks, i64 k := by
  rcases Go.Deep.open_slice1 ht ce h with ⟨h0, _⟩ | ⟨a, len, cap, m, n, V, D, Pl, hv, hb, hl, hm, hmm, _, hc⟩
  · obtain rfl : v = .slice none 0 0 := by simpa using h0
    exact ⟨[], ⟨none, 0, rfl, fun _ => rfl, fun h => absurd h (by simp)⟩, by simp, by simp⟩
  · obtain rfl : v = .slice (some a) len cap := by simpa using hv
    have hml : len ≤ m := by rw [hmm, if_pos rfl]; exact hl
    have each : ∀ i, i < len → ∃ q : Int, w.cell? (a.add i) = some (.int .i64 q) ∧ i64 q := by
      intro i hi
      obtain ⟨h1, h2⟩ := hc i (by omega)
      obtain ⟨z, e2, _, hz⟩ := DataW.trod_int he h2
      have e2' : V i = .int .i64 z := by simpa using e2
      exact ⟨z, by rw [h1, e2'], bounds_i64 hz⟩
    obtain ⟨q, hq⟩ := Go.Deep.choose_lt each
    have hxl : ((List.range len).map q).length = len := by simp
    refine ⟨(List.range len).map q, ⟨some a, cap, by rw [hxl], fun h => (by cases h), fun h0 => ?_⟩, by rw [hxl]; omega, fun x hx => ?_⟩
    · obtain ⟨b, off, spot⟩ := a
      rw [hxl] at h0
      have h1 := (hq 0 h0).1
      have hspot : spot = none := by simpa [Addr.add] using World.cell?_spot h1
      subst hspot
      refine ⟨b, off, rfl, ?_, fun i hi => ?_⟩
      · have := World.block_lt_of_cell? w _ h1
        simpa [Addr.add] using this
      · rw [hxl] at hi
        have h2 := (hq i hi).1
        rw [Addr.add_lit] at h2
        simpa using h2
    · obtain ⟨i, hi, rfl⟩ := List.mem_map.1 hx
      exact (hq i (List.mem_range.1 hi)).2

theorem nArg_of_trod {H : Type} {enc : TypeId × Value → H} {P : Program} {w : World} {base : Nat} {held : Bool} {t e : TypeId} {f0 f1 f2 f3 : Field} {ke : TypeId} {fuel : Nat} {v : Value} {x : DataW H × List MemPlace} (ht : P.underlying t = some (.slice e)) (he : P.underlying e = some (.struct #[f0, f1, f2, f3]))
    (ce : P.cellsOf e = 4) (o0 : f0.offset = 0) (o1 : f1.offset = 1) (o2 : f2.offset = 2) (o3 : f3.offset = 3) (c0 : P.cellsOf f0.type = 1) (c1 : P.cellsOf f1.type = 1) (c2 : P.cellsOf f2.type = 1) (c3 : P.cellsOf f3.type = 1)
    (u0 : P.underlying f0.type = some (.int .i64)) (u1 : P.underlying f1.type = some (.int .i64)) (u2 : P.underlying f2.type = some .string) (u3 : P.underlying f3.type = some (.slice ke)) (uk : P.underlying ke = some (.int .i64)) (ck : P.cellsOf ke = 1)
    (h : DataW.trod enc P w base (fun _ => true) held fuel t [v] = some x) : ∃ ns, NArg w v ns := by
  rcases Go.Deep.open_slice ht h with ⟨h0, _⟩ | ⟨a, len, cap, m, n, D, Pl, hv, hb, hl, hm, hmm, _, hc⟩
  · obtain rfl : v = .slice none 0 0 := by simpa using h0
    exact ⟨[], ⟨none, 0, rfl, fun _ => rfl, fun h => absurd h (by simp)⟩, by simp, by simp⟩
  · obtain rfl : v = .slice (some a) len cap := by simpa using hv
    have hml : len ≤ m := by rw [hmm, if_pos rfl]; exact hl
    have each : ∀ i, i < len → ∃ q : NodeD × Value, w.cell? (a.add (i * 4)) = some (.int .i64 q.1.op) ∧ w.cell? (a.add (i * 4 + 1)) = some (.int .i64 q.1.num) ∧ w.cell? (a.add (i * 4 + 2)) = some (.string q.1.name) ∧ w.cell? (a.add (i * 4 + 3)) = some q.2 ∧ IRow w q.2 q.1.kids ∧ NodeIn q.1 := by
      intro i hi
      obtain ⟨cs', h1, h2⟩ := hc i (by omega)
      rw [ce] at h1
      obtain ⟨_, hlen, hcell⟩ := World.cells?_some h1
      obtain ⟨xs, k, hk, hxy, _, hxl, hf⟩ := DataW.trod_struct he h2
      match xs, hxl, cs', hlen with
      | [y0, y1, y2, y3], _, [v0, v1, v2, v3], _ =>
        have g0 := hf 0 f0 rfl
        have g1 := hf 1 f1 rfl
        have g2 := hf 2 f2 rfl
        have g3 := hf 3 f3 rfl
        simp [o0, o1, o2, o3, c0, c1, c2, c3] at g0 g1 g2 g3
        have e0 := hcell 0 (by omega)
        have e1 := hcell 1 (by omega)
        have e2 := hcell 2 (by omega)
        have e3 := hcell 3 (by omega)
        rw [Go.Deep.add_add] at e0 e1 e2 e3
        obtain ⟨z0, d0, _, hz0⟩ := DataW.trod_int u0 g0
        obtain ⟨z1, d1, _, hz1⟩ := DataW.trod_int u1 g1
        obtain ⟨s2, d2, _, hs2⟩ := DataW.trod_string u2 g2
        obtain ⟨ks, hks, hkl, hkb⟩ := iRow_of_trod u3 uk ck g3
        have d0' : v0 = .int .i64 z0 := by simpa using d0
        have d1' : v1 = .int .i64 z1 := by simpa using d1
        have d2' : v2 = .string s2 := by simpa using d2
        subst d0' d1' d2'
        exact ⟨(⟨z0, z1, s2, ks⟩, v3), by simpa using e0, by simpa using e1, by simpa using e2, by simpa using e3, hks, bounds_i64 hz0, bounds_i64 hz1, hs2, hkl, hkb⟩
    have : Inhabited (NodeD × Value) := ⟨(⟨0, 0, ⟨#[]⟩, []⟩, .slice none 0 0)⟩
    obtain ⟨q, hq⟩ := Go.Deep.choose_lt each
    have hxl : ((List.range len).map fun i => (q i).1).length = len := by simp
    refine ⟨(List.range len).map fun i => (q i).1, ⟨some a, cap, by rw [hxl], fun h => (by cases h), fun h0 => ?_⟩, by rw [hxl]; omega, fun x hx => ?_⟩
    · obtain ⟨b, off, spot⟩ := a
      rw [hxl] at h0
      have h1 := (hq 0 h0).1
      have hspot : spot = none := by simpa [Addr.add] using World.cell?_spot h1
      subst hspot
      refine ⟨b, off, rfl, ?_, fun i hi => ?_⟩
      · have := World.block_lt_of_cell? w _ h1
        simpa [Addr.add] using this
      · rw [hxl] at hi
        obtain ⟨h1, h2, h3, h4, h5, _⟩ := hq i hi
        rw [Addr.add_lit] at h1 h2 h3 h4
        refine ⟨(q i).2, ?_⟩
        simp only [List.getElem_map, List.getElem_range]
        exact ⟨h1, by rw [Nat.add_assoc]; exact h2, by rw [Nat.add_assoc]; exact h3, by rw [Nat.add_assoc]; exact h4, h5⟩
    · obtain ⟨i, hi, rfl⟩ := List.mem_map.1 hx
      exact (hq i (List.mem_range.1 hi)).2.2.2.2.2

end Go.Proofs.YtkmkfpgaehgonaaGreatDoor

namespace Go.Proofs.YtkmkfpgaehgonaaGreatDoor
open Go.RowKit
variable {α : Type}

/-- A list: each element lies in sz cells, as E tells of them. -/
def RowC (sz : Nat) (E : World → List Value → α → Prop) (w : World) (v : Value) (xs : List α) : Prop :=
  ∃ a cap, v = .slice a xs.length cap ∧ (a = none → cap = 0) ∧ (0 < xs.length → ∃ b off, a = some ⟨b, off, none⟩ ∧ b < w.heap.size ∧
    ∀ i (h : i < xs.length), ∃ vs : List Value, vs.length = sz ∧ (∀ j (hj : j < vs.length), w.cell? ⟨b, off + i * sz + j, none⟩ = some vs[j]) ∧ E w vs xs[i])
theorem RowC.slice {sz : Nat} {E : World → List Value → α → Prop} {w : World} {v : Value} {xs : List α} (h : RowC sz E w v xs) : ∃ a cap, v = .slice a xs.length cap := by
  obtain ⟨a, cap, rfl, _⟩ := h
  exact ⟨a, cap, rfl⟩
theorem RowC.at {sz : Nat} {E : World → List Value → α → Prop} {w : World} {a : Option Addr} {n cap k : Nat} {xs : List α} (h : RowC sz E w (.slice a n cap) xs) (hk : k < xs.length) :
    ∃ b off vs, a = some ⟨b, off, none⟩ ∧ vs.length = sz ∧ (∀ j (hj : j < vs.length), w.cell? ⟨b, off + k * sz + j, none⟩ = some vs[j]) ∧ E w vs xs[k] := by
  obtain ⟨a', cap', e, _, hh⟩ := h
  cases e
  obtain ⟨b, off, rfl, _, hc⟩ := hh (by omega)
  obtain ⟨vs, h1, h2, h3⟩ := hc k hk
  exact ⟨b, off, vs, rfl, h1, h2, h3⟩

/-- What is told of a world stays told behind what makes new memory alone. -/
def StableE (E : World → List Value → α → Prop) : Prop := ∀ (w w' : World) (vs : List Value) (x : α), E w vs x → Below w.heap.size w w' → E w' vs x
theorem RowC.below {sz : Nat} {E : World → List Value → α → Prop} (hE : StableE E) {w w' : World} {v : Value} {xs : List α} (h : RowC sz E w v xs) (hb : Below w.heap.size w w') : RowC sz E w' v xs := by
  obtain ⟨a, cap, rfl, hcap, hh⟩ := h
  refine ⟨a, cap, rfl, hcap, fun h0 => ?_⟩
  obtain ⟨b, off, rfl, hlt, hc⟩ := hh h0
  refine ⟨b, off, rfl, Nat.lt_of_lt_of_le hlt hb.size, fun i hi => ?_⟩
  obtain ⟨vs, h1, h2, h3⟩ := hc i hi
  exact ⟨vs, h1, fun j hj => (World.cell?_of_block (hb.block b hlt)).trans (h2 j hj), hE _ _ _ _ h3 hb⟩

/-- An argument's list, opened: each element by its own opener. -/
theorem rowC_of_trod {H : Type} {enc : TypeId × Value → H} {P : Program} {w : World} {base : Nat} {held : Bool} {t e : TypeId} {sz fuel : Nat} {v : Value} {x : DataW H × List MemPlace} {E : World → List Value → α → Prop} {In : α → Prop} [Inhabited α]
    (ht : P.underlying t = some (.slice e)) (ce : P.cellsOf e = sz) (hsz : 0 < sz) (hel : ∀ (n : Nat) (cs : List Value) (y : DataW H × List MemPlace), cs.length = sz → DataW.trod enc P w base (fun _ => true) held n e cs = some y → ∃ x, E w cs x ∧ In x)
    (h : DataW.trod enc P w base (fun _ => true) held fuel t [v] = some x) : ∃ xs : List α, RowC sz E w v xs ∧ xs.length ≤ maxLen ∧ ∀ x ∈ xs, In x := by
  rcases Go.Deep.open_slice ht h with ⟨h0, _⟩ | ⟨a, len, cap, m, n, D, Pl, hv, hb, hl, hm, hmm, _, hc⟩
  · obtain rfl : v = .slice none 0 0 := by simpa using h0
    exact ⟨[], ⟨none, 0, rfl, fun _ => rfl, fun h => absurd h (by simp)⟩, by simp, by simp⟩
  · obtain rfl : v = .slice (some a) len cap := by simpa using hv
    have hml : len ≤ m := by rw [hmm, if_pos rfl]; exact hl
    have each : ∀ i, i < len → ∃ q : α × List Value, q.2.length = sz ∧ (∀ j (hj : j < q.2.length), w.cell? (a.add (i * sz + j)) = some q.2[j]) ∧ E w q.2 q.1 ∧ In q.1 := by
      intro i hi
      obtain ⟨cs', h1, h2⟩ := hc i (by omega)
      rw [ce] at h1
      obtain ⟨_, hlen, hcell⟩ := World.cells?_some h1
      obtain ⟨x, hx, hi⟩ := hel n cs' _ hlen h2
      refine ⟨(x, cs'), hlen, fun j hj => ?_, hx, hi⟩
      have := hcell j (by rw [← hlen]; exact hj)
      rw [Go.Deep.add_add] at this
      rw [this, List.getElem?_eq_getElem hj]
    have : Inhabited (α × List Value) := ⟨(default, [])⟩
    obtain ⟨q, hq⟩ := Go.Deep.choose_lt each
    have hxl : ((List.range len).map fun i => (q i).1).length = len := by simp
    refine ⟨(List.range len).map fun i => (q i).1, ⟨some a, cap, by rw [hxl], fun h => (by cases h), fun h0 => ?_⟩, by rw [hxl]; omega, fun x hx => ?_⟩
    · obtain ⟨b, off, spot⟩ := a
      rw [hxl] at h0
      have h1 := (hq 0 h0).2.1 0 (by rw [(hq 0 h0).1]; exact hsz)
      have hspot : spot = none := by simpa [Addr.add] using World.cell?_spot h1
      subst hspot
      refine ⟨b, off, rfl, ?_, fun i hi => ?_⟩
      · have := World.block_lt_of_cell? w _ h1
        simpa [Addr.add] using this
      · rw [hxl] at hi
        obtain ⟨h1, h2, h3, _⟩ := hq i hi
        refine ⟨(q i).2, h1, fun j hj => ?_, by simpa using h3⟩
        have := h2 j hj
        rw [Addr.add_lit] at this
        rw [Nat.add_assoc]
        exact this
    · obtain ⟨i, hi, rfl⟩ := List.mem_map.1 hx
      exact (hq i (List.mem_range.1 hi)).2.2.2

/-- What is told of a world is told of every world that has its blocks from B on. -/
def Fresh (B : Nat) (w : World) (P : World → Prop) : Prop := ∀ W : World, w.heap.size ≤ W.heap.size → (∀ k, B ≤ k → k < w.heap.size → W.heap[k]? = w.heap[k]?) → P W
theorem Fresh.here {B : Nat} {w : World} {P : World → Prop} (h : Fresh B w P) : P w := h w (Nat.le_refl _) (fun _ _ _ => rfl)
theorem Fresh.base {B B' : Nat} {w : World} {P : World → Prop} (h : Fresh B w P) (hB : B' ≤ B) : Fresh B' w P := fun W h1 h2 => h W h1 (fun k hk => h2 k (Nat.le_trans hB hk))
theorem Fresh.step {B : Nat} {w w' : World} {P : World → Prop} (h : Fresh B w P) (h1 : w.heap.size ≤ w'.heap.size) (h2 : ∀ k, B ≤ k → k < w.heap.size → w'.heap[k]? = w.heap[k]?) : Fresh B w' P :=
  fun W h3 h4 => h W (Nat.le_trans h1 h3) (fun k hk hlt => (h4 k hk (Nat.lt_of_lt_of_le hlt h1)).trans (h2 k hk hlt))
theorem Fresh.below {B : Nat} {w w' : World} {P : World → Prop} (h : Fresh B w P) (hb : Below w.heap.size w w') : Fresh B w' P := h.step hb.size (fun k _ hlt => hb.block k hlt)
theorem Fresh.setLow {B : Nat} {w : World} {P : World → Prop} (h : Fresh B w P) {b : Nat} (hb : b < B) (j : Nat) (u : Value) : Fresh B (w.setCell ⟨b, j, none⟩ u) P :=
  h.step (by simp) (fun k hk _ => by
    simp only [World.setCell]
    rw [Array.getElem?_modify, if_neg (by omega)])
theorem Fresh.imp {B : Nat} {w : World} {P Q : World → Prop} (h : Fresh B w P) (hi : ∀ W, P W → Q W) : Fresh B w Q := fun W h1 h2 => hi W (h W h1 h2)
theorem Fresh.and {B : Nat} {w : World} {P Q : World → Prop} (h : Fresh B w P) (k : Fresh B w Q) : Fresh B w fun W => P W ∧ Q W := fun W h1 h2 => ⟨h W h1 h2, k W h1 h2⟩
theorem Fresh.pure {B : Nat} {w : World} {P : Prop} (h : P) : Fresh B w fun _ => P := fun _ _ _ => h

/-- Cells written one behind the other: into a list, and into a block. -/
def setsL (cs : List Value) (j : Nat) : List Value → List Value
  | [] => cs
  | v :: vs => setsL (cs.set j v) (j + 1) vs
def setsW (w : World) (g j : Nat) : List Value → World
  | [] => w
  | v :: vs => setsW (w.setCell ⟨g, j, none⟩ v) g (j + 1) vs
theorem setsL_len (cs : List Value) (j : Nat) (vs : List Value) : (setsL cs j vs).length = cs.length := by
  induction vs generalizing cs j with
  | nil => rfl
  | cons v vs ih => rw [setsL, ih, List.length_set]
theorem setsL_take (cs : List Value) (j : Nat) (vs : List Value) (h : j + vs.length ≤ cs.length) : (setsL cs j vs).take (j + vs.length) = cs.take j ++ vs := by
  induction vs generalizing cs j with
  | nil => simp [setsL]
  | cons v vs ih =>
    have h1 : j + 1 + vs.length ≤ (cs.set j v).length := by simp only [List.length_set, List.length_cons] at *; omega
    have h2 := ih (cs.set j v) (j + 1) h1
    have hj : j < cs.length := by simp only [List.length_cons] at h; omega
    rw [setsL, List.length_cons, show j + (vs.length + 1) = j + 1 + vs.length by omega, h2, List.take_succ_eq_append_getElem (by rw [List.length_set]; exact hj), List.take_set_of_le (Nat.le_refl _)]
    simp
theorem setsW_own {B : Nat} {e : TypeId} {sz g n cap : Nat} {cs : List Value} {w : World} (h : w.ownsRow B e sz (.slice (some ⟨g, 0, none⟩) n cap) n cs) (j : Nat) (vs : List Value) : (setsW w g j vs).ownsRow B e sz (.slice (some ⟨g, 0, none⟩) n cap) n (setsL cs j vs) := by
  induction vs generalizing w cs j with
  | nil => exact h
  | cons v vs ih => exact ih (World.ownsRow.stored h j v).1 (j + 1)
theorem setsW_fresh {B g : Nat} {w : World} {P : World → Prop} (h : Fresh B w P) (hg : g < B) (j : Nat) (vs : List Value) : Fresh B (setsW w g j vs) P := by
  induction vs generalizing w j with
  | nil => exact h
  | cons v vs ih => exact ih (h.setLow hg j v) (j + 1)
theorem setsW_below {B g : Nat} {w0 w : World} (h : Below B w0 w) (hg : B ≤ g) (j : Nat) (vs : List Value) : Below B w0 (setsW w g j vs) := by
  induction vs generalizing w j with
  | nil => exact h
  | cons v vs ih => exact ih (h.setCell hg v) (j + 1)

/-- A list that is being built in the block g: its first elements are laid, what they reach lies behind g. -/
def RowTo (sz : Nat) (E : World → List Value → α → Prop) (e : TypeId) (B g : Nat) (xs : List α) (k : Nat) (w : World) : Prop :=
  ∃ (cs : List Value) (vss : List (List Value)), w.ownsRow B e sz (.slice (some ⟨g, 0, none⟩) xs.length xs.length) xs.length cs ∧ k ≤ xs.length ∧ vss.length = k ∧ (∀ vs ∈ vss, vs.length = sz) ∧ cs.take (k * sz) = vss.flatten ∧
    ∀ i (h : i < vss.length) (h' : i < xs.length), Fresh (g + 1) w fun W => E W vss[i] xs[i]
theorem rowTo_start {sz : Nat} {E : World → List Value → α → Prop} {e : TypeId} {B g : Nat} {xs : List α} {w : World} {cs : List Value} (h : w.ownsRow B e sz (.slice (some ⟨g, 0, none⟩) xs.length xs.length) xs.length cs) : RowTo sz E e B g xs 0 w :=
  ⟨cs, [], h, Nat.zero_le _, rfl, (fun _ h => by cases h), by simp, (fun i h => by cases h)⟩
theorem RowTo.below {sz : Nat} {E : World → List Value → α → Prop} {e : TypeId} {B g : Nat} {xs : List α} {k : Nat} {w w' : World} (h : RowTo sz E e B g xs k w) (hb : Below w.heap.size w w') : RowTo sz E e B g xs k w' := by
  obtain ⟨cs, vss, h1, h2, h3, h4, h5, h6⟩ := h
  refine ⟨cs, vss, ?_, h2, h3, h4, h5, fun i hi hi' => (h6 i hi hi').below hb⟩
  exact World.ownsRow.kept h1 (row := none) ⟨hb.os, hb.tape, hb.output, hb.size, fun k hk _ => hb.block k hk⟩ (.inr (fun e => by cases e))
theorem RowTo.own {sz : Nat} {E : World → List Value → α → Prop} {e : TypeId} {B g : Nat} {xs : List α} {k : Nat} {w : World} (h : RowTo sz E e B g xs k w) : ∃ cs, w.ownsRow B e sz (.slice (some ⟨g, 0, none⟩) xs.length xs.length) xs.length cs := by
  obtain ⟨cs, _, h1, _⟩ := h
  exact ⟨cs, h1⟩
theorem RowTo.next {sz : Nat} {E : World → List Value → α → Prop} {e : TypeId} {B g : Nat} {xs : List α} {k : Nat} {w : World} (h : RowTo sz E e B g xs k w) (hk : k < xs.length) {vs : List Value} (hl : vs.length = sz) (hE : Fresh (g + 1) w fun W => E W vs xs[k]) :
    RowTo sz E e B g xs (k + 1) (setsW w g (k * sz) vs) := by
  obtain ⟨cs, vss, h1, h2, h3, h4, h5, h6⟩ := h
  have hcs : cs.length = xs.length * sz := h1.1
  have hle : k * sz + vs.length ≤ cs.length := by
    rw [hcs, hl, ← Nat.succ_mul]
    exact Nat.mul_le_mul_right sz hk
  refine ⟨setsL cs (k * sz) vs, vss ++ [vs], setsW_own h1 _ _, hk, by simp [h3], fun v hv => ?_, ?_, fun i hi hi' => ?_⟩
  · rcases List.mem_append.1 hv with hv | hv
    · exact h4 v hv
    · rw [List.mem_singleton.1 hv]; exact hl
  · have := setsL_take cs (k * sz) vs hle
    rw [show (k + 1) * sz = k * sz + vs.length by rw [hl, Nat.succ_mul], this, h5]
    simp
  · by_cases hlt : i < vss.length
    · rw [List.getElem_append_left hlt]
      exact setsW_fresh (h6 i hlt hi') (Nat.lt_succ_self g) _ _
    · obtain rfl : i = k := by simp at hi; omega
      have e : (vss ++ [vs])[i] = vs := by
        rw [List.getElem_append_right (by omega)]
        simp
      rw [e]
      exact setsW_fresh hE (Nat.lt_succ_self g) _ _
theorem flat_at (sz : Nat) : ∀ (vss : List (List Value)), (∀ vs ∈ vss, vs.length = sz) → ∀ (i j : Nat) (h : i < vss.length) (hj : j < vss[i].length), vss.flatten[i * sz + j]? = some vss[i][j]
  | v :: vss, hl, 0, j, h, hj => by
    have hj' : j < v.length := hj
    rw [List.flatten_cons, Nat.zero_mul, Nat.zero_add, List.getElem?_append_left hj', List.getElem?_eq_getElem hj']
    rfl
  | v :: vss, hl, i + 1, j, h, hj => by
    have hv := hl v (List.mem_cons_self ..)
    rw [List.flatten_cons, List.getElem?_append_right (by rw [hv, Nat.succ_mul]; omega), hv, show (i + 1) * sz + j - sz = i * sz + j by rw [Nat.succ_mul]; omega]
    exact flat_at sz vss (fun x hx => hl x (List.mem_cons_of_mem _ hx)) i j (by simpa using h) hj
/-- The list, when all are laid. -/
theorem RowTo.done {sz : Nat} {E : World → List Value → α → Prop} {e : TypeId} {B g : Nat} {xs : List α} {w : World} (h : RowTo sz E e B g xs xs.length w) : Fresh g w fun W => RowC sz E W (.slice (some ⟨g, 0, none⟩) xs.length xs.length) xs := by
  obtain ⟨cs, vss, h1, h2, h3, h4, h5, h6⟩ := h
  intro W hW hbl
  refine ⟨some ⟨g, 0, none⟩, xs.length, rfl, fun h => (by cases h), fun h0 => ?_⟩
  have hg := World.ownsRow.lt h1 g rfl
  refine ⟨g, 0, rfl, Nat.lt_of_lt_of_le hg.2 hW, fun i hi => ⟨vss[i]'(by omega), h4 _ (List.getElem_mem _), fun j hj => ?_, h6 i (by omega) hi W hW (fun k hk => hbl k (by omega))⟩⟩
  rw [World.cell?_of_block (hbl g (Nat.le_refl _) hg.2)]
  have hf := flat_at sz vss h4 i j (by omega) hj
  rw [← h5, List.getElem?_take] at hf
  split at hf
  · have := World.ownsRow.cells h1 (g := g) rfl (i * sz + j) _ hf
    rwa [Addr.add_lit, ← Nat.add_assoc] at this
  · cases hf

end Go.Proofs.YtkmkfpgaehgonaaGreatDoor

namespace Go.Proofs.YtkmkfpgaehgonaaGreatDoor
open Go.RowKit

/-- The first that is so called. -/
def getB : List VarD → ByteArray → Option Int
  | [], _ => none
  | x :: xs, name => if x.1 = name then some x.2 else getB xs name
def getVal (xs : List VarD) (name : ByteArray) : Value := match getB xs name with
  | some z => .tuple #[.int .i64 z, .bool true]
  | none => .tuple #[.int .i64 0, .bool false]

theorem getB_none {xs : List VarD} {name : ByteArray} : getB xs name = none ↔ ∀ x ∈ xs, x.1 ≠ name := by
  induction xs with
  | nil => simp [getB]
  | cons x xs ih => by_cases h : x.1 = name <;> simp [getB, h, ih]

theorem getB_at {xs : List VarD} {name : ByteArray} {k : Nat} (hk : k < xs.length) (h0 : ∀ j (hj : j < xs.length), j < k → xs[j].1 ≠ name) (h1 : xs[k].1 = name) : getB xs name = some xs[k].2 := by
  induction xs generalizing k with
  | nil => simp at hk
  | cons x xs ih =>
    cases k with
    | zero => simp at h1; simp [getB, h1]
    | succ k =>
      have hx := h0 0 (by simp) (by omega)
      simp at hx
      have := ih (k := k) (by simpa using hk) (fun j hj hjk => by have := h0 (j + 1) (by simpa using hj) (by omega); simpa using this) (by simpa using h1)
      simpa [getB, hx] using this

theorem bytes_beq (a b : ByteArray) : (a.toList == b.toList) = decide (a = b) := by
  rw [Bool.eq_iff_iff]
  simp only [beq_iff_eq, decide_eq_true_eq, ByteArray.toList_eq]
  constructor
  · intro h; exact ByteArray.ext (Array.toList_inj.1 h)
  · intro h; rw [h]

end Go.Proofs.YtkmkfpgaehgonaaGreatDoor

namespace Go.Proofs.YtkmkfpgaehgonaaGreatDoor
open Go.RowKit

theorem in_any (n lo hi : Int) (w : World) :
    Calls Tryz.prog 26 #[.int .i64 n, .int .i64 lo, .int .i64 hi] w fun e w' => e = .returned (.bool (decide (lo ≤ n ∧ n ≤ hi))) ∧ w' = w := by
  by_cases h1 : lo ≤ n
  · by_cases h2 : n ≤ hi
    · have hd : decide (lo ≤ n ∧ n ≤ hi) = true := by simp [h1, h2]
      go_enter Tryz.func26, Tryz.ntmps26
      go_wp2
      go_ret
      rw [hd]
      exact ⟨rfl, rfl⟩
    · have hd : decide (lo ≤ n ∧ n ≤ hi) = false := by simp; omega
      have h3 : hi < n := by omega
      go_enter Tryz.func26, Tryz.ntmps26
      go_wp2
      go_ret
      exact ⟨congrArg (fun x => Ending.returned (Value.bool x)) (by simp; omega), rfl⟩
  · have hd : decide (lo ≤ n ∧ n ≤ hi) = false := by simp; omega
    have h3 : n < lo := by omega
    go_enter Tryz.func26, Tryz.ntmps26
    go_wp2
    go_ret
    exact ⟨congrArg (fun x => Ending.returned (Value.bool x)) (by simp), rfl⟩

/-- A name: 1 to 4 small letters. -/
def letB (b : UInt8) : Bool := decide (97 ≤ b.toNat ∧ b.toNat ≤ 122)
def nameB (s : ByteArray) : Bool := s.data.toList.all letB && decide (1 ≤ s.size ∧ s.size ≤ 4)

theorem nameB_no {s : ByteArray} {k : Nat} (hk : k < s.size) (h : letB s[k] = false) : nameB s = false := by
  have hm : s[k] ∈ s.data.toList := by
    have : s[k] = s.data[k] := rfl
    rw [this]; simp
  cases hh : nameB s with
  | false => rfl
  | true =>
    simp only [nameB, Bool.and_eq_true, List.all_eq_true] at hh
    have := hh.1 _ hm
    rw [h] at this
    cases this

theorem nameB_all {s : ByteArray} (h : ∀ j (hj : j < s.size), letB s[j] = true) : nameB s = decide ((1 : Int) ≤ (s.size : Int) ∧ (s.size : Int) ≤ 4) := by
  have h1 : s.data.toList.all letB = true := by
    rw [List.all_eq_true]
    intro x hx
    obtain ⟨j, hj, rfl⟩ := List.getElem_of_mem hx
    have hj' : j < s.size := by simpa using hj
    exact h j hj'
  rw [nameB, h1, Bool.true_and]
  congr 1
  apply propext
  omega

set_option maxHeartbeats 800000 in
theorem specVarName_any (s : ByteArray) (w : World) (hs : s.size ≤ 1048576) :
    Calls Tryz.prog 74 #[.string s] w fun e w' => e = .returned (.bool (nameB s)) ∧ w' = w := by
  go_enter Tryz.func74, Tryz.ntmps74
  go_wp2
  go_loop [3] (fun iv => ∃ k : Nat, iv = .int .i64 k ∧ k ≤ s.size ∧ ∀ j (hj : j < s.size), j < k → letB s[j] = true) (fun iv => s.size - (intOf iv).toNat)
  case atStart => exact ⟨0, rfl, Nat.zero_le _, fun _ _ h => by omega⟩
  case round =>
    obtain ⟨k, rfl, hk, hj⟩ := hrel
    have HJ : Hid (∀ j (hj : j < s.size), j < k → letB s[j] = true) := hj
    clear hj
    by_cases hlt : k < s.size
    · have hb := s[k].toNat_lt
      by_cases h1 : s[k].toNat < 97
      · have HN : Hid (nameB s = false) := nameB_no hlt (by simp [letB]; omega)
        go_wp2
        go_ret
        rw [HN.out]
        exact ⟨rfl, rfl⟩
      · by_cases h2 : 122 < s[k].toNat
        · have HN : Hid (nameB s = false) := nameB_no hlt (by simp [letB]; omega)
          go_wp2
          go_ret
          rw [HN.out]
          exact ⟨rfl, rfl⟩
        · go_wp2
          go_round
          case rel =>
            refine ⟨k + 1, by go_num, by omega, fun j hj hjk => ?_⟩
            by_cases e : j = k
            · subst e; simp [letB]; omega
            · exact HJ.out j hj (by omega)
          case measure => simp [intOf]; omega
    · have HN : Hid (_ = _) := nameB_all (s := s) (fun j hj => HJ.out j hj (by omega))
      go_wp2_with (go_at_call 26; refine (in_any _ 1 4 _).mono ?_; rintro e w1 ⟨rfl, rfl⟩)
      go_ret
      rw [HN.out]
      exact ⟨congrArg (fun x => Ending.returned (Value.bool x)) (by simp), rfl⟩

/-- Is this one right behind that name? -/
def stepOk (p : Option ByteArray) (x : VarD) : Bool :=
  nameB x.1 && decide (-9999 ≤ x.2 ∧ x.2 ≤ 9999) && (match p with | none => true | some q => Op.bytesLess q.toList x.1.toList)
def chainB : Option ByteArray → List VarD → Bool
  | _, [] => true
  | p, x :: xs => stepOk p x && chainB (some x.1) xs
/-- A right list. -/
def envB (xs : List VarD) : Bool := chainB none xs && decide (xs.length ≤ 6)

def lastN (p : Option ByteArray) : List VarD → Option ByteArray
  | [] => p
  | x :: xs => lastN (some x.1) xs
theorem chainB_snoc (l : List VarD) : ∀ (p : Option ByteArray) (x : VarD), chainB p (l ++ [x]) = (chainB p l && stepOk (lastN p l) x) := by
  induction l with
  | nil => intro p x; simp [chainB, lastN]
  | cons y l ih => intro p x; simp [chainB, lastN, ih, Bool.and_assoc]
theorem chainB_app (l m : List VarD) : ∀ (p : Option ByteArray), chainB p (l ++ m) = (chainB p l && chainB (lastN p l) m) := by
  induction l with
  | nil => intro p; simp [chainB, lastN]
  | cons y l ih => intro p; simp [chainB, lastN, ih, Bool.and_assoc]
theorem lastN_take (xs : List VarD) (k : Nat) (hk : k < xs.length) (h0 : 0 < k) : lastN none (xs.take k) = some xs[k - 1].1 := by
  have snoc : ∀ (l : List VarD) (p : Option ByteArray) (x : VarD), lastN p (l ++ [x]) = some x.1 := by
    intro l
    induction l with
    | nil => intro p x; rfl
    | cons y l ih => intro p x; exact ih _ _
  obtain ⟨j, rfl⟩ : ∃ j, k = j + 1 := ⟨k - 1, by omega⟩
  rw [List.take_succ_eq_append_getElem (by omega), snoc]
  rfl
theorem chainB_next (xs : List VarD) (k : Nat) (hk : k < xs.length) : chainB none (xs.take (k + 1)) = (chainB none (xs.take k) && stepOk (lastN none (xs.take k)) xs[k]) := by
  rw [List.take_succ_eq_append_getElem hk, chainB_snoc]
theorem envB_no {xs : List VarD} {k : Nat} (hk : k < xs.length) (h : stepOk (lastN none (xs.take k)) xs[k] = false) : envB xs = false := by
  have : chainB none xs = false := by
    rw [← List.take_append_drop (k + 1) xs, chainB_app, chainB_next xs k hk, h]
    simp
  rw [envB, this]
  rfl

theorem in_is (n lo hi : Int) (b : Bool) (h : decide (lo ≤ n ∧ n ≤ hi) = b) (w : World) :
    Calls Tryz.prog 26 #[.int .i64 n, .int .i64 lo, .int .i64 hi] w fun e w' => e = .returned (.bool b) ∧ w' = w := by
  rw [← h]; exact in_any n lo hi w
theorem specVarName_is (s : ByteArray) (b : Bool) (h : nameB s = b) (hs : s.size ≤ 1048576) (w : World) :
    Calls Tryz.prog 74 #[.string s] w fun e w' => e = .returned (.bool b) ∧ w' = w := by
  rw [← h]; exact specVarName_any s w hs

end Go.Proofs.YtkmkfpgaehgonaaGreatDoor

namespace Go.Proofs.YtkmkfpgaehgonaaGreatDoor
open Go.RowKit

theorem beq_yes {a b : ByteArray} (h : a = b) : (a.toList == b.toList) = true := by rw [bytes_beq]; simpa using h
theorem beq_no {a b : ByteArray} (h : ¬ a = b) : (a.toList == b.toList) = false := by rw [bytes_beq]; simpa using h

/-- The cells of a list of names with numbers. -/
def vv (xs : List VarD) : List Value := xs.flatMap fun x => [.string x.1, .int .i64 x.2]
theorem vv_len (xs : List VarD) : (vv xs).length = xs.length * 2 := by
  induction xs with
  | nil => rfl
  | cons x xs ih => rw [vv, List.flatMap_cons, List.length_append, ← vv, ih]; simp; omega
theorem vv_app (xs ys : List VarD) : vv (xs ++ ys) = vv xs ++ vv ys := by simp [vv]
theorem vv_one (x : VarD) : vv [x] = [.string x.1, .int .i64 x.2] := rfl
theorem vv_at : ∀ (xs : List VarD) (i : Nat) (h : i < xs.length), (vv xs)[i * 2]? = some (.string xs[i].1) ∧ (vv xs)[i * 2 + 1]? = some (.int .i64 xs[i].2)
  | x :: xs, 0, _ => ⟨rfl, rfl⟩
  | x :: xs, i + 1, h => by
    have := vv_at xs i (by simpa using h)
    have e : vv (x :: xs) = [.string x.1, .int .i64 x.2] ++ vv xs := rfl
    rw [e, List.getElem?_append_right (by simp; omega), List.getElem?_append_right (by simp; omega)]
    have e1 : (i + 1) * 2 - 2 = i * 2 := by omega
    have e2 : (i + 1) * 2 + 1 - 2 = i * 2 + 1 := by omega
    simpa [e1, e2] using this

def totS (xs : List VarD) : Nat := (xs.map fun x => x.1.size).sum
theorem totS_next (xs : List VarD) (k : Nat) (h : k < xs.length) : totS (xs.take (k + 1)) = totS (xs.take k) + xs[k].1.size := by
  rw [List.take_succ_eq_append_getElem h]
  simp only [totS, List.map_append, List.sum_append, List.map_cons, List.map_nil, List.sum_cons, List.sum_nil, Nat.add_zero]
theorem totS_mem {xs : List VarD} {x : VarD} (h : x ∈ xs) : x.1.size ≤ totS xs := by
  induction xs with
  | nil => cases h
  | cons y xs ih =>
    simp only [totS, List.map_cons, List.sum_cons]
    rcases List.mem_cons.1 h with rfl | h
    · omega
    · have := ih h; simp only [totS] at this; omega

/-- What is owned is owned behind whatever makes new memory alone. -/
theorem own_below {B : Nat} {e : TypeId} {size : Nat} {v : Value} {n : Nat} {xs : List Value} {w w' : World} (h : w.ownsRow B e size v n xs) (hb : Below w.heap.size w w') : w'.ownsRow B e size v n xs := by
  refine ⟨h.1, ?_⟩
  rcases h.2 with h | ⟨g, cap, cur, rfl, hg, hc, r⟩
  · exact .inl h
  · refine .inr ⟨g, cap, cur, rfl, hg, ?_, r⟩
    rw [hb.block g (Array.getElem?_eq_some_iff.1 hc).1]
    exact hc
theorem own_cell {B : Nat} {e : TypeId} {size : Nat} {g n cap : Nat} {xs : List Value} {w : World} (h : w.ownsRow B e size (.slice (some ⟨g, 0, none⟩) n cap) n xs) (j : Nat) (hj : j < n * size) :
    ∃ c, w.cell? ⟨g, j, none⟩ = some c ∧ w.frozen? ⟨g, j, none⟩ = false := by
  rcases h.2 with ⟨h', _⟩ | ⟨g', cap', cur, h', hb, hg, _⟩
  · cases h'
  · cases h'
    have hx : j < xs.length := by rw [h.1]; exact hj
    refine ⟨xs[j], ?_, ?_⟩
    · have := h.cells (g := g) rfl j xs[j] (List.getElem?_eq_getElem hx)
      rwa [Addr.add_lit, Nat.zero_add] at this
    · unfold World.frozen?
      rw [hg]
      simp

theorem take_two (cs : List Value) (j : Nat) (a b : Value) (h : j + 1 < cs.length) : ((cs.set j a).set (j + 1) b).take (j + 2) = cs.take j ++ [a, b] := by
  apply List.ext_getElem?
  intro i
  rw [List.getElem?_take]
  by_cases h1 : i < j
  · rw [if_pos (by omega), List.getElem?_set_ne (by omega), List.getElem?_set_ne (by omega), List.getElem?_append_left (by simp; omega), List.getElem?_take, if_pos h1]
  · have hl : (cs.take j).length = j := by simp; omega
    rw [List.getElem?_append_right (by omega), hl]
    by_cases h2 : i = j
    · subst h2
      rw [if_pos (by omega), List.getElem?_set_ne (by omega), List.getElem?_set_self (by omega)]
      simp
    · by_cases h3 : i = j + 1
      · subst h3
        rw [if_pos (by omega), List.getElem?_set_self (by simpa using h)]
        simp
      · rw [if_neg (by omega), List.getElem?_eq_none (by simp; omega)]

theorem cell_keep {W W' : World} {a : Addr} {x : Value} (h : W.cell? a = some x) (hb : Below W.heap.size W W') : W'.cell? a = some x :=
  (World.cell?_of_block (hb.block _ (World.block_lt_of_cell? W a h))).trans h
theorem cells_keep4 {W W' : World} {a b c d : Addr} {x y z u : Value} (h : W.cell? a = some x ∧ W.cell? b = some y ∧ W.cell? c = some z ∧ W.cell? d = some u) (hb : Below W.heap.size W W') :
    W'.cell? a = some x ∧ W'.cell? b = some y ∧ W'.cell? c = some z ∧ W'.cell? d = some u :=
  ⟨cell_keep h.1 hb, cell_keep h.2.1 hb, cell_keep h.2.2.1 hb, cell_keep h.2.2.2 hb⟩

end Go.Proofs.YtkmkfpgaehgonaaGreatDoor

namespace Go.Proofs.YtkmkfpgaehgonaaGreatDoor
open Go.RowKit

/-- The figures of a number, none for 0. -/
def digs (u : Nat) : List UInt8 := if u = 0 then [] else Lib.decDigits u

theorem digs_step (u : Nat) (h : u ≠ 0) : digs u = digs (u / 10) ++ [UInt8.ofNat (48 + u % 10)] := by
  unfold digs
  rw [if_neg h, Lib.decDigits]
  by_cases h1 : u < 10
  · rw [dif_pos h1, if_pos (by omega), show u % 10 = u by omega]; rfl
  · rw [dif_neg h1, if_neg (by omega)]

theorem digs_len : ∀ (u : Nat), (digs u).length ≤ u / 10 + 1 := by
  intro u
  induction u using Nat.strongRecOn with
  | ind u ih =>
    by_cases h : u = 0
    · simp [digs, h]
    · rw [digs_step u h, List.length_append, List.length_singleton]
      by_cases h1 : u < 10
      · rw [show u / 10 = 0 by omega]; simp [digs]
      · have := ih (u / 10) (by omega)
        omega

theorem itoa_digs_neg (n : Int) (h : n < 0) : Lib.itoa n = 45 :: digs n.natAbs := by
  unfold Lib.itoa digs
  rw [if_pos h, if_neg (by omega)]

theorem itoa_digs_pos (n : Int) (h : 0 < n) : Lib.itoa n = digs n.natAbs := by
  unfold Lib.itoa digs
  rw [if_neg (by omega), if_neg (by omega), show n.toNat = n.natAbs by omega]

theorem itoa_zero : Lib.itoa 0 = [48] := by
  unfold Lib.itoa
  rw [if_neg (by omega), Lib.decDigits, dif_pos (by decide)]
  rfl

theorem str_add (a b : List UInt8) : str a ++ str b = str (a ++ b) := by
  apply ByteArray.ext
  simp [str]

theorem run_add_str {P : Program} (W : World) (a b : List UInt8) (h : a.length + b.length ≤ 9223372036854775807) :
    (Op.stringOp .add (str a) (str b)).run P W = .ok (.string (str (a ++ b))) W := by
  rw [run_string_add_sum _ _ _ (by rw [str_size, str_size]; exact h)]
  congr 2

/-- A number as a byte. -/
def byteI (z : Int) : UInt8 := UInt8.ofNat z.toNat

/-- One byte laid in a new block, made a string. -/
theorem run_one_string {P : Program} (w : World) (src dst e : TypeId) (z : Int) (h0 : 0 ≤ z) (h1 : z < 256) (hs : P.underlying src = some (.slice e)) (he : P.underlying e = some (.int .u8)) (hd : P.underlying dst = some .string) :
    (convert src dst (.slice (some ⟨w.heap.size, 0, none⟩) 1 1)).run P (w.alloc (.cells #[.int .u8 z] e)) = .ok (.string (str [byteI z])) (w.alloc (.cells #[.int .u8 z] e)) := by
  have := run_convert_bytes_back (P := P) (w.alloc (.cells #[.int .u8 z] e)) src dst e ⟨w.heap.size, 0, none⟩ 1 [byteI z] hs he hd (fun j hj => by
    have hj0 : j = 0 := by simpa using hj
    subst hj0
    have e1 := one_at w (.int .u8 z) e 0 (.int .u8 z) rfl
    rw [e1, List.getElem_cons_zero, byteI, toNat_ofNat _ (by omega)]
    simp [Int.toNat_of_nonneg h0])
  exact this

end Go.Proofs.YtkmkfpgaehgonaaGreatDoor

namespace Go.Proofs.YtkmkfpgaehgonaaGreatDoor
open Go.RowKit

def markB (k : Nat) : List UInt8 := 109 :: digs k

/-- What holds at each round's head: the figures of m are left. -/
def MarkRel (n0 : Nat) (base : Nat) (w : World) (nv sv : Value) (wr : World) : Prop :=
  ∃ (m : Nat) (t : List UInt8), nv = .int .i64 m ∧ sv = .string (str t) ∧ digs m ++ t = digs n0 ∧ m ≤ n0 ∧ Below base w wr ∧ base ≤ wr.heap.size

theorem markRel_step {n0 m : Nat} {base : Nat} {w wr : World} {t : List UInt8} (hm : 0 < m) (hmn : m ≤ n0)
    (hd : digs m ++ t = digs n0) (hbel : Below base w wr) (hsz : base ≤ wr.heap.size) (o : Obj) :
    MarkRel n0 base w (.int .i64 ((m : Int) / 10)) (.string (str ([byteI (48 + (m : Int) % 10)] ++ t))) (wr.alloc o) := by
  refine ⟨m / 10, _, by simp, rfl, ?_, by omega, hbel.alloc hsz o, by simp; omega⟩
  rw [← hd, digs_step m (by omega)]
  have : (48 + (m : Int) % 10).toNat = 48 + m % 10 := by omega
  rw [byteI, this]
  simp

theorem mark_room {n0 m : Nat} {t : List UInt8} (hd : digs m ++ t = digs n0) (b2 : n0 ≤ 1000000000000) : t.length ≤ 100000000001 := by
  have h1 := digs_len n0
  have h2 := congrArg List.length hd
  rw [List.length_append] at h2
  omega

set_option maxHeartbeats 800000 in
theorem mark_any (n : Nat) (w : World) (h0 : 0 < n) (h1 : n ≤ 1000000000000) :
    Calls Tryz.prog 44 #[.int .i64 n] w fun e w' => e = .returned (.string (str (markB n))) ∧ Below w.heap.size w w' := by
  have hn0 : ¬ n = 0 := by omega
  go_enter Tryz.func44, Tryz.ntmps44
  go_wp2
  go_loopw [0, 3] (fun nv sv wr => MarkRel n w.heap.size w nv sv wr) (fun nv _ _ => (intOf nv).toNat)
  case atStart => exact ⟨n, [], rfl, rfl, by simp, Nat.le_refl _, Below.refl _ _, Nat.le_refl _⟩
  case round =>
    obtain ⟨m, t, rfl, rfl, hd, hmn, hbel, hsz⟩ := hrel
    have hroom := mark_room hd h1
    have HD : Hid (digs m ++ t = digs n) := hd
    clear hd
    have hz : (str t).size ≤ 100000000001 := by rw [str_size]; omega
    by_cases hm : 0 < m
    · have hcv := fun W => run_one_string (P := Tryz.prog) W 103 9 5 (48 + (m : Int) % 10) (by omega) (by omega) Tryz.underlying103 Tryz.underlying5 Tryz.underlying9
      have hadd := fun W => run_add_str (P := Tryz.prog) W [byteI (48 + (m : Int) % 10)] t (by simp; omega)
      have R := markRel_step hm hmn HD.out hbel hsz (.cells #[.int .u8 (48 + (m : Int) % 10)] 5)
      go_wp2
      go_roundw
      case rel => exact R
      case measure => simp [intOf]; omega
    · obtain rfl : m = 0 := by omega
      have HE : Hid (markB n = [109] ++ t) := by
        have := HD.out
        simp only [digs, if_true, List.nil_append] at this
        simp only [Hid, markB, digs, this]
        rfl
      go_wp2
      go_ret
      rw [HE.out, ← str_add]
      exact ⟨rfl, hbel⟩

end Go.Proofs.YtkmkfpgaehgonaaGreatDoor
