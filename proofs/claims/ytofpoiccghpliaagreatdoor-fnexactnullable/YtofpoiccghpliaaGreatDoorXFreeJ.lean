/- Contracts of the library's functions that this program calls, each by one application of a theorem of the library. -/
/- A text cloned; a list of texts sorted, each once. -/
/- The program's namesOf and FreeOf: names collected, sorted, each once. -/
/- The program's FreeOf: names collected, sorted, each once. -/
import Derived.Test.YtofpoiccghpliaaGreatDoorProg
import Derived.Test.YtofpoiccghpliaaGreatDoorXFreeP
import Derived.Shelf.Small.Strs
import Derived.Shelf.Strconv.Itoa0
import Derived.Shelf.LaysM
import Derived.Shelf.Strconv.Clone
import Derived.Shelf.Strings.Search1
import Derived.Shelf.Slices.CompactS
import Derived.Ground.SlgmProg
import Derived.Shelf.SortM.Plain
import Derived.Shelf.SortM.SortNone
import Derived.Sort.OwnSorted
namespace Go.Proofs
open Go.Shelf
def Tryz.lays137_ren : Go.Shelf.Ren := ⟨fun | 137 => 101 | 217 => 110 | 266 => 120 | n => n, fun | 9 => 9 | 5 => 5 | 3 => 3 | n => n, fun | n => n⟩
theorem Tryz.lays137 : Go.Proofs.Lays.n137 Tryz.prog Tryz.lays137_ren := {
  mixed := by kernel_rfl
  f137 := Tryz.func101.trans (congrArg some (by kernel_rfl))
  f217 := Tryz.func110.trans (congrArg some (by kernel_rfl))
  f266 := Tryz.func120.trans (congrArg some (by kernel_rfl))
  t3 := Tryz.underlying3
  a3 := Tryz.isAgg3
  z3 := Tryz.sizeOf3
  v3 := Tryz.zeroValue3
  t5 := Tryz.underlying5
  a5 := Tryz.isAgg5
  z5 := Tryz.sizeOf5
  v5 := Tryz.zeroValue5
  t9 := Tryz.underlying9
  a9 := Tryz.isAgg9
  z9 := Tryz.sizeOf9
  v9 := Tryz.zeroValue9 }
open Go.RowKit in
theorem Tryz.strings_IndexByte (s : ByteArray) (c : Int) (w : World) :
    Calls Tryz.prog 101 #[.string s, .int .u8 c] w fun e w' => e = .returned (.int .i64 (Lib.indexByte s.data.toList c.toNat.toUInt8)) ∧ w' = w := Any.strings_IndexByte Tryz.lays137 s c w
def Tryz.lays129_ren : Go.Shelf.Ren := ⟨fun | 129 => 143 | n => n, fun | 53 => 113 | 3 => 3 | 4 => 4 | 46 => 144 | 5 => 5 | 9 => 9 | n => n, fun | n => n⟩
theorem Tryz.lays129 : Go.Proofs.Lays.n129 Tryz.prog Tryz.lays129_ren := {
  mixed := by kernel_rfl
  f129 := Tryz.func143.trans (congrArg some (by kernel_rfl))
  t3 := Tryz.underlying3
  a3 := Tryz.isAgg3
  z3 := Tryz.sizeOf3
  v3 := Tryz.zeroValue3
  t4 := Tryz.underlying4
  a4 := Tryz.isAgg4
  z4 := Tryz.sizeOf4
  v4 := Tryz.zeroValue4
  t5 := Tryz.underlying5
  a5 := Tryz.isAgg5
  z5 := Tryz.sizeOf5
  v5 := Tryz.zeroValue5
  t9 := Tryz.underlying9
  a9 := Tryz.isAgg9
  z9 := Tryz.sizeOf9
  v9 := Tryz.zeroValue9
  t46 := Tryz.underlying144
  a46 := Tryz.isAgg144
  z46 := Tryz.sizeOf144
  v46 := Tryz.zeroValue144
  t53 := Tryz.underlying113
  a53 := Tryz.isAgg113
  z53 := Tryz.sizeOf113
  v53 := Tryz.zeroValue113 }
theorem Tryz.bits_Len64 (x : Int) (w : World) (h0 : 0 ≤ x) (h1 : x ≤ 18446744073709551615) :
    Calls Tryz.prog 143 #[.int .u64 x] w fun e w' => e = .returned (.int .i64 (Lib.bitLen x.toNat)) ∧ w' = w := Any.bits_Len64 Tryz.lays129 x w h0 h1
def Tryz.laysM316_ren : Go.Shelf.Ren := ⟨fun | 316 => 31 | n => n, fun | 9 => 9 | 3 => 3 | 4 => 4 | 37 => 73 | 0 => 0 | 127 => 84 | 5 => 5 | n => n, fun | n => n⟩
theorem Tryz.laysM316 : Go.Proofs.LaysM.n316 Tryz.prog Tryz.laysM316_ren := {
  mixed := by kernel_rfl
  f316 := Tryz.func31.trans (congrArg some (by kernel_rfl))
  t0 := Tryz.underlying0
  a0 := Tryz.isAgg0
  z0 := Tryz.sizeOf0
  v0 := Tryz.zeroValue0
  t3 := Tryz.underlying3
  a3 := Tryz.isAgg3
  z3 := Tryz.sizeOf3
  v3 := Tryz.zeroValue3
  t4 := Tryz.underlying4
  a4 := Tryz.isAgg4
  z4 := Tryz.sizeOf4
  v4 := Tryz.zeroValue4
  t9 := Tryz.underlying9
  a9 := Tryz.isAgg9
  z9 := Tryz.sizeOf9
  v9 := Tryz.zeroValue9
  t37 := Tryz.underlying73
  a37 := Tryz.isAgg73
  z37 := Tryz.sizeOf73
  v37 := Tryz.zeroValue73
  t127 := Tryz.underlying84
  a127 := Tryz.isAgg84
  z127 := Tryz.sizeOf84
  v127 := Tryz.zeroValue84
  t5 := Tryz.underlying5
  a5 := Tryz.isAgg5
  z5 := Tryz.sizeOf5
  v5 := Tryz.zeroValue5
  i0 := by kernel_rfl
  i3 := by kernel_rfl
  i4 := by kernel_rfl
  i5 := by kernel_rfl
  i9 := by kernel_rfl
  i37 := by kernel_rfl
  i127 := by kernel_rfl }
open Go.RowKit in
theorem Tryz.stringslite_Clone (s : ByteArray) (w : World) (hlim : s.size ≤ 281474976710656) :
    Calls Tryz.prog 31 #[.string s] w fun e w' => e = .returned (.string s) ∧ Below w.heap.size w w' := Any.stringslite_Clone Tryz.laysM316 s w hlim
def Tryz.lays217_ren : Go.Shelf.Ren := ⟨fun | 217 => 110 | 266 => 120 | n => n, fun | 9 => 9 | 5 => 5 | 3 => 3 | n => n, fun | n => n⟩
theorem Tryz.lays217 : Go.Proofs.Lays.n217 Tryz.prog Tryz.lays217_ren := {
  mixed := by kernel_rfl
  f217 := Tryz.func110.trans (congrArg some (by kernel_rfl))
  f266 := Tryz.func120.trans (congrArg some (by kernel_rfl))
  t3 := Tryz.underlying3
  a3 := Tryz.isAgg3
  z3 := Tryz.sizeOf3
  v3 := Tryz.zeroValue3
  t5 := Tryz.underlying5
  a5 := Tryz.isAgg5
  z5 := Tryz.sizeOf5
  v5 := Tryz.zeroValue5
  t9 := Tryz.underlying9
  a9 := Tryz.isAgg9
  z9 := Tryz.sizeOf9
  v9 := Tryz.zeroValue9 }
open Go.RowKit Go.Lib in
theorem Tryz.stringslite_IndexByte (s : ByteArray) (c : Int) (w : World) :
    Calls Tryz.prog 110 #[.string s, .int .u8 c] w fun e w' => e = .returned (.int .i64 (Lib.indexByte s.data.toList c.toNat.toUInt8)) ∧ w' = w := Any.stringslite_IndexByte Tryz.lays217 s c w
def Tryz.lays194_ren : Go.Shelf.Ren := ⟨fun | 194 => 116 | n => n, fun | 31 => 26 | 9 => 9 | 3 => 3 | 4 => 4 | 0 => 0 | n => n, fun | n => n⟩
theorem Tryz.lays194 : Go.Proofs.Lays.n194 Tryz.prog Tryz.lays194_ren := {
  mixed := by kernel_rfl
  f194 := Tryz.func116.trans (congrArg some (by kernel_rfl))
  t0 := Tryz.underlying0
  a0 := Tryz.isAgg0
  z0 := Tryz.sizeOf0
  v0 := Tryz.zeroValue0
  t3 := Tryz.underlying3
  a3 := Tryz.isAgg3
  z3 := Tryz.sizeOf3
  v3 := Tryz.zeroValue3
  t4 := Tryz.underlying4
  a4 := Tryz.isAgg4
  z4 := Tryz.sizeOf4
  v4 := Tryz.zeroValue4
  t9 := Tryz.underlying9
  a9 := Tryz.isAgg9
  z9 := Tryz.sizeOf9
  v9 := Tryz.zeroValue9
  t31 := Tryz.underlying26
  a31 := Tryz.isAgg26
  z31 := Tryz.sizeOf26
  v31 := Tryz.zeroValue26 }
open Go.RowKit Go.Lib Go.Sort in
theorem Tryz.slices_Compact_string_arr (blk off cap : Nat) (d : Array (List UInt8)) (w : World) (hH : Holds encStr w blk off d) (hsz : d.size ≤ 9223372036854775807) (hcap : d.size ≤ cap) :
    Calls Tryz.prog 116 #[.slice (some ⟨blk, off, none⟩) d.size cap] w fun e w' => e = .returned (.slice (some ⟨blk, off, none⟩) (compactUpTo d d.size).length cap) ∧ ∃ q, w' = putRow encStr (Sort.ahead w q) blk off (compactUpTo d d.size ++ List.replicate (d.size - (compactUpTo d d.size).length) []).toArray := Any.slices_Compact_string_arr Tryz.lays194 blk off cap d w hH hsz hcap
open Go.RowKit Go.Lib Go.Sort in
theorem Tryz.slices_Compact_string (blk off cap : Nat) (zs : List (List UInt8)) (w : World) (hH : Holds encStr w blk off zs.toArray) (hsz : zs.length ≤ 9223372036854775807) (hcap : zs.length ≤ cap) :
    Calls Tryz.prog 116 #[.slice (some ⟨blk, off, none⟩) zs.length cap] w fun e w' => e = .returned (.slice (some ⟨blk, off, none⟩) (Lib.compact zs).length cap) ∧ ∃ q, w' = putRow encStr (Sort.ahead w q) blk off (Lib.compact zs ++ List.replicate (zs.length - (Lib.compact zs).length) []).toArray := Any.slices_Compact_string Tryz.lays194 blk off cap zs w hH hsz hcap
open Go.RowKit Go.Lib Go.Sort in
theorem Tryz.slices_Compact_string_empty (a : Option Addr) (cap : Nat) (w : World) :
    Calls Tryz.prog 116 #[.slice a 0 cap] w fun e w' => e = .returned (.slice a 0 cap) ∧ w' = w := Any.slices_Compact_string_empty Tryz.lays194 a cap w
def Tryz.laysSlM6_f115_ren : Go.Shelf.Ren := ⟨fun | 6 => 115 | 8 => 124 | 9 => 123 | 19 => 142 | 20 => 143 | 21 => 133 | 22 => 134 | 23 => 135 | 24 => 136 | 25 => 137 | 26 => 138 | 27 => 139 | 28 => 140 | 29 => 141 | 36 => 150 | 31 => 151 | 32 => 152 | 37 => 153 | 38 => 154 | 39 => 155 | 41 => 157 | n => n, fun | 27 => 26 | 29 => 9 | 3 => 3 | 32 => 144 | 26 => 26 | 0 => 0 | 44 => 213 | 46 => 113 | 4 => 4 | 36 => 205 | 35 => 204 | 41 => 210 | 5 => 5 | 9 => 9 | 53 => 230 | 57 => 234 | 63 => 237 | 64 => 238 | n => n, fun | n => n⟩
theorem Tryz.laysSlM6_f115 : Go.Proofs.SlLaysM.n6 Tryz.prog Tryz.laysSlM6_f115_ren := {
  mixed := by kernel_rfl
  f6 := ⟨Tryz.f115.name, by decide, Tryz.func115.trans (congrArg some (by kernel_rfl))⟩
  f8 := Tryz.func124.trans (congrArg some (by kernel_rfl))
  f9 := ⟨Tryz.f123.name, by decide, Tryz.func123.trans (congrArg some (by kernel_rfl))⟩
  f19 := Tryz.func142.trans (congrArg some (by kernel_rfl))
  f20 := Tryz.func143.trans (congrArg some (by kernel_rfl))
  f21 := ⟨Tryz.f133.name, by decide, Tryz.func133.trans (congrArg some (by kernel_rfl))⟩
  f22 := ⟨Tryz.f134.name, by decide, Tryz.func134.trans (congrArg some (by kernel_rfl))⟩
  f23 := ⟨Tryz.f135.name, by decide, Tryz.func135.trans (congrArg some (by kernel_rfl))⟩
  f24 := ⟨Tryz.f136.name, by decide, Tryz.func136.trans (congrArg some (by kernel_rfl))⟩
  f25 := ⟨Tryz.f137.name, by decide, Tryz.func137.trans (congrArg some (by kernel_rfl))⟩
  f26 := ⟨Tryz.f138.name, by decide, Tryz.func138.trans (congrArg some (by kernel_rfl))⟩
  f27 := ⟨Tryz.f139.name, by decide, Tryz.func139.trans (congrArg some (by kernel_rfl))⟩
  f28 := ⟨Tryz.f140.name, by decide, Tryz.func140.trans (congrArg some (by kernel_rfl))⟩
  f29 := ⟨Tryz.f141.name, by decide, Tryz.func141.trans (congrArg some (by kernel_rfl))⟩
  f31 := Tryz.func151.trans (congrArg some (by kernel_rfl))
  f32 := Tryz.func152.trans (congrArg some (by kernel_rfl))
  f36 := ⟨Tryz.f150.name, by decide, Tryz.func150.trans (congrArg some (by kernel_rfl))⟩
  f37 := ⟨Tryz.f153.name, by decide, Tryz.func153.trans (congrArg some (by kernel_rfl))⟩
  f38 := ⟨Tryz.f154.name, by decide, Tryz.func154.trans (congrArg some (by kernel_rfl))⟩
  f39 := ⟨Tryz.f155.name, by decide, Tryz.func155.trans (congrArg some (by kernel_rfl))⟩
  f41 := ⟨Tryz.f157.name, by decide, Tryz.func157.trans (congrArg some (by kernel_rfl))⟩
  t0 := Tryz.underlying0
  a0 := Tryz.isAgg0
  z0 := Tryz.sizeOf0
  v0 := Tryz.zeroValue0
  t3 := Tryz.underlying3
  a3 := Tryz.isAgg3
  z3 := Tryz.sizeOf3
  v3 := Tryz.zeroValue3
  t4 := Tryz.underlying4
  a4 := Tryz.isAgg4
  z4 := Tryz.sizeOf4
  v4 := Tryz.zeroValue4
  t5 := Tryz.underlying5
  a5 := Tryz.isAgg5
  z5 := Tryz.sizeOf5
  v5 := Tryz.zeroValue5
  t9 := Tryz.underlying9
  a9 := Tryz.isAgg9
  z9 := Tryz.sizeOf9
  v9 := Tryz.zeroValue9
  t26 := Tryz.underlying26
  a26 := Tryz.isAgg26
  z26 := Tryz.sizeOf26
  v26 := Tryz.zeroValue26
  t27 := Tryz.underlying26
  a27 := Tryz.isAgg26
  z27 := Tryz.sizeOf26
  v27 := Tryz.zeroValue26
  t29 := Tryz.underlying9
  a29 := Tryz.isAgg9
  z29 := Tryz.sizeOf9
  v29 := Tryz.zeroValue9
  t32 := Tryz.underlying144
  a32 := Tryz.isAgg144
  z32 := Tryz.sizeOf144
  v32 := Tryz.zeroValue144
  t35 := Tryz.underlying204
  a35 := Tryz.isAgg204
  z35 := Tryz.sizeOf204
  v35 := Tryz.zeroValue204
  t36 := Tryz.underlying205
  a36 := Tryz.isAgg205
  z36 := Tryz.sizeOf205
  v36 := Tryz.zeroValue205
  t41 := Tryz.underlying210
  a41 := Tryz.isAgg210
  z41 := Tryz.sizeOf210
  v41 := Tryz.zeroValue210
  t44 := Tryz.underlying213
  a44 := Tryz.isAgg213
  z44 := Tryz.sizeOf213
  v44 := Tryz.zeroValue213
  t46 := Tryz.underlying113
  a46 := Tryz.isAgg113
  z46 := Tryz.sizeOf113
  v46 := Tryz.zeroValue113
  t53 := Tryz.underlying230
  a53 := Tryz.isAgg230
  z53 := Tryz.sizeOf230
  v53 := Tryz.zeroValue230
  t57 := Tryz.underlying234
  a57 := Tryz.isAgg234
  z57 := Tryz.sizeOf234
  v57 := Tryz.zeroValue234
  t63 := Tryz.underlying237
  a63 := Tryz.isAgg237
  z63 := Tryz.sizeOf237
  v63 := Tryz.zeroValue237
  t64 := Tryz.underlying238
  a64 := Tryz.isAgg238
  z64 := Tryz.sizeOf238
  v64 := Tryz.zeroValue238 }
open Go.Sort Go.RowKit in
theorem Tryz.slices_Sort_string (blk off cap : Nat) (ss : List (List UInt8)) (w : World) (hH : Holds encStr w blk off ss.toArray) (hblk : blk < w.heap.size) (hsz : ss.length < 4611686018427387904) :
    Calls Tryz.prog 115 #[.slice (some ⟨blk, off, none⟩) ss.length cap] w fun e w' =>
      e = .returned (.tuple #[]) ∧ ∃ n os, w' = grow (putRow encStr (Sort.ahead w n) blk off (ss.mergeSort fun x y => decide (x ≤ y)).toArray) os := AnyM.slices_Sort_string Tryz.laysSlM6_f115 blk off cap ss w hH hblk hsz
open Go.RowKit Go.Sort in
theorem Tryz.slices_Sort_string_none (p : Option Addr) (cap : Nat) (w : World) :
    Calls Tryz.prog 115 #[.slice p 0 cap] w fun e w' => e = .returned (.tuple #[]) ∧ w' = w := AnyM.slices_Sort_string_none Tryz.laysSlM6_f115 p cap w
end Go.Proofs

namespace Go.Proofs.YtofpoiccghpliaaGreatDoor
open Go.RowKit

theorem cloneS (s : ByteArray) (w : World) (hz : s.size ≤ 1048576) :
    Calls Tryz.prog 18 #[.string s] w fun e w' => e = .returned (.string s) ∧ Below w.heap.size w w' := by
  have HC : Hid (∀ W, _) := fun W => Tryz.stringslite_Clone s W (by omega)
  go_enter Tryz.func18, Tryz.ntmps18
  go_wp2_with (go_at_call 31; refine (HC.out _).mono ?_; rintro e w1 ⟨rfl, hb1⟩)
  go_ret
  exact ⟨rfl, hb1⟩

/-! ### sorted, each once: what the row is then -/
open Go.Sort
theorem grow_none (w : World) : grow w #[] = w := by simp [grow]
theorem compact_len (zs : List (List UInt8)) : (Lib.compact zs).length ≤ zs.length := by
  rw [Lib.compact, Lib.compactUpTo, List.length_map]
  exact Nat.le_trans (List.length_filter_le ..) (by simp)
theorem own_compact {w : World} {base g cap q : Nat} {e : TypeId} {cur : Array Value} {zs : List (List UInt8)} (hbase : base ≤ g) (hb : w.heap[g]? = some (.cells cur e (0, 0))) (h1 : zs.length ≤ cap) (h2 : cap ≤ maxLen) (h3 : cur.size = cap * 1) :
    (putRow encStr (Sort.ahead w q) g 0 (Lib.compact zs ++ List.replicate (zs.length - (Lib.compact zs).length) []).toArray).ownsRow base e 1 (.slice (some ⟨g, 0, none⟩) (Lib.compact zs).length cap) (Lib.compact zs).length ((Lib.compact zs).map encStr) := by
  have hl := compact_len zs
  have hh := heap_sorted (n := q) (os := #[]) (Lib.compact zs ++ List.replicate (zs.length - (Lib.compact zs).length) []).toArray hb
  rw [grow_none] at hh
  refine ⟨by simp, .inr ⟨g, cap, _, rfl, hbase, hh, by omega, h2, by simp [putCells, h3], ?_⟩⟩
  have ht := take_putCells cur (Lib.compact zs ++ List.replicate (zs.length - (Lib.compact zs).length) []) (by simp; omega)
  have ht2 := congrArg (List.take (Lib.compact zs).length) ht
  rw [List.take_take, List.map_append, List.take_append_of_le_length (by simp), List.take_of_length_le (by simp : (List.map encStr (Lib.compact zs)).length ≤ (Lib.compact zs).length), List.length_append, List.length_replicate, Nat.min_eq_left (by omega)] at ht2
  rw [Nat.mul_one]
  exact ht2
theorem sb_enc (ss : List ByteArray) : sb ss = (ss.map fun s => s.data.toList).map encStr := by
  rw [sb, List.map_map]
  apply List.map_congr_left
  intro s _
  simp [encStr]
theorem own_names {B : Nat} {v : Value} {ss : List ByteArray} {n : Nat} {ts : List (List UInt8)} {w : World} (h : w.ownsRow B 9 1 v n (ts.map encStr)) (hn : n = ts.length) (ht : ts = ss.map fun s => s.data.toList) : OwnB B v ss w := by
  subst hn
  subst ht
  rw [OwnB, sb_enc]
  rw [List.length_map] at h
  exact h

end Go.Proofs.YtofpoiccghpliaaGreatDoor

namespace Go.Proofs.YtofpoiccghpliaaGreatDoor
open Go.RowKit

/-- A part that is no name is told so. -/
theorem part_noVar {x : NodeD} (h2 : ¬ x.op = 2) : ∃ (t : TypeId) (pv : Value), partV x = .iface t pv ∧ ∀ W, (Instr.typeAssert (.iface t pv) 168 174 true).run Tryz.prog W = .ok (.tuple #[.agg #[.string ⟨#[]⟩], .bool false]) W := by
  by_cases o1 : x.op = 1
  · exact ⟨_, _, by rw [partV, if_pos o1], fun W => Tryz.ta_num_var _ W⟩
  by_cases o3 : x.op = 3
  · exact ⟨_, _, by rw [partV, if_neg o1, if_neg h2, if_pos o3], fun W => Tryz.ta_here_var _ W⟩
  by_cases o11 : x.op = 11
  · exact ⟨_, _, by rw [partV, if_neg o1, if_neg h2, if_neg o3, if_pos o11], fun W => Tryz.ta_not_var _ W⟩
  · exact ⟨_, _, by rw [partV, if_neg o1, if_neg h2, if_neg o3, if_neg o11], fun W => Tryz.ta_pair_var _ W⟩
theorem name_size {i : Nat} {x : NodeD} (h : nodeB i x = true) (h2 : x.op = 2) : x.name.size ≤ 4 := by
  obtain ⟨_, _, hf, _⟩ := node_parts h
  rw [fieldsB, Bool.and_eq_true, if_pos h2, nameB, Bool.and_eq_true, decide_eq_true_eq] at hf
  exact hf.2.2.2

set_option maxHeartbeats 1600000 in
set_option maxRecDepth 100000 in
theorem namesOf_any (v : Value) (ns : List NodeD) (w : World) (hx : exprB ns = true) (h : PRow w v ns) :
    Calls Tryz.prog 114 #[v] w fun e w' => ∃ o, e = .returned o ∧ OwnB w.heap.size o (namesF ns) w' ∧ Below w.heap.size w w' := by
  obtain ⟨i0, hi, hz0, hz1, hz2⟩ := info_parts Tryz.infoStr
  obtain ⟨⟨hl1, hl2⟩, hnode⟩ := exprB_at hx
  have HNd : Hid (∀ k (hk : k < ns.length), nodeB k ns[k] = true) := hnode
  have HR : Hid (PRow w v ns) := h
  obtain ⟨a, cap, rfl⟩ := h.slice
  clear h hnode hx
  have O0 : Hid (OwnB w.heap.size (.slice (some ⟨w.heap.size, 0, none⟩) 0 0) (namesF (ns.take 0)) (w.alloc (.cells #[] 9))) := World.ownsRow_made (base := w.heap.size) w #[] 0 (e := 9) (size := 1) (Nat.le_refl _) (by decide) rfl
  go_enter Tryz.func114, Tryz.ntmps114
  go_wp2
  go_loopw [3, 11] (fun ov iv wr => ∃ k : Nat, iv = .int .i64 k ∧ k ≤ ns.length ∧ OwnB w.heap.size ov (namesF (ns.take k)) wr ∧ Below w.heap.size w wr) (fun _ iv _ => ns.length - (intOf iv).toNat)
  case atStart => exact ⟨0, rfl, Nat.zero_le _, O0.out, (Below.refl _ _).alloc (Nat.le_refl _) _⟩
  case round =>
    obtain ⟨k, rfl, hk, hown, hbw⟩ := hrel
    have HO : Hid (OwnB w.heap.size u3 (namesF (ns.take k)) wr) := hown
    have HB : Hid (Below w.heap.size w wr) := hbw
    clear hown hbw
    by_cases hlt : k < ns.length
    · obtain ⟨b, off, rfl, hpc⟩ := (HR.out.below HB.out).at hlt
      have HNx : Hid (_ = _) := namesF_next ns k hlt
      have hnl : (namesF (ns.take k)).length ≤ 20 := by
        have h1 := namesF_len (ns.take k)
        rw [List.length_take] at h1
        omega
      have i4 : (k : Int) < (ns.length : Int) := by omega
      generalize namesF (ns.take k) = zs at *
      by_cases o2 : ns[k].op = 2
      · have HNx2 : Hid (namesF (ns.take (k + 1)) = zs ++ [ns[k].name]) := by have := HNx.out; rwa [if_pos o2] at this
        have hp : partV ns[k] = .iface 174 (.agg #[.string ns[k].name]) := by rw [partV, if_neg (by omega), if_pos o2]
        rw [hp] at hpc
        have a1 := Tryz.ta_var_var
        have hsz := name_size (HNd.out k hlt) o2
        have HC : Hid (∀ W, _) := fun W => cloneS ns[k].name W (by omega)
        have B0 : Hid (Below w.heap.size w (wr.alloc (.cells #[.string ns[k].name] 174))) := HB.out.alloc HB.out.size _
        have HO0 : Hid (OwnB w.heap.size u3 zs (wr.alloc (.cells #[.string ns[k].name] 174))) := World.ownsRow.alloc HO.out _
        clear hp o2 HNx
        go_wp2_with fail
        refine (HC.out _).mono ?_
        rintro e w2 ⟨rfl, hb2⟩
        have HO2 : Hid (OwnB w.heap.size u3 zs w2) := HO0.out.below hb2
        have HB2 : Hid (Below w.heap.size w w2) := B0.out.trans (hb2.mono B0.out.size)
        clear hb2
        go_wp2_with (at_builtin; refine wpList_append_own _ rfl _ _ 26 rfl w.heap.size 9 i0 _ 1 16 Tryz.underlying26 hi hz0 hz1 hz2 rfl (by decide) _ _ _ rfl (World.ownsRow.alloc HO2.out _) ⟨_, 0, none⟩ 1 1 [.string ns[k].name] rfl rfl (cell_one_new _ _ _) (one_cellF _) (by unfold maxLen; omega) (by omega) (by have h8 := HB2.out.size; simp; omega) ?_)
        intro v' w3 hown3 hgrow _
        have R := ownB_snoc hown3 HO2.out hgrow rfl HB2.out
        clear hown3 hgrow
        go_wp2
        go_roundw
        case rel => exact ⟨k + 1, by go_num, by omega, by rw [HNx2.out]; exact R.1, R.2⟩
        case measure => simp [intOf]; omega
      · have HNx2 : Hid (namesF (ns.take (k + 1)) = zs) := by have := HNx.out; rwa [if_neg o2, List.append_nil] at this
        obtain ⟨t, pv, hp, hta⟩ := part_noVar o2
        rw [hp] at hpc
        have B0 : Hid (Below w.heap.size w (wr.alloc (.cells #[.string ⟨#[]⟩] 174))) := HB.out.alloc HB.out.size _
        have HO0 : Hid (OwnB w.heap.size u3 zs (wr.alloc (.cells #[.string ⟨#[]⟩] 174))) := World.ownsRow.alloc HO.out _
        clear hp o2 HNx
        go_wp2
        go_roundw
        case rel => exact ⟨k + 1, by go_num, by omega, by rw [HNx2.out]; exact HO0.out, B0.out⟩
        case measure => simp [intOf]; omega
    · obtain rfl : k = ns.length := by omega
      rw [List.take_of_length_le (Nat.le_refl _)] at HO
      have i4 : ¬ (ns.length : Int) < (ns.length : Int) := by omega
      go_wp2
      go_ret
      exact ⟨_, rfl, HO.out, HB.out⟩

end Go.Proofs.YtofpoiccghpliaaGreatDoor

namespace Go.Proofs.YtofpoiccghpliaaGreatDoor
open Go.RowKit

open Go.Sort
set_option maxHeartbeats 1600000 in
set_option maxRecDepth 100000 in
theorem implFreeOf_any (v : Value) (ns : List NodeD) (w : World) (hg : errTy w) (h : NRow w v ns) :
    Calls Tryz.prog 104 #[.agg #[v]] w fun e w' => ∃ o, e = .returned o ∧ OwnB w.heap.size o (freeB ns) w' ∧ Below w.heap.size w w' := by
  have HG : Hid (errTy w) := hg
  have HR : Hid (NRow w v ns) := h
  obtain ⟨a, cap, rfl⟩ := h.slice
  have B0 : Hid (Below w.heap.size w (w.alloc (.cells #[.slice a ns.length cap] 107))) := (Below.refl _ _).alloc (Nat.le_refl _) _
  clear h hg
  cases hx : exprB ns with
  | false =>
    have HP : Hid (∀ W, NRow W (.slice a ns.length cap) ns → _) := fun W hw => partsOf_no (.slice a ns.length cap) ns W hw hx
    have HF : Hid (freeB ns = []) := by rw [Hid, freeB, hx]; rfl
    rw [HF.out]
    clear hx
    go_enter Tryz.func104, Tryz.ntmps104
    go_wp2_with fail
    refine (HP.out _ (HR.out.below B0.out)).mono ?_
    rintro e w1 ⟨rfl, hb1⟩
    have B1 : Hid (Below w.heap.size w w1) := B0.out.trans (hb1.mono B0.out.size)
    clear hb1
    go_wp2_with fail
    refine (faultCode_is 1 _ (HG.out.below B1.out)).mono ?_
    rintro e w2 ⟨rfl, hb2⟩
    have B2 : Hid (Below w.heap.size w w2) := B1.out.trans (hb2.mono B1.out.size)
    have O2 : Hid (OwnB w.heap.size (.slice (some ⟨w2.heap.size, 0, none⟩) 0 0) [] (w2.alloc (.cells #[] 9))) := World.ownsRow_made (base := w.heap.size) w2 #[] 0 (e := 9) (size := 1) B2.out.size (by decide) rfl
    clear hb2
    go_wp2
    go_ret
    exact ⟨_, rfl, O2.out, B2.out.alloc B2.out.size _⟩
  | true =>
    have HP : Hid (∀ W, NRow W (.slice a ns.length cap) ns → _) := fun W hw => partsOf_yes (.slice a ns.length cap) ns W hw hx
    have HNm : Hid (∀ v W, PRow W v ns → _) := fun v W hw => namesOf_any v ns W hx hw
    have HF : Hid (freeB ns = freeF ns) := by rw [Hid, freeB, hx]; rfl
    have HFC : Hid (Lib.compact (((namesF ns).map fun s => s.data.toList).mergeSort leL) = (freeF ns).map fun s => s.data.toList) := free_compact ns
    have hnl : (namesF ns).length ≤ 20 := by have h1 := namesF_len ns; have h2 := (exprB_at hx).1; omega
    rw [HF.out]
    clear hx
    go_enter Tryz.func104, Tryz.ntmps104
    go_wp2_with fail
    refine (HP.out _ (HR.out.below B0.out)).mono ?_
    rintro e w1 ⟨o, rfl, ho, hb1⟩
    have B1 : Hid (Below w.heap.size w w1) := B0.out.trans (hb1.mono B0.out.size)
    have P1 : Hid (PRow w1 o ns) := ho.row
    clear hb1 ho B0 HP
    go_wp2_with fail
    refine (faultCode_nil _).mono ?_
    rintro e w2 ⟨rfl, hb2⟩
    have B2 : Hid (Below w.heap.size w w2) := B1.out.trans (hb2.mono B1.out.size)
    have P2 : Hid (PRow w2 o ns) := P1.out.below hb2
    clear hb2 B1 P1
    go_wp2_with fail
    refine (HNm.out _ _ P2.out).mono ?_
    rintro e w3 ⟨o3, rfl, ho3, hb3⟩
    have B3 : Hid (Below w.heap.size w w3) := B2.out.trans (hb3.mono B2.out.size)
    have HO3 : Hid (OwnB w2.heap.size o3 (namesF ns) w3) := ho3
    have hs2 : w.heap.size ≤ w2.heap.size := B2.out.size
    clear ho3 hb3 HNm P2
    by_cases h0 : (namesF ns).length = 0
    · have HFe : Hid (freeF ns = []) := by
        have h1 := HFC.out
        rw [List.eq_nil_of_length_eq_zero h0] at h1
        have h2 : ((freeF ns).map fun s => s.data.toList) = [] := by
          rw [← h1]
          refine List.eq_nil_of_length_eq_zero ?_
          have h3 := compact_len ((List.map (fun s : ByteArray => s.data.toList) []).mergeSort leL)
          rw [List.length_mergeSort, List.map_nil, List.length_nil] at h3
          exact Nat.le_zero.1 h3
        exact List.map_eq_nil_iff.1 h2
      obtain ⟨a3, c3, ho⟩ := HO3.out.row.slice
      rw [h0] at ho
      subst ho
      have HOF : Hid (OwnB w.heap.size (.slice a3 0 c3) (freeF ns) w3) := by
        have h1 := HO3.out
        rw [List.eq_nil_of_length_eq_zero h0] at h1
        rw [Hid, HFe.out]
        refine ⟨h1.1, ?_⟩
        rcases h1.2 with h | ⟨g, cp, cur, e, hg, r⟩
        · exact .inl h
        · exact .inr ⟨g, cp, cur, e, Nat.le_trans hs2 hg, r⟩
      clear h0 hnl
      go_wp2_with fail
      refine (Tryz.slices_Sort_string_none a3 c3 _).mono ?_
      rintro e wq ⟨rfl, hw⟩
      rw [hw]
      clear hw wq
      go_wp2_with fail
      refine (Tryz.slices_Compact_string_empty a3 c3 _).mono ?_
      rintro e wq ⟨rfl, hw⟩
      rw [hw]
      clear hw wq
      go_wp2
      go_ret
      exact ⟨_, rfl, HOF.out, B3.out⟩
    · rcases HO3.out.2 with ⟨_, hn0⟩ | ⟨g, c3, cur, ho, hgb, hblk, h1, h2, h3, h4⟩
      · exact absurd hn0 h0
      subst ho
      obtain ⟨ss, hss⟩ : ∃ ss, ((namesF ns).map fun s => s.data.toList) = ss := ⟨_, rfl⟩
      have hsl : ss.length = (namesF ns).length := by rw [← hss, List.length_map]
      rw [hss] at HFC
      have h4' : cur.toList.take ss.length = ss.map encStr := by
        rw [sb_enc, hss, Nat.mul_one] at h4
        rw [hsl]; exact h4
      rw [← hsl] at h1 hnl
      have hgl : g < w3.heap.size := (Array.getElem?_eq_some_iff.1 hblk).1
      have HS : Hid (_) := Tryz.slices_Sort_string g 0 c3 ss w3 (holds_of_block hblk h4') hgl (by omega)
      have HML : Hid ((ss.mergeSort leL).length = ss.length) := List.length_mergeSort ss
      rw [← hsl]
      clear h0 h4 hsl hss
      go_wp2_with fail
      refine Calls.mono HS.out ?_
      rintro e w4 ⟨rfl, n4, os4, hw4⟩
      have hb4 : w4.heap[g]? = some (.cells (putCells encStr 0 (ss.mergeSort leL).toArray cur) 9 (0, 0)) := by rw [hw4]; exact heap_sorted _ hblk
      have hg4 : w3.grownBy w4 (some g) := by rw [hw4]; exact grownBy_sorted _
      have B4 : Hid (Below w.heap.size w w4) := B3.out.grown hg4 B3.out.size (fun k hk => by cases hk; omega)
      have hsz4 : (putCells encStr 0 (ss.mergeSort leL).toArray cur).size = c3 * 1 := by simp [putCells, h3]
      have ht4 := take_putCells cur (ss.mergeSort leL) (by rw [HML.out]; omega)
      have HC : Hid (_) := Tryz.slices_Compact_string g 0 c3 (ss.mergeSort leL) w4 (holds_of_block hb4 ht4) (by rw [HML.out]; omega) (by rw [HML.out]; omega)
      rw [HML.out] at HC
      have HOC : Hid (∀ q, _) := fun q => own_compact (w := w4) (base := w.heap.size) (q := q) (zs := ss.mergeSort leL) (by omega) hb4 (by rw [HML.out]; omega) h2 hsz4
      clear hw4 hg4 hsz4 ht4 hb4
      go_wp2_with fail
      refine Calls.mono HC.out ?_
      rintro e w5 ⟨rfl, q, hw5⟩
      have HOF : Hid (OwnB w.heap.size (.slice (some ⟨g, 0, none⟩) (Lib.compact (ss.mergeSort leL)).length c3) (freeF ns) w5) := by
        have h1 := HOC.out q
        rw [HML.out] at h1
        rw [hw5]
        exact own_names h1 rfl HFC.out
      have B5 : Hid (Below w.heap.size w w5) := by
        have hg5 : w4.grownBy w5 (some g) := by rw [hw5, ← grow_none (putRow encStr _ _ _ _)]; exact grownBy_sorted _
        exact B4.out.grown hg5 B4.out.size (fun k hk => by cases hk; omega)
      clear hw5
      go_wp2
      go_ret
      exact ⟨_, rfl, HOF.out, B5.out⟩
end Go.Proofs.YtofpoiccghpliaaGreatDoor
