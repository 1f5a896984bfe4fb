/- Small laws that no program is named in: bytes as cells, an owned row of bytes made a string, and the bytes of a number. Nothing is assumed. -/
/- What the verifier's own draws answer: some number, or some text, within bounds; they write into the cursor that they make and into nothing else. -/
/- The verifier's draws, second part: a cursor made anew, a number out of a list, texts. -/
/- The verifier's draws for the first chapter. -/
import Derived.Test.YtccogaoabdpfmaaGreatRows
import Derived.WalkKit
import Derived.ProofKit
import Derived.Below
import Derived.ShutString
import Derived.SizedLaws
import Derived.Laws.IdiomStrings
import Derived.Laws.BytesArg
import Derived.Deep.QuietTactic
import Derived.BigQuiet
import Derived.Deep.RegionWith
import Derived.Deep.RegionHeld3
import Derived.Deep.AppendLies
import Derived.OpenShut
namespace Go.Proofs.YtccogaoabdpfmaaGreat
open Go.RowKit
def bv (l : List UInt8) : List Value := l.map fun b => Value.int .u8 (b.toNat : Int)
def str (l : List UInt8) : ByteArray := ⟨l.toArray⟩
theorem str_size (l : List UInt8) : (str l).size = l.length := by simp [str, ByteArray.size]
theorem one_at (w : World) (x : Value) (t : TypeId) : ∀ j u, [x][j]? = some u → (w.alloc (.cells #[x] t)).cell? ((⟨w.heap.size, 0, none⟩ : Addr).add j) = some u := by
 intro j u hj
 match j, hj with
 | 0, hj => simp at hj; subst hj; simp [Addr.add]
theorem bel_drewN {B : Nat} {a w : World} (h : Below B a w) (q : Nat) : Below B a (w.drewN q) := ⟨h.os, h.tape, h.output, h.size, h.block⟩
theorem bel_of_drew {B : Nat} {w w' : World} (h : Below B w.drew w') : Below B w w' := ⟨h.os, h.tape, h.output, h.size, h.block⟩
theorem toNat_ofNat (n : Nat) (h : n < 256) : (UInt8.ofNat n).toNat = n := by simp [UInt8.toNat_ofNat']; omega
end Go.Proofs.YtccogaoabdpfmaaGreat

namespace Go.Proofs.YtccogaoabdpfmaaGreat
open Go.RowKit
set_option maxHeartbeats 1600000
set_option maxRecDepth 100000
theorem i64_and255 (n : Int) : bits .and .i64 n 255 = n % 256 := by
 have h1 : (BitVec.ofInt 64 255).toNat = 2 ^ 8 - 1 := by decide
 have key : (BitVec.ofInt 64 n &&& BitVec.ofInt 64 255).toNat = (n % ((2 ^ 64 : Nat) : Int)).toNat % 2 ^ 8 := by
  rw [BitVec.toNat_and, BitVec.toNat_ofInt, h1, Nat.and_two_pow_sub_one_eq_mod]
 show IntKind.i64.wrap ((BitVec.ofInt 64 n &&& BitVec.ofInt 64 255).toNat : Nat) = n % 256
 rw [key, IntKind.wrap_i64]
 omega
theorem i64_and30 (n : Int) : bits .and .i64 n 1073741823 = n % 1073741824 := by
 have h1 : (BitVec.ofInt 64 1073741823).toNat = 2 ^ 30 - 1 := by decide
 have key : (BitVec.ofInt 64 n &&& BitVec.ofInt 64 1073741823).toNat = (n % ((2 ^ 64 : Nat) : Int)).toNat % 2 ^ 30 := by
  rw [BitVec.toNat_and, BitVec.toNat_ofInt, h1, Nat.and_two_pow_sub_one_eq_mod]
 show IntKind.i64.wrap ((BitVec.ofInt 64 n &&& BitVec.ofInt 64 1073741823).toNat : Nat) = n % 1073741824
 rw [key, IntKind.wrap_i64]
 omega
def CodeRow (W : World) (v : Value) (n : Nat) : Prop :=
 ∃ a cap, v = .slice a n cap ∧ (0 < n → ∃ b off, a = some ⟨b, off, none⟩ ∧ b < W.heap.size ∧ ∀ i, i < n → ∃ z : Int, 0 ≤ z ∧ z < 256 ∧ W.cell? ⟨b, off + i, none⟩ = some (.int .u8 z))
def Cur (W : World) (v : Value) (n g : Nat) (w : World) : Prop :=
 Below W.heap.size W w ∧ W.heap.size ≤ g ∧ ∃ i h : Int, 0 ≤ i ∧ i ≤ n ∧ -9223372036854775808 ≤ h ∧ h ≤ 9223372036854775807 ∧ w.heap[g]? = some (.cells #[v, .int .i64 i, .int .i64 h] 51 (0, 0))
theorem Cur.moved {W w w' : World} {v : Value} {n g : Nat} (h : Cur W v n g w) (hb : Below W.heap.size W w') (hg : w'.heap[g]? = w.heap[g]?) : Cur W v n g w' := by
 obtain ⟨_, h2, i, hh, h3, h4, h5, h6, h7⟩ := h
 exact ⟨hb, h2, i, hh, h3, h4, h5, h6, by rw [hg]; exact h7⟩
theorem Cur.lt {W w : World} {v : Value} {n g : Nat} (h : Cur W v n g w) : g < w.heap.size := by
 obtain ⟨_, _, _, _, _, _, _, _, h7⟩ := h
 exact (Array.getElem?_eq_some_iff.1 h7).1
theorem wrap64_in2 (y : Int) : -9223372036854775808 ≤ wrap64 y ∧ wrap64 y ≤ 9223372036854775807 := by unfold wrap64; omega
theorem cur_h {W w : World} {v : Value} {n g : Nat} {i h : Int} (hb : Below W.heap.size W w) (hg : W.heap.size ≤ g) (h1 : 0 ≤ i) (h2 : i ≤ n)
  (h5 : w.heap[g]? = some (.cells #[v, .int .i64 i, .int .i64 h] 51 (0, 0))) (y : Int) (q : Nat) :
  Cur W v n g ((w.setCell ⟨g, 2, none⟩ (.int .i64 (wrap64 y))).drewN q) ∧ w.grownBy ((w.setCell ⟨g, 2, none⟩ (.int .i64 (wrap64 y))).drewN q) (some g) := by
 have hy := wrap64_in2 y
 refine ⟨⟨bel_drewN (hb.setCell hg _) q, hg, i, wrap64 y, h1, h2, hy.1, hy.2, ?_⟩, ⟨rfl, rfl, rfl, by simp, fun k _ hk => ?_⟩⟩
 ·rw [World.heap_drewN, heap_setCell_same w g 2 _ _ _ h5]
  simp
 ·rw [World.heap_drewN]
  exact heap_setCell_other w ⟨g, 2, none⟩ k _ (fun e => hk (by simp [e]))
theorem cur_hi {W w : World} {v : Value} {n g : Nat} {i h : Int} (hb : Below W.heap.size W w) (hg : W.heap.size ≤ g) (h1 : 0 ≤ i) (h2 : i < n)
  (h5 : w.heap[g]? = some (.cells #[v, .int .i64 i, .int .i64 h] 51 (0, 0))) (y : Int) (q : Nat) :
  Cur W v n g (((w.setCell ⟨g, 2, none⟩ (.int .i64 (wrap64 y))).setCell ⟨g, 1, none⟩ (.int .i64 (i + 1))).drewN q) ∧ w.grownBy (((w.setCell ⟨g, 2, none⟩ (.int .i64 (wrap64 y))).setCell ⟨g, 1, none⟩ (.int .i64 (i + 1))).drewN q) (some g) := by
 have hy := wrap64_in2 y
 have h6 := heap_setCell_same w g 2 _ _ (.int .i64 (wrap64 y)) h5
 refine ⟨⟨bel_drewN ((hb.setCell hg _).setCell hg _) q, hg, i + 1, wrap64 y, by omega, by omega, hy.1, hy.2, ?_⟩, ⟨rfl, rfl, rfl, by simp, fun k _ hk => ?_⟩⟩
 ·rw [World.heap_drewN, heap_setCell_same _ g 1 _ _ _ h6]
  simp
 ·rw [World.heap_drewN, heap_setCell_other _ ⟨g, 1, none⟩ k _ (fun e => hk (by simp [e]))]
  exact heap_setCell_other w ⟨g, 2, none⟩ k _ (fun e => hk (by simp [e]))
theorem byte_any (W : World) (v : Value) (n g : Nat) (w : World) (hn : n ≤ 1000000000000) (hcode : CodeRow W v n) (hc : Cur W v n g w) :
  Calls Tryz.prog 83 #[.pointer (some ⟨g, 0, none⟩)] w fun e w' => ∃ x : Int, e = .returned (.int .i64 x) ∧ 0 ≤ x ∧ x < 256 ∧ Cur W v n g w' ∧ w.grownBy w' (some g) := by
 obtain ⟨hb, hg, i, h, h1, h2, h3, h4, h5⟩ := hc
 have HC : Hid (CodeRow W v n) := hcode
 have HB : Hid (Below W.heap.size W w) := hb
 have H5 : Hid (w.heap[g]? = some (.cells #[v, .int .i64 i, .int .i64 h] 51 (0, 0))) := h5
 clear hcode hb h5
 have c0 : w.cell? ⟨g, 0, none⟩ = some v := by rw [cell_of_row w g 0 _ _ _ H5.out]; rfl
 have c1 : w.cell? ⟨g, 1, none⟩ = some (.int .i64 i) := by rw [cell_of_row w g 1 _ _ _ H5.out]; rfl
 have c2 : w.cell? ⟨g, 2, none⟩ = some (.int .i64 h) := by rw [cell_of_row w g 2 _ _ _ H5.out]; rfl
 have f1 : w.frozen? ⟨g, 1, none⟩ = false := frozen_of_row w g 1 _ _ H5.out
 have f2 : w.frozen? ⟨g, 2, none⟩ = false := frozen_of_row w g 2 _ _ H5.out
 by_cases hlt : i < n
 ·obtain ⟨a, cap, rfl, hcell⟩ := HC.out
  obtain ⟨b, off, rfl, hbl, hcell⟩ := hcell (by omega)
  obtain ⟨k, rfl⟩ := Int.eq_ofNat_of_zero_le h1
  obtain ⟨z, z0, z1, hz⟩ := hcell k (by omega)
  have hz2 : w.cell? ⟨b, off + k, none⟩ = some (.int .u8 z) := (HB.out.cell hbl).trans hz
  have hne : b ≠ g := by omega
  clear hcell hz
  have hlt1 : (k : Int) < (n : Int) := by omega
  have e255 := i64_and255
  have ez : IntKind.i64.wrap z = z := wrap_small z z0 (by omega)
  go_enter Tryz.func83, Tryz.ntmps83
  go_wp2
  go_quiet (fail)
  go_wp2
  go_quiet (fail)
  go_wp2
  go_quiet (fail)
  go_wp2
  go_ret
  exact ⟨_, rfl, by omega, by omega, cur_hi HB.out hg h1 hlt H5.out _ _⟩
 ·obtain ⟨a, cap, rfl, _⟩ := HC.out
  have hge : (n : Int) ≤ i := by omega
  have e255 := i64_and255
  go_enter Tryz.func83, Tryz.ntmps83
  go_wp2
  go_quiet (fail)
  go_wp2
  go_quiet (fail)
  go_wp2
  go_ret
  simp only [World.drewN_drewN]
  exact ⟨_, rfl, by omega, by omega, cur_h HB.out hg h1 h2 H5.out _ _⟩
def Went (W : World) (v : Value) (n g : Nat) (w w' : World) : Prop := Cur W v n g w' ∧ w.grownBy w' (some g)
theorem went_trans {W : World} {v : Value} {n g : Nat} {w w1 w2 : World} (h : Went W v n g w w1) (k : Went W v n g w1 w2) : Went W v n g w w2 :=
 ⟨k.1, ⟨k.2.os.trans h.2.os, k.2.tape.trans h.2.tape, k.2.output.trans h.2.output, Nat.le_trans h.2.size k.2.size, fun i hi hr => (k.2.block i (Nat.lt_of_lt_of_le hi h.2.size) hr).trans (h.2.block i hi hr)⟩⟩
theorem byte_went (W : World) (v : Value) (n g : Nat) (w : World) (hn : n ≤ 1000000000000) (hcode : CodeRow W v n) (hc : Cur W v n g w) :
  Calls Tryz.prog 83 #[.pointer (some ⟨g, 0, none⟩)] w fun e w' => ∃ x : Int, e = .returned (.int .i64 x) ∧ (0 ≤ x ∧ x < 256) ∧ Went W v n g w w' := by
 refine (byte_any W v n g w hn hcode hc).mono ?_
 rintro e w' ⟨x, rfl, h1, h2, h3, h4⟩
 exact ⟨x, rfl, ⟨h1, h2⟩, h3, h4⟩
theorem below_any (W : World) (v : Value) (n g : Nat) (m : Int) (w : World) (hn : n ≤ 1000000000000) (hcode : CodeRow W v n) (hc : Cur W v n g w) (hm : 0 < m) (hm1 : m ≤ 4294967296) :
  Calls Tryz.prog 59 #[.pointer (some ⟨g, 0, none⟩), .int .i64 m] w fun e w' => ∃ x : Int, e = .returned (.int .i64 x) ∧ (0 ≤ x ∧ x < m) ∧ Went W v n g w w' := by
 have HC : Hid (CodeRow W v n) := hcode
 have HW : Hid (Cur W v n g w) := hc
 clear hcode hc
 by_cases h : m ≤ 256
 ·go_enter Tryz.func59, Tryz.ntmps59
  go_wp2_with fail
  refine (byte_went W v n g _ hn HC.out HW.out).mono ?_
  rintro e w1 ⟨x, rfl, ⟨x0, x1⟩, hw1⟩
  have H1 : Hid (Went W v n g w w1) := hw1
  clear hw1
  go_wp2
  go_ret
  exact ⟨_, rfl, ⟨Int.emod_nonneg _ (by omega), Int.emod_lt_of_pos _ hm⟩, H1.out⟩
 ·have h1 : 256 < m := by omega
  go_enter Tryz.func59, Tryz.ntmps59
  go_wp2_with fail
  refine (byte_went W v n g _ hn HC.out HW.out).mono ?_
  rintro e w1 ⟨x, rfl, ⟨x0, x1⟩, hw1⟩
  have H1 : Hid (Went W v n g w w1) := hw1
  clear hw1
  go_wp2_with fail
  refine (byte_went W v n g _ hn HC.out H1.out.1).mono ?_
  rintro e w2 ⟨y, rfl, ⟨y0, y1⟩, hw2⟩
  have H2 : Hid (Went W v n g w w2) := went_trans H1.out hw2
  clear hw2
  go_wp2_with fail
  refine (byte_went W v n g _ hn HC.out H2.out.1).mono ?_
  rintro e w3 ⟨z, rfl, ⟨z0, z1⟩, hw3⟩
  have H3 : Hid (Went W v n g w w3) := went_trans H2.out hw3
  clear hw3
  go_wp2_with fail
  refine (byte_went W v n g _ hn HC.out H3.out.1).mono ?_
  rintro e w4 ⟨t, rfl, ⟨t0, t1⟩, hw4⟩
  have H4 : Hid (Went W v n g w w4) := went_trans H3.out hw4
  clear hw4
  go_wp2
  go_ret
  exact ⟨_, rfl, ⟨Int.emod_nonneg _ (by omega), Int.emod_lt_of_pos _ hm⟩, H4.out⟩
end Go.Proofs.YtccogaoabdpfmaaGreat

namespace Go.Proofs.YtccogaoabdpfmaaGreat
open Go.RowKit
set_option maxHeartbeats 800000
set_option maxRecDepth 100000
theorem CodeRow.slice {W : World} {v : Value} {n : Nat} (h : CodeRow W v n) : ∃ a cap, v = .slice a n cap := by
 obtain ⟨a, cap, h, _⟩ := h
 exact ⟨a, cap, h⟩
theorem CodeRow.at {W w : World} {a : Option Addr} {n cap k : Nat} (h : CodeRow W (.slice a n cap) n) (hb : Below W.heap.size W w) (hk : k < n) :
  ∃ b off, ∃ z : Int, a = some ⟨b, off, none⟩ ∧ 0 ≤ z ∧ z < 256 ∧ w.cell? ⟨b, off + k, none⟩ = some (.int .u8 z) := by
 obtain ⟨a', cap', h1, h2⟩ := h
 simp only [Value.slice.injEq] at h1
 obtain ⟨rfl, _, rfl⟩ := h1
 obtain ⟨b, off, rfl, hbl, hc⟩ := h2 (by omega)
 obtain ⟨z, z0, z1, hz⟩ := hc k hk
 exact ⟨b, off, z, rfl, z0, z1, (hb.cell hbl).trans hz⟩
theorem codeRow_of {W : World} {x : Addr} {len cap : Nat} {zs : List Int} (hl : len ≤ cap) (hz : zs.length = cap) (hcell : ∀ i, i < zs.length → W.cell? (x.add i) = some (.int .u8 (zs.getD i 0))) (hw : ∀ n ∈ zs, (Lit.int .u8 n).wf = true) :
  CodeRow W (.slice (some x) len cap) len := by
 refine ⟨_, _, rfl, fun hpos => ?_⟩
 obtain ⟨b, off, spot⟩ := x
 have h0 := hcell 0 (by omega)
 have hspot : spot = none := by simpa [Addr.add] using World.cell?_spot h0
 subst hspot
 refine ⟨b, off, rfl, ?_, fun i hi => ?_⟩
 ·have := World.block_lt_of_cell? W _ h0
  simpa [Addr.add] using this
 ·have h1 := hcell i (by omega)
  rw [Addr.add_lit] at h1
  have hb := bounds_u8 (hw (zs.getD i 0) (by rw [List.getD_eq_getElem?_getD, List.getElem?_eq_getElem (by omega)]; exact List.getElem_mem _))
  exact ⟨_, by omega, by omega, h1⟩
theorem new_any (W : World) (v : Value) (n : Nat) (w : World) (hn : n ≤ 1000000000000) (hcode : CodeRow W v n) (hb : Below W.heap.size W w) :
  Calls Tryz.prog 9 #[v] w fun e w' => ∃ g, e = .returned (.pointer (some ⟨g, 0, none⟩)) ∧ Cur W v n g w' ∧ Below w.heap.size w w' ∧ w.heap.size ≤ g := by
 have HC : Hid (CodeRow W v n) := hcode
 have HB : Hid (Below W.heap.size W w) := hb
 obtain ⟨a, cap, rfl⟩ := hcode.slice
 clear hcode hb
 have e30 := i64_and30
 go_enter Tryz.func9, Tryz.ntmps9
 go_wp2
 go_loop [3, 4] (fun hv iv => ∃ (h : Int) (i : Nat), hv = .int .i64 h ∧ iv = .int .i64 i ∧ 0 ≤ h ∧ h ≤ 1000000034601 ∧ i ≤ n) (fun _ iv => n - (intOf iv).toNat)
 case atStart => exact ⟨_, 0, rfl, rfl, by omega, by omega, Nat.zero_le _⟩
 case round =>
  obtain ⟨h, i, rfl, rfl, h0, h1, hi⟩ := hrel
  by_cases hlt : i < n
  ·obtain ⟨b, off, z, rfl, z0, z1, hz⟩ := HC.out.at HB.out hlt
   by_cases h4 : i < 4000
   ·go_wp2
    go_round
    case rel => exact ⟨_, i + 1, rfl, by go_num, by omega, by omega, by omega⟩
    case measure => simp [intOf]; omega
   ·go_wp2
    go_ret
    exact ⟨_, rfl, ⟨HB.out.alloc HB.out.size _, HB.out.size, 0, h, by omega, by omega, by omega, by omega, heap_alloc_new w _⟩, (Below.refl _ _).alloc (Nat.le_refl _) _, Nat.le_refl _⟩
  ·go_wp2
   go_ret
   exact ⟨_, rfl, ⟨HB.out.alloc HB.out.size _, HB.out.size, 0, h, by omega, by omega, by omega, by omega, heap_alloc_new w _⟩, (Below.refl _ _).alloc (Nat.le_refl _) _, Nat.le_refl _⟩
end Go.Proofs.YtccogaoabdpfmaaGreat

namespace Go.Proofs.YtccogaoabdpfmaaGreat
open Go.RowKit
theorem went_alloc {W : World} {v : Value} {n g : Nat} {w : World} (h : Cur W v n g w) (o : Obj) : Went W v n g w (w.alloc o) :=
 ⟨h.moved (h.1.alloc h.1.size o) (Below.heap_alloc w o g h.lt), World.grownBy_alloc w o _⟩
theorem went_below {W : World} {v : Value} {n g : Nat} {w w' : World} (h : Cur W v n g w) (hb : Below w.heap.size w w') : Went W v n g w w' :=
 ⟨h.moved (h.1.trans (hb.mono h.1.size)) (hb.block g h.lt), ⟨hb.os, hb.tape, hb.output, hb.size, fun k hk _ => hb.block k hk⟩⟩
end Go.Proofs.YtccogaoabdpfmaaGreat
