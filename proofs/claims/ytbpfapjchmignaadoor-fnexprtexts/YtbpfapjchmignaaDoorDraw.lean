/- What the verifier's own draws answer: some number, or some text, within bounds; they write into the cursor that they make and into nothing else. -/
import Derived.Test.YtbpfapjchmignaaDoorRows
import Derived.Test.YtbpfapjchmignaaDoorKit
import Derived.Deep.RegionHeld3
import Derived.Deep.AppendLies
namespace Go.Proofs.YtbpfapjchmignaaDoor
open Go.RowKit

theorem i64_and255 (n : Int) : bits .and .i64 n 255 = n % 256 := by
  have h1 : (BitVec.ofInt 64 255).toNat = 2 ^ 8 - 1 := by decide
  have key : (BitVec.ofInt 64 n &&& BitVec.ofInt 64 255).toNat = (n % ((2 ^ 64 : Nat) : Int)).toNat % 2 ^ 8 := by
    rw [BitVec.toNat_and, BitVec.toNat_ofInt, h1, Nat.and_two_pow_sub_one_eq_mod]
  show IntKind.i64.wrap ((BitVec.ofInt 64 n &&& BitVec.ofInt 64 255).toNat : Nat) = n % 256
  rw [key, IntKind.wrap_i64]
  omega

theorem i64_and30 (n : Int) : bits .and .i64 n 1073741823 = n % 1073741824 := by
  have h1 : (BitVec.ofInt 64 1073741823).toNat = 2 ^ 30 - 1 := by decide
  have key : (BitVec.ofInt 64 n &&& BitVec.ofInt 64 1073741823).toNat = (n % ((2 ^ 64 : Nat) : Int)).toNat % 2 ^ 30 := by
    rw [BitVec.toNat_and, BitVec.toNat_ofInt, h1, Nat.and_two_pow_sub_one_eq_mod]
  show IntKind.i64.wrap ((BitVec.ofInt 64 n &&& BitVec.ofInt 64 1073741823).toNat : Nat) = n % 1073741824
  rw [key, IntKind.wrap_i64]
  omega

/-- The bytes that a draw is made of, as they came in. -/
def CodeRow (W : World) (v : Value) (n : Nat) : Prop :=
  ∃ a cap, v = .slice a n cap ∧ (0 < n → ∃ b off, a = some ⟨b, off, none⟩ ∧ b < W.heap.size ∧ ∀ i, i < n → ∃ z : Int, 0 ≤ z ∧ z < 256 ∧ W.cell? ⟨b, off + i, none⟩ = some (.int .u8 z))

/-- The cursor: three cells of the call's own: the bytes, a place in them, a number. -/
def Cur (W : World) (v : Value) (n g : Nat) (w : World) : Prop :=
  Below W.heap.size W w ∧ W.heap.size ≤ g ∧ ∃ i h : Int, 0 ≤ i ∧ i ≤ n ∧ -9223372036854775808 ≤ h ∧ h ≤ 9223372036854775807 ∧ w.heap[g]? = some (.cells #[v, .int .i64 i, .int .i64 h] 53 (0, 0))

theorem Cur.moved {W w w' : World} {v : Value} {n g : Nat} (h : Cur W v n g w) (hb : Below W.heap.size W w') (hg : w'.heap[g]? = w.heap[g]?) : Cur W v n g w' := by
  obtain ⟨_, h2, i, hh, h3, h4, h5, h6, h7⟩ := h
  exact ⟨hb, h2, i, hh, h3, h4, h5, h6, by rw [hg]; exact h7⟩

theorem Cur.lt {W w : World} {v : Value} {n g : Nat} (h : Cur W v n g w) : g < w.heap.size := by
  obtain ⟨_, _, _, _, _, _, _, _, h7⟩ := h
  exact (Array.getElem?_eq_some_iff.1 h7).1

theorem wrap64_in2 (y : Int) : -9223372036854775808 ≤ wrap64 y ∧ wrap64 y ≤ 9223372036854775807 := by unfold wrap64; omega

/-- Behind a draw that takes no byte. -/
theorem cur_h {W w : World} {v : Value} {n g : Nat} {i h : Int} (hb : Below W.heap.size W w) (hg : W.heap.size ≤ g) (h1 : 0 ≤ i) (h2 : i ≤ n)
    (h5 : w.heap[g]? = some (.cells #[v, .int .i64 i, .int .i64 h] 53 (0, 0))) (y : Int) (q : Nat) :
    Cur W v n g ((w.setCell ⟨g, 2, none⟩ (.int .i64 (wrap64 y))).drewN q) ∧ w.grownBy ((w.setCell ⟨g, 2, none⟩ (.int .i64 (wrap64 y))).drewN q) (some g) := by
  have hy := wrap64_in2 y
  refine ⟨⟨bel_drewN (hb.setCell hg _) q, hg, i, wrap64 y, h1, h2, hy.1, hy.2, ?_⟩, ⟨rfl, rfl, rfl, by simp, fun k _ hk => ?_⟩⟩
  · rw [World.heap_drewN, heap_setCell_same w g 2 _ _ _ h5]
    simp
  · rw [World.heap_drewN]
    exact heap_setCell_other w ⟨g, 2, none⟩ k _ (fun e => hk (by simp [e]))

/-- Behind a draw that takes a byte. -/
theorem cur_hi {W w : World} {v : Value} {n g : Nat} {i h : Int} (hb : Below W.heap.size W w) (hg : W.heap.size ≤ g) (h1 : 0 ≤ i) (h2 : i < n)
    (h5 : w.heap[g]? = some (.cells #[v, .int .i64 i, .int .i64 h] 53 (0, 0))) (y : Int) (q : Nat) :
    Cur W v n g (((w.setCell ⟨g, 2, none⟩ (.int .i64 (wrap64 y))).setCell ⟨g, 1, none⟩ (.int .i64 (i + 1))).drewN q) ∧ w.grownBy (((w.setCell ⟨g, 2, none⟩ (.int .i64 (wrap64 y))).setCell ⟨g, 1, none⟩ (.int .i64 (i + 1))).drewN q) (some g) := by
  have hy := wrap64_in2 y
  have h6 := heap_setCell_same w g 2 _ _ (.int .i64 (wrap64 y)) h5
  refine ⟨⟨bel_drewN ((hb.setCell hg _).setCell hg _) q, hg, i + 1, wrap64 y, by omega, by omega, hy.1, hy.2, ?_⟩, ⟨rfl, rfl, rfl, by simp, fun k _ hk => ?_⟩⟩
  · rw [World.heap_drewN, heap_setCell_same _ g 1 _ _ _ h6]
    simp
  · rw [World.heap_drewN, heap_setCell_other _ ⟨g, 1, none⟩ k _ (fun e => hk (by simp [e]))]
    exact heap_setCell_other w ⟨g, 2, none⟩ k _ (fun e => hk (by simp [e]))

set_option maxHeartbeats 1600000 in
set_option maxRecDepth 100000 in
theorem byte_any (W : World) (v : Value) (n g : Nat) (w : World) (hn : n ≤ 1000000000000) (hcode : CodeRow W v n) (hc : Cur W v n g w) :
    Calls Tryd.prog 30 #[.pointer (some ⟨g, 0, none⟩)] w fun e w' => ∃ x : Int, e = .returned (.int .i64 x) ∧ 0 ≤ x ∧ x < 256 ∧ Cur W v n g w' ∧ w.grownBy w' (some g) := by
  obtain ⟨hb, hg, i, h, h1, h2, h3, h4, h5⟩ := hc
  have HC : Hid (CodeRow W v n) := hcode
  have HB : Hid (Below W.heap.size W w) := hb
  have H5 : Hid (w.heap[g]? = some (.cells #[v, .int .i64 i, .int .i64 h] 53 (0, 0))) := h5
  clear hcode hb h5
  have c0 : w.cell? ⟨g, 0, none⟩ = some v := by rw [cell_of_row w g 0 _ _ _ H5.out]; rfl
  have c1 : w.cell? ⟨g, 1, none⟩ = some (.int .i64 i) := by rw [cell_of_row w g 1 _ _ _ H5.out]; rfl
  have c2 : w.cell? ⟨g, 2, none⟩ = some (.int .i64 h) := by rw [cell_of_row w g 2 _ _ _ H5.out]; rfl
  have f1 : w.frozen? ⟨g, 1, none⟩ = false := frozen_of_row w g 1 _ _ H5.out
  have f2 : w.frozen? ⟨g, 2, none⟩ = false := frozen_of_row w g 2 _ _ H5.out
  by_cases hlt : i < n
  · obtain ⟨a, cap, rfl, hcell⟩ := HC.out
    obtain ⟨b, off, rfl, hbl, hcell⟩ := hcell (by omega)
    obtain ⟨k, rfl⟩ := Int.eq_ofNat_of_zero_le h1
    obtain ⟨z, z0, z1, hz⟩ := hcell k (by omega)
    have hz2 : w.cell? ⟨b, off + k, none⟩ = some (.int .u8 z) := (HB.out.cell hbl).trans hz
    have hne : b ≠ g := by omega
    clear hcell hz
    have hlt1 : (k : Int) < (n : Int) := by omega
    have e255 := i64_and255
    have ez : IntKind.i64.wrap z = z := wrap_small z z0 (by omega)
    go_enter Tryd.func30, Tryd.ntmps30
    go_wp2
    go_quiet (fail)
    go_wp2
    go_quiet (fail)
    go_wp2
    go_quiet (fail)
    go_wp2
    go_ret
    exact ⟨_, rfl, by omega, by omega, cur_hi HB.out hg h1 hlt H5.out _ _⟩
  · obtain ⟨a, cap, rfl, _⟩ := HC.out
    have hge : (n : Int) ≤ i := by omega
    have e255 := i64_and255
    go_enter Tryd.func30, Tryd.ntmps30
    go_wp2
    go_quiet (fail)
    go_wp2
    go_quiet (fail)
    go_wp2
    go_ret
    simp only [World.drewN_drewN]
    exact ⟨_, rfl, by omega, by omega, cur_h HB.out hg h1 h2 H5.out _ _⟩

/-- A contract's part of the world: the cursor goes on, and nothing but its block and new ones has turned. -/
def Went (W : World) (v : Value) (n g : Nat) (w w' : World) : Prop := Cur W v n g w' ∧ w.grownBy w' (some g)

theorem went_trans {W : World} {v : Value} {n g : Nat} {w w1 w2 : World} (h : Went W v n g w w1) (k : Went W v n g w1 w2) : Went W v n g w w2 :=
  ⟨k.1, ⟨k.2.os.trans h.2.os, k.2.tape.trans h.2.tape, k.2.output.trans h.2.output, Nat.le_trans h.2.size k.2.size, fun i hi hr => (k.2.block i (Nat.lt_of_lt_of_le hi h.2.size) hr).trans (h.2.block i hi hr)⟩⟩

theorem byte_went (W : World) (v : Value) (n g : Nat) (w : World) (hn : n ≤ 1000000000000) (hcode : CodeRow W v n) (hc : Cur W v n g w) :
    Calls Tryd.prog 30 #[.pointer (some ⟨g, 0, none⟩)] w fun e w' => ∃ x : Int, e = .returned (.int .i64 x) ∧ (0 ≤ x ∧ x < 256) ∧ Went W v n g w w' := by
  refine (byte_any W v n g w hn hcode hc).mono ?_
  rintro e w' ⟨x, rfl, h1, h2, h3, h4⟩
  exact ⟨x, rfl, ⟨h1, h2⟩, h3, h4⟩

set_option maxHeartbeats 800000 in
theorem below_any (W : World) (v : Value) (n g : Nat) (m : Int) (w : World) (hn : n ≤ 1000000000000) (hcode : CodeRow W v n) (hc : Cur W v n g w) (hm : 0 < m) (hm1 : m ≤ 4294967296) :
    Calls Tryd.prog 21 #[.pointer (some ⟨g, 0, none⟩), .int .i64 m] w fun e w' => ∃ x : Int, e = .returned (.int .i64 x) ∧ (0 ≤ x ∧ x < m) ∧ Went W v n g w w' := by
  have HC : Hid (CodeRow W v n) := hcode
  have HW : Hid (Cur W v n g w) := hc
  clear hcode hc
  by_cases h : m ≤ 256
  · go_enter Tryd.func21, Tryd.ntmps21
    go_wp2_with fail
    refine (byte_went W v n g _ hn HC.out HW.out).mono ?_
    rintro e w1 ⟨x, rfl, ⟨x0, x1⟩, hw1⟩
    have H1 : Hid (Went W v n g w w1) := hw1
    clear hw1
    go_wp2
    go_ret
    exact ⟨_, rfl, ⟨Int.emod_nonneg _ (by omega), Int.emod_lt_of_pos _ hm⟩, H1.out⟩
  · have h1 : 256 < m := by omega
    go_enter Tryd.func21, Tryd.ntmps21
    go_wp2_with fail
    refine (byte_went W v n g _ hn HC.out HW.out).mono ?_
    rintro e w1 ⟨x, rfl, ⟨x0, x1⟩, hw1⟩
    have H1 : Hid (Went W v n g w w1) := hw1
    clear hw1
    go_wp2_with fail
    refine (byte_went W v n g _ hn HC.out H1.out.1).mono ?_
    rintro e w2 ⟨y, rfl, ⟨y0, y1⟩, hw2⟩
    have H2 : Hid (Went W v n g w w2) := went_trans H1.out hw2
    clear hw2
    go_wp2_with fail
    refine (byte_went W v n g _ hn HC.out H2.out.1).mono ?_
    rintro e w3 ⟨z, rfl, ⟨z0, z1⟩, hw3⟩
    have H3 : Hid (Went W v n g w w3) := went_trans H2.out hw3
    clear hw3
    go_wp2_with fail
    refine (byte_went W v n g _ hn HC.out H3.out.1).mono ?_
    rintro e w4 ⟨t, rfl, ⟨t0, t1⟩, hw4⟩
    have H4 : Hid (Went W v n g w w4) := went_trans H3.out hw4
    clear hw4
    go_wp2
    go_ret
    exact ⟨_, rfl, ⟨Int.emod_nonneg _ (by omega), Int.emod_lt_of_pos _ hm⟩, H4.out⟩

theorem once_any (W : World) (v : Value) (n g : Nat) (m : Int) (w : World) (hn : n ≤ 1000000000000) (hcode : CodeRow W v n) (hc : Cur W v n g w) (hm : 0 < m) (hm1 : m ≤ 4294967296) :
    Calls Tryd.prog 35 #[.pointer (some ⟨g, 0, none⟩), .int .i64 m] w fun e w' => ∃ b : Bool, e = .returned (.bool b) ∧ Went W v n g w w' := by
  have HC : Hid (CodeRow W v n) := hcode
  have HW : Hid (Cur W v n g w) := hc
  clear hcode hc
  go_enter Tryd.func35, Tryd.ntmps35
  go_wp2_with fail
  refine (below_any W v n g m _ hn HC.out HW.out hm hm1).mono ?_
  rintro e w1 ⟨x, rfl, ⟨x0, x1⟩, hw1⟩
  have H1 : Hid (Went W v n g w w1) := hw1
  clear hw1
  go_wp2
  go_ret
  exact ⟨_, rfl, H1.out⟩

end Go.Proofs.YtbpfapjchmignaaDoor
