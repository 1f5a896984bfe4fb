/- The program's bytes, text and told: bits read from the lowest on; what the library's table of trailing zeros holds is the one condition. -/
/- The program's text and told, SetBytes, JoinSets, MeetSets and SetOf. -/
import Derived.Test.YtofpoiccghpliaaGreatDoorSetRead
import Derived.Test.YtofpoiccghpliaaGreatDoorTab
import Derived.Shelf.Spec.TrailingZeros
import Derived.OwnWalk
namespace Go.Proofs.YtofpoiccghpliaaGreatDoor
open Go.RowKit

theorem Tryz.info8 : (Tryz.prog.info? 5).map (fun i => (i.zero, i.size, i.bytes)) = some (some (.int .u8 0), 1, 1) := by kernel_rfl

/-- What the library's table holds. -/
def tzTab : List Int := Lib.deBruijn64tab.map Int.ofNat
def TzTab (w : World) : Prop := Lib.TabIs Tryz.prog w "math/bits.deBruijn64tab" .u8 tzTab
theorem TzTab.below {w w' : World} (h : TzTab w) (hb : Below w.heap.size w w') : TzTab w' := tab_below h hb
theorem TzTab.cell {w : World} (h : TzTab w) (i : Nat) (hi : i < 64) : w.cell? ⟨0, i, none⟩ = some (.int .u8 ((Lib.deBruijn64tab.getD i 0 : Nat) : Int)) := by
  have h1 := Lib.TabIs.cell h (show Tryz.prog.globalNamed "math/bits.deBruijn64tab" = some 0 by kernel_rfl) i (by simpa [tzTab, Lib.deBruijn64tab] using hi)
  rw [h1, tzTab]
  have hl : i < Lib.deBruijn64tab.length := by simpa [Lib.deBruijn64tab] using hi
  simp [List.getD, hl]

set_option maxHeartbeats 1000000 in
theorem tz_core (x k idx : Nat) (w : World) (hx0 : ((x : Int) == 0) = false)
    (key : IntKind.u64.wrap (bits BinOp.and IntKind.u64 (x : Int) (IntKind.u64.wrap (-(x : Int))) * 285870213051353865) / 288230376151711744 = (idx : Int))
    (hi : idx < 64) (hk : k < 64) (hcell : w.cell? ⟨0, idx, none⟩ = some (.int .u8 k)) :
    Calls Tryz.prog 106 #[.int .u64 x] w fun e w' => e = .returned (.int .i64 k) ∧ w' = w := by
  go_enter Tryz.func106, Tryz.ntmps106
  go_wp2_with (simp only [key])
  go_ret
  exact ⟨rfl, rfl⟩

theorem tz_any (x : Nat) (hx : x < 18446744073709551616) (hx0 : x ≠ 0) (w : World) (hT : TzTab w) :
    Calls Tryz.prog 106 #[.int .u64 x] w fun e w' => e = .returned (.int .i64 (Lib.ctz 64 x : Nat)) ∧ w' = w := by
  obtain ⟨hlow, hk⟩ := Lib.lowest_bit 64 x hx0 hx
  obtain ⟨hi, htab⟩ := Lib.deBruijn64_at _ hk
  have hcell := hT.cell _ hi
  rw [htab] at hcell
  exact tz_core x _ _ w (by simp; omega) (tz64_key x _ hx hx0 hlow) hi hk hcell

theorem first_any (m : Nat) (hm : m < 18446744073709551616) (h0 : m ≠ 0) (w : World) (hT : TzTab w) :
    Calls Tryz.prog 93 #[.int .u64 m] w fun e w' => e = .returned (.int .u8 (byteP (Lib.ctz 64 m) : Nat)) ∧ w' = w := by
  have HZ : Hid (∀ W, TzTab W → _) := fun W h => tz_any m hm h0 W h
  have hk := (ctz_low h0 hm).2.1
  generalize Lib.ctz 64 m = k at *
  go_enter Tryz.func93, Tryz.ntmps93
  go_wp2_with (first
    | (go_at_call 106; refine (HZ.out _ hT).mono ?_; rintro e wq ⟨rfl, hw⟩; rw [hw]; clear hw)
    | (go_at_call 105; refine (byteAt_any k hk _).mono ?_; rintro e wq ⟨rfl, hw⟩; rw [hw]; clear hw))
  go_ret
  exact ⟨rfl, rfl⟩

theorem bits_xor_max (x : Nat) (hx : x < 18446744073709551616) : bits .xor .u64 IntKind.u64.max (x : Int) = ((18446744073709551615 - x : Nat) : Int) := by
  have h1 : (BitVec.ofInt 64 IntKind.u64.max) = BitVec.allOnes 64 := by decide
  have h2 : (BitVec.ofInt 64 (x : Int)).toNat = x := by
    rw [BitVec.ofInt_natCast, BitVec.toNat_ofNat]; exact Nat.mod_eq_of_lt (by omega)
  show IntKind.u64.wrap ((BitVec.ofInt 64 IntKind.u64.max ^^^ BitVec.ofInt 64 (x : Int)).toNat : Int) = _
  rw [h1, BitVec.allOnes_xor, BitVec.toNat_not, h2, IntKind.wrap_u64]
  omega

/-- What is left of a mask, from a place on. -/
def Left (m0 m p : Nat) : Prop := ∀ i, m.testBit i = (decide (p ≤ i) && m0.testBit i)
theorem left_start (m : Nat) : Left m m 0 := fun i => by simp
theorem Left.lt {m0 m p : Nat} (h : Left m0 m p) {f : Nat → Bool} (hr : Rep m0 f) : m < 4398046511104 := testBit_lt fun i hi => by
  have h1 := h i
  rw [hi] at h1
  have h2 := (Bool.and_eq_true _ _ ▸ h1.symm : _ ∧ _).2
  rw [hr, Bool.and_eq_true, valid_iff] at h2
  omega
theorem comp_bit {x : Nat} (hx : x < 18446744073709551616) (i : Nat) : (18446744073709551615 - x).testBit i = (decide (i < 64) && !x.testBit i) := by
  have e64 : (2 : Nat) ^ 64 = 18446744073709551616 := by decide
  have e : 18446744073709551615 - x = 2 ^ 64 - (x + 1) := by rw [e64]; omega
  rw [e, Nat.testBit_two_pow_sub_succ (by rw [e64]; omega)]
theorem left_step {m0 m p k e x : Nat} {f : Nat → Bool} (hr : Rep m0 f) (h : Left m0 m p) (hk : m.testBit k = true) (hke : k ≤ e) (hlow : ∀ i, i < k → m.testBit i = false) (hx : x < 18446744073709551616) (hb : ∀ i, x.testBit i = (decide (k ≤ i) && decide (i ≤ e))) :
    Left m0 (m &&& (18446744073709551615 - x)) (e + 1) := by
  intro i
  rw [Nat.testBit_and, comp_bit hx, hb]
  by_cases h1 : i < k
  · rw [hlow i h1, decide_eq_false (by omega : ¬ e + 1 ≤ i)]; simp
  · by_cases h2 : i ≤ e
    · rw [decide_eq_true (by omega : k ≤ i), decide_eq_true h2, decide_eq_false (by omega : ¬ e + 1 ≤ i)]; simp
    · have hp : p ≤ k := by
        have := h k
        rw [hk] at this
        have := (Bool.and_eq_true _ _ ▸ this.symm : _ ∧ _).1
        simpa using this
      rw [h i, decide_eq_true (by omega : p ≤ i), decide_eq_true (by omega : e + 1 ≤ i), decide_eq_false h2]
      cases h3 : m0.testBit i with
      | false => simp
      | true =>
        rw [hr, Bool.and_eq_true, valid_iff] at h3
        simp
        omega
theorem and_less {m x k : Nat} (hk : m.testBit k = true) (hx : x.testBit k = false) : m &&& x < m := by
  have h1 : m &&& x ≤ m := Nat.and_le_left
  have h2 : m &&& x ≠ m := by
    intro e
    have : (m &&& x).testBit k = true := by rw [e]; exact hk
    rw [Nat.testBit_and, hx] at this
    simp at this
  omega
theorem left_low {m0 m p k : Nat} (h : Left m0 m p) (hk : m.testBit k = true) (hlow : ∀ i, i < k → m.testBit i = false) : p ≤ k ∧ m0.testBit k = true ∧ ∀ i, p ≤ i → i < k → m0.testBit i = false := by
  have h1 := h k
  rw [hk] at h1
  have h2 := (Bool.and_eq_true _ _ ▸ h1.symm : _ ∧ _)
  refine ⟨by simpa using h2.1, h2.2, fun i hi hlt => ?_⟩
  have h3 := h i
  rw [hlow i hlt, decide_eq_true hi, Bool.true_and] at h3
  exact h3.symm
theorem left_end {m0 p : Nat} (h : Left m0 0 p) (i : Nat) (hi : p ≤ i) : m0.testBit i = false := by
  have h3 := h i
  rw [Nat.zero_testBit, decide_eq_true hi, Bool.true_and] at h3
  exact h3.symm
theorem pow_bit (k i : Nat) : (2 ^ k).testBit i = (decide (k ≤ i) && decide (i ≤ k)) := by
  rw [Nat.testBit_two_pow, Bool.eq_iff_iff]
  simp only [Bool.and_eq_true, decide_eq_true_eq]
  omega
theorem rep_bit {m0 k : Nat} {f : Nat → Bool} (hr : Rep m0 f) (hk : m0.testBit k = true) : valid k = true ∧ bitP (byteP k) = 2 ^ k := by
  rw [hr, Bool.and_eq_true] at hk
  have h1 := pos_byteP hk.1
  exact ⟨hk.1, by rw [bitP, if_pos h1.2, h1.1]⟩
theorem ofBit_nat (k : Nat) (h : k < 64) : (ofBit k).toNat = byteP k := toNat_ofNat _ (byteP_lt k h)

set_option maxHeartbeats 1600000 in
set_option maxRecDepth 100000 in
theorem bytes_any (m0 : Nat) (f : Nat → Bool) (hr : Rep m0 f) (hs : Sup f) (w : World) (hT : TzTab w) :
    Calls Tryz.prog 75 #[.int .u64 m0] w fun e w' => e = .returned (.string (str (bytesB f))) ∧ Below w.heap.size w w' := by
  obtain ⟨i0, hi, hz0, hz1, hz2⟩ := info_parts Tryz.info8
  have HR : Hid (Rep m0 f) := hr
  have HT : Hid (TzTab w) := hT
  have HE : Hid (bytesB f = pre (cellB ofBit m0.testBit) 64) := bytes_bridge hr hs
  clear hr hs hT
  go_enter Tryz.func75, Tryz.ntmps75
  go_wp2
  go_loopw [0, 3] (fun mv ov wr => ∃ (m p : Nat) (l : List UInt8), mv = .int .u64 m ∧ p ≤ 64 ∧ Left m0 m p ∧ l = pre (cellB ofBit m0.testBit) p ∧ wr.ownsRow w.heap.size 5 1 ov l.length (bv l) ∧ Below w.heap.size w wr) (fun mv _ _ => (intOf mv).toNat)
  case atStart => exact ⟨m0, 0, [], rfl, by omega, left_start _, rfl, ⟨rfl, .inl ⟨rfl, rfl⟩⟩, Below.refl _ _⟩
  case round =>
    obtain ⟨m, p, l, rfl, hp, hleft, hl, hown, hbel⟩ := hrel
    have HL : Hid (Left m0 m p) := hleft
    have HP : Hid (l = pre (cellB ofBit m0.testBit) p) := hl
    have HB : Hid (Below w.heap.size w wr) := hbel
    have hsz := hbel.size
    have hlen : l.length ≤ 64 := by
      rw [hl]
      have := pre_len 1 (cellB_len ofBit m0.testBit) p
      omega
    have hm := hleft.lt HR.out
    have HTr : Hid (TzTab wr) := HT.out.below hbel
    clear hleft hl hbel
    by_cases hz : m = 0
    · subst hz
      have HV : Hid (bytesB f = l) := by
        rw [Hid, HE.out, HP.out]
        exact pre_skip' _ hp fun i h1 _ => cellB_none (left_end HL.out i h1)
      have hcv := own_string (P := Tryz.prog) (dst := 9) l Tryz.underlying73 Tryz.underlying5 Tryz.underlying9 hown
      go_wp2
      go_ret
      rw [HV.out]
      exact ⟨rfl, HB.out⟩
    · have hmz : ((m : Int) != 0) = true := by simpa using (by omega : (m : Int) ≠ 0)
      have hlow := ctz_low hz (by omega)
      have HF : Hid (∀ W, TzTab W → _) := fun W h => first_any m (by omega) hz W h
      generalize Lib.ctz 64 m = k at *
      obtain ⟨hk, hk64, hlo⟩ := hlow
      obtain ⟨hpk, hk0, hgap⟩ := left_low HL.out hk hlo
      obtain ⟨hval, hbit⟩ := rep_bit HR.out hk0
      have hb256 := byteP_lt k hk64
      have h2k : 2 ^ k < 18446744073709551616 := Nat.lt_of_lt_of_le (Nat.pow_lt_pow_right (by decide) hk64) (by decide)
      have HN : Hid (Left m0 (m &&& (18446744073709551615 - 2 ^ k)) (k + 1)) := left_step HR.out HL.out hk (Nat.le_refl k) hlo h2k (pow_bit k)
      have HQ : Hid (l ++ [ofBit k] = pre (cellB ofBit m0.testBit) (k + 1)) := by
        rw [Hid, pre_succ, cellB_yes hk0, pre_skip' (p := p) _ hpk (fun i h1 h2 => cellB_none (hgap i h1 h2)), HP.out]
      have HS : Hid (m &&& (18446744073709551615 - 2 ^ k) < m) := and_less hk (by rw [comp_bit h2k, pow_bit]; simp)
      have HW : Hid (∀ W, _) := fun W => without_any m (2 ^ k) (by omega) h2k W
      have HBt : Hid (∀ W, _) := fun W => bit_any (byteP k) hb256 W
      rw [hbit] at HBt
      have HO : Hid ((ofBit k).toNat = byteP k) := ofBit_nat k hk64
      clear hk hlo hgap hk0 hval hbit hpk
      generalize m &&& (18446744073709551615 - 2 ^ k) = m' at *
      generalize 2 ^ k = x at *
      generalize byteP k = b at *
      go_wp2_with (first
        | (go_at_call 93; refine (HF.out _ HTr.out).mono ?_; rintro e wq ⟨rfl, hw⟩; rw [hw]; clear hw)
        | (at_builtin; refine wpList_append_own _ rfl _ _ 73 rfl w.heap.size 5 i0 (.int .u8 0) 1 1 Tryz.underlying73 hi hz0 hz1 hz2 rfl (by decide) _ _ _ rfl (hown.alloc _) ⟨wr.heap.size, 0, none⟩ 1 1 [.int .u8 (b : Int)] rfl rfl (one_at _ _ _) (one_cell _ _) (by unfold maxLen; omega) (by omega) (by simp; omega) ?_))
      intro v' w1 hown' hgrow _
      have HO1 : Hid (w1.ownsRow w.heap.size 5 1 v' (l ++ [ofBit k]).length (bv (l ++ [ofBit k]))) := by
        rw [Hid, bv_app, bv_one, HO.out, List.length_append, List.length_singleton]
        exact hown'
      have HB1 : Hid (Below w.heap.size w w1) := (HB.out.alloc hsz _).grown hgrow (by simp; omega) (fun j hj => (hown.lt j hj).1)
      clear hown' hgrow hown
      go_wp2_with (first
        | (go_at_call 95; refine (HBt.out _).mono ?_; rintro e wq ⟨rfl, hw⟩; rw [hw]; clear hw)
        | (go_at_call 94; refine (HW.out _).mono ?_; rintro e wq ⟨rfl, hw⟩; rw [hw]; clear hw))
      go_roundw
      case rel => exact ⟨m', k + 1, _, rfl, by omega, HN.out, HQ.out, HO1.out, HB1.out⟩
      case measure => simp [intOf]; exact HS.out

end Go.Proofs.YtofpoiccghpliaaGreatDoor

namespace Go.Proofs.YtofpoiccghpliaaGreatDoor
open Go.RowKit

theorem three_at (w : World) (x y z : Value) (t : TypeId) : ∀ j u, [x, y, z][j]? = some u → (w.alloc (.cells #[x, y, z] t)).cell? ((⟨w.heap.size, 0, none⟩ : Addr).add j) = some u := by
  intro j u hj
  have hb : (w.alloc (.cells #[x, y, z] t)).heap[w.heap.size]? = some (.cells #[x, y, z] t) := heap_alloc_new w _
  rw [Addr.add_lit, Nat.zero_add, cell_of_row _ _ j _ _ _ hb]
  simpa using hj
theorem three_cells (k : IntKind) (a b c : Int) : ∀ u ∈ [Value.int k a, Value.int k b, Value.int k c], u.oneCell' = true := by
  intro u hu
  simp at hu
  rcases hu with rfl | rfl | rfl <;> rfl

/-- What holds at each round's head of the text's loop: no row is cut in two behind its first byte, save one of two. -/
def NoCut (m0 p : Nat) : Prop := ¬ (0 < p ∧ m0.testBit (p - 1) = true ∧ m0.testBit p = true ∧ m0.testBit (p + 1) = true)

theorem run_bytes {m0 k n : Nat} {f : Nat → Bool} (hr : Rep m0 f) (hrun : ∀ j, j ≤ n → m0.testBit (k + j) = true) : byteP (k + n) = byteP k + n ∧ rowP (byteP k) (byteP (k + n)) = 2 ^ (k + n + 1) - 2 ^ k ∧ k + n < 42 := by
  have hv : ∀ j, j ≤ n → valid (k + j) = true := fun j hj => by
    have := hrun j hj
    rw [hr, Bool.and_eq_true] at this
    exact this.1
  have h0 := (valid_iff _).1 (hv 0 (by omega))
  have hn := (valid_iff _).1 (hv n (by omega))
  rw [Nat.add_zero] at h0
  have hsame : k < 16 ↔ k + n < 16 := by
    constructor
    · intro h
      apply Classical.byContradiction
      intro h'
      have := (valid_iff _).1 (hv (10 - k) (by omega))
      omega
    · omega
  have e1 : byteP (k + n) = byteP k + n := by
    unfold byteP
    split <;> split <;> omega
  have p0 := pos_byteP (i := k) ((valid_iff _).2 h0)
  have pn := pos_byteP (i := k + n) ((valid_iff _).2 hn)
  refine ⟨e1, ?_, by omega⟩
  have hro : rowOk (byteP k) (byteP (k + n)) = true := by
    rw [rowOk, pn.2, decide_eq_true (by omega : byteP k ≤ byteP (k + n)), Bool.true_and, Bool.true_and, beq_iff_eq, decide_eq_decide]
    unfold byteP
    split <;> split <;> omega
  rw [rowP_yes p0.2 hro, rowM, pn.1, p0.1]

theorem implSetBytes_any (s : ByteArray) (w : World) (hT : TzTab w) :
    Calls Tryz.prog 61 #[.string s] w fun e w' => e = .returned (.string (str (bytesB (inL s.data.toList)))) ∧ Below w.heap.size w w' := by
  have HX : Hid (∀ W, TzTab W → _) := fun W h => bytes_any (maskL s.data.toList) (inL s.data.toList) (maskL_rep _) (inL_sup _) W h
  have HR : Hid (∀ W, _) := fun W => readSet_any s W
  have HT : Hid (TzTab w) := hT
  clear hT
  generalize maskL s.data.toList = m at *
  go_enter Tryz.func61, Tryz.ntmps61
  go_wp2_with (first
    | (go_at_call 74; refine (HR.out _).mono ?_; rintro e w1 ⟨rfl, hb1⟩)
    | (go_at_call 75; refine (HX.out _ (HT.out.below hb1)).mono ?_; rintro e w2 ⟨rfl, hb2⟩))
  go_ret
  exact ⟨rfl, hb1.trans (hb2.mono hb1.size)⟩

end Go.Proofs.YtofpoiccghpliaaGreatDoor
