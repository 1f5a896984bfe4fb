/- The figure of a half byte: what the specification's function answers at 0 .. 15. -/
/- Decimal: what the specification's function answers, at every int. -/
import Derived.Test.YtllfmobjkppnaaaGreatRows
import Derived.Test.YtllfmobjkppnaaaGreatDecPure
namespace Go.Proofs.YtllfmobjkppnaaaGreat
open Go.RowKit

/-- The figure of a half byte, as a number. -/
def figI (x : Int) : Int := if x < 10 then 48 + x else 87 + x
def figB (n : Nat) : UInt8 := UInt8.ofNat (if n < 10 then 48 + n else 87 + n)
theorem figB_toNat (n : Nat) (h : n < 16) : ((figB n).toNat : Int) = figI n := by
  unfold figB figI
  rw [toNat_ofNat _ (by split <;> omega)]
  split <;> split <;> omega

theorem fig_any (x : Int) (w : World) (h0 : 0 ≤ x) (h1 : x < 16) :
    Calls Tryz.prog 97 #[.int .i64 x] w fun e w' => e = .returned (.int .u8 (figI x)) ∧ w' = w := by
  by_cases h : x < 10
  · have HF : Hid (figI x = 48 + x) := by simp [Hid, figI, h]
    go_enter Tryz.func97, Tryz.ntmps97
    go_wp2
    go_ret
    rw [HF.out]
    exact ⟨rfl, rfl⟩
  · have HF : Hid (figI x = 97 + x - 10) := by simp only [Hid, figI, if_neg h]; omega
    go_enter Tryz.func97, Tryz.ntmps97
    go_wp2
    go_ret
    rw [HF.out]
    exact ⟨rfl, rfl⟩

end Go.Proofs.YtllfmobjkppnaaaGreat

namespace Go.Proofs.YtllfmobjkppnaaaGreat
open Go.RowKit

/-- What holds at each round's head: the figures of m are left. -/
def DecRel (n0 : Int) (base : Nat) (w : World) (nv sv : Value) (wr : World) : Prop :=
  ∃ (m : Int) (t : List UInt8), nv = .int .i64 m ∧ sv = .string (str t) ∧ digs m.natAbs ++ t = digs n0.natAbs ∧ -9223372036854775808 ≤ m ∧ m ≤ 9223372036854775807 ∧ Below base w wr ∧ base ≤ wr.heap.size

theorem decRel_step {n0 m m' x : Int} {base : Nat} {w wr : World} {t : List UInt8} (hm : m ≠ 0) (hx : x = (m.natAbs % 10 : Nat)) (hm' : m'.natAbs = m.natAbs / 10)
    (hd : digs m.natAbs ++ t = digs n0.natAbs) (b1 : -9223372036854775808 ≤ m') (b2 : m' ≤ 9223372036854775807) (hbel : Below base w wr) (hsz : base ≤ wr.heap.size) (o : Obj) :
    DecRel n0 base w (.int .i64 m') (.string (str ([byteI (figI x)] ++ t))) (wr.alloc o) := by
  refine ⟨m', _, rfl, rfl, ?_, b1, b2, hbel.alloc hsz o, by simp; omega⟩
  rw [hm', ← hd, digs_step m.natAbs (by omega)]
  have : (figI x).toNat = 48 + m.natAbs % 10 := by
    unfold figI
    rw [if_pos (by omega)]
    omega
  rw [byteI, this]
  simp

theorem digs_room {n0 m : Int} {t : List UInt8} (hm : m ≠ 0) (hd : digs m.natAbs ++ t = digs n0.natAbs) (b1 : -9223372036854775808 ≤ n0) (b2 : n0 ≤ 9223372036854775807) : t.length + 1 ≤ 922337203685477581 := by
  have h1 := digs_len n0.natAbs
  have h2 := congrArg List.length hd
  rw [List.length_append, digs_step m.natAbs (by omega), List.length_append, List.length_singleton] at h2
  omega

set_option maxHeartbeats 800000 in
theorem specDec_pos (n : Int) (w : World) (h0 : -9223372036854775808 ≤ n) (h1 : n ≤ 9223372036854775807) (hn : n ≠ 0) :
    Calls Tryz.prog 87 #[.int .i64 n] w fun e w' => e = .returned (.string (str (Lib.itoa n))) ∧ Below w.heap.size w w' := by
  have hne : (n == 0) = false := by simpa using hn
  go_enter Tryz.func87, Tryz.ntmps87
  go_wp2
  go_loopw [0, 4] (fun nv sv wr => DecRel n w.heap.size w nv sv wr) (fun nv _ _ => (intOf nv).natAbs)
  case atStart => exact ⟨n, [], rfl, rfl, by simp, h0, h1, Below.refl _ _, Nat.le_refl _⟩
  case round =>
    obtain ⟨m, t, rfl, rfl, hd, b1, b2, hbel, hsz⟩ := hrel
    by_cases hm : m = 0
    · subst hm
      have HD : Hid (t = digs n.natAbs) := by simpa [Hid, digs] using hd
      clear hd
      have hl := digs_len n.natAbs
      by_cases hneg : n < 0
      · have hz : (str t).size ≤ 922337203685477582 := by rw [str_size, HD.out]; omega
        clear hl
        have HE : Hid (Lib.itoa n = [45] ++ t) := by rw [HD.out]; exact itoa_digs_neg n hneg
        go_wp2
        go_ret
        rw [HE.out, ← str_add]
        exact ⟨rfl, hbel⟩
      · have HE : Hid (Lib.itoa n = t) := by rw [HD.out]; exact itoa_digs_pos n (by omega)
        clear hl
        go_wp2
        go_ret
        rw [HE.out]
        exact ⟨rfl, hbel⟩
    · have hroom := digs_room hm hd h0 h1
      have HD : Hid (digs m.natAbs ++ t = digs n.natAbs) := hd
      clear hd
      have hmne : (m != 0) = true := by simpa using hm
      by_cases hneg : m < 0
      · have q1 : m.tdiv 10 = -((m.natAbs / 10 : Nat) : Int) := by
          rw [show m = -(m.natAbs : Int) by omega, Int.neg_tdiv, Int.tdiv_eq_ediv_of_nonneg (by omega)]; omega
        have q2 : m.tmod 10 = -((m.natAbs % 10 : Nat) : Int) := by
          rw [show m = -(m.natAbs : Int) by omega, Int.neg_tmod, Int.tmod_eq_emod_of_nonneg (by omega)]; omega
        have hz : (str t).size ≤ 922337203685477580 := by rw [str_size]; omega
        have q5 : -10 < m.tmod 10 := by omega
        have q6 : m.tmod 10 ≤ 0 := by omega
        have q8 : -9223372036854775808 ≤ m.tdiv 10 := by omega
        have q9 : m.tdiv 10 ≤ 0 := by omega
        have Q1 : Hid (m.tdiv 10 = -((m.natAbs / 10 : Nat) : Int)) := q1
        have Q2 : Hid (m.tmod 10 = -((m.natAbs % 10 : Nat) : Int)) := q2
        clear q1 q2
        by_cases hy : m.tmod 10 < 0
        · have hcv := fun W => run_one_string (P := Tryz.prog) W 22 9 5 (figI (-(m.tmod 10))) (by unfold figI; split <;> omega) (by unfold figI; split <;> omega) Tryz.underlying22 Tryz.underlying5 Tryz.underlying9
          have hadd := fun W => run_add_str (P := Tryz.prog) W [byteI (figI (-(m.tmod 10)))] t (by simp; omega)
          have R := decRel_step (m' := m.tdiv 10) (x := -(m.tmod 10)) hm (by have h9 := Q2.out; omega) (by rw [Q1.out]; omega) HD.out (by omega) (by omega) hbel hsz (.cells #[.int .u8 (figI (-(m.tmod 10)))] 5)
          go_wp2_with (go_at_call 97; refine (fig_any _ _ (by omega) (by omega)).mono ?_; rintro e wq ⟨rfl, hw⟩; rw [hw]; clear hw)
          go_roundw
          case rel => exact R
          case measure => simp [intOf]; show m.natAbs / 10 < m.natAbs; omega
        · have hcv := fun W => run_one_string (P := Tryz.prog) W 22 9 5 (figI (m.tmod 10)) (by unfold figI; split <;> omega) (by unfold figI; split <;> omega) Tryz.underlying22 Tryz.underlying5 Tryz.underlying9
          have hadd := fun W => run_add_str (P := Tryz.prog) W [byteI (figI (m.tmod 10))] t (by simp; omega)
          have R := decRel_step (m' := m.tdiv 10) (x := m.tmod 10) hm (by have h9 := Q2.out; omega) (by rw [Q1.out]; omega) HD.out (by omega) (by omega) hbel hsz (.cells #[.int .u8 (figI (m.tmod 10))] 5)
          go_wp2_with (go_at_call 97; refine (fig_any _ _ (by omega) (by omega)).mono ?_; rintro e wq ⟨rfl, hw⟩; rw [hw]; clear hw)
          go_roundw
          case rel => exact R
          case measure => simp [intOf]; show m.natAbs / 10 < m.natAbs; omega
      · have hpos : 0 < m := by omega
        have hz : (str t).size ≤ 922337203685477580 := by rw [str_size]; omega
        have hcv := fun W => run_one_string (P := Tryz.prog) W 22 9 5 (figI (m % 10)) (by unfold figI; split <;> omega) (by unfold figI; split <;> omega) Tryz.underlying22 Tryz.underlying5 Tryz.underlying9
        have hadd := fun W => run_add_str (P := Tryz.prog) W [byteI (figI (m % 10))] t (by simp; omega)
        have R := decRel_step (m' := m / 10) (x := m % 10) hm (by omega) (by omega) HD.out (by omega) (by omega) hbel hsz (.cells #[.int .u8 (figI (m % 10))] 5)
        go_wp2_with (go_at_call 97; refine (fig_any _ _ (by omega) (by omega)).mono ?_; rintro e wq ⟨rfl, hw⟩; rw [hw]; clear hw)
        go_roundw
        case rel => exact R
        case measure => simp [intOf]; omega

theorem specDec_any (n : Int) (w : World) (h0 : -9223372036854775808 ≤ n) (h1 : n ≤ 9223372036854775807) :
    Calls Tryz.prog 87 #[.int .i64 n] w fun e w' => e = .returned (.string (str (Lib.itoa n))) ∧ Below w.heap.size w w' := by
  by_cases hn : n = 0
  · subst hn
    rw [itoa_zero]
    go_enter Tryz.func87, Tryz.ntmps87
    go_wp2
    go_ret
    exact ⟨rfl, Below.refl _ _⟩
  · exact specDec_pos n w h0 h1 hn

end Go.Proofs.YtllfmobjkppnaaaGreat
