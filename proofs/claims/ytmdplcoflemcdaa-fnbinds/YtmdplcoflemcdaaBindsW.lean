/- FnBinds, walked. -/
import Derived.Test.YtmdplcoflemcdaaBNI
import Derived.Test.YtmdplcoflemcdaaPlaces
import Derived.Test.YtmdplcoflemcdaaDec
namespace Go.Proofs.Ytmdplcoflemcdaa
open Go.RowKit
set_option linter.unusedVariables false

set_option maxHeartbeats 800000 in
set_option maxRecDepth 100000 in
theorem pickB_any (P : ByteArray → Prop) (W : World) (v : Value) (n g m gl cap : Nat) (w : World) (hn : n ≤ 1000000000000) (hcode : CodeRow W v n) (hc : Cur W v n g w) (hm : 0 < m) (hm1 : m ≤ 4294967296) (hne : gl ≠ g)
    (hl : ∀ i, i < m → ∃ y : ByteArray, w.cell? ⟨gl, i, none⟩ = some (.string y) ∧ P y) :
    Calls Try.prog 26 #[.pointer (some ⟨g, 0, none⟩), .slice (some ⟨gl, 0, none⟩) m cap] w fun e w' =>
      ∃ y : ByteArray, e = .returned (.string y) ∧ P y ∧ Went W v n g w w' := by
  have HC : Hid (CodeRow W v n) := hcode
  have HW : Hid (Cur W v n g w) := hc
  have HL : Hid (∀ i, i < m → ∃ y : ByteArray, w.cell? ⟨gl, i, none⟩ = some (.string y) ∧ P y) := hl
  clear hcode hc hl
  go_enter Try.func26, Try.ntmps26
  go_wp2_with fail
  refine (below_any W v n g m _ hn HC.out HW.out (by omega) (by omega)).mono ?_
  rintro e w1 ⟨x, rfl, ⟨x0, x1⟩, hw1⟩
  have H1 : Hid (Went W v n g w w1) := hw1
  clear hw1
  obtain ⟨k, rfl⟩ := Int.eq_ofNat_of_zero_le x0
  obtain ⟨y, hy, hp⟩ := HL.out k (by omega)
  have HP : Hid (P y) := hp
  have hy1 : w1.cell? ⟨gl, k, none⟩ = some (.string y) := H1.out.2.cell hy (fun e => hne (Option.some.inj e))
  clear hy hp
  go_wp2
  go_ret
  exact ⟨_, rfl, HP.out, H1.out⟩

def nine9 : List ByteArray := [⟨#[]⟩, ⟨#[48]⟩, ⟨#[55]⟩, ⟨#[49, 50]⟩, ⟨#[48, 55]⟩, ⟨#[49, 50, 51]⟩, ⟨#[97]⟩, ⟨#[49, 97]⟩, ⟨#[97, 98, 99, 100]⟩]
theorem nine_size : ∀ (l : ByteArray) (hl : l.size ≤ 1048576), ∀ s ∈ nine9 ++ [l], s.size ≤ 1048576 := by
  intro l hl s hs
  simp only [nine9, List.cons_append, List.nil_append, List.mem_cons, List.not_mem_nil, or_false] at hs
  rcases hs with rfl | rfl | rfl | rfl | rfl | rfl | rfl | rfl | rfl | rfl
  all_goals first | decide | exact hl
theorem litB_row (w : World) (vs : List Value) (t : TypeId) (i : Nat) (h : i < vs.length) : (w.alloc (.cells vs.toArray t)).cell? ⟨w.heap.size, i, none⟩ = some vs[i] := by
  have hb : (w.alloc (.cells vs.toArray t)).heap[w.heap.size]? = some (.cells vs.toArray t) := heap_alloc_new w _
  rw [cell_of_row _ _ i _ _ _ hb]
  simp [h]

set_option maxHeartbeats 1600000 in
set_option maxRecDepth 100000 in
theorem drawBindNum_any (W : World) (v : Value) (n : Nat) (w : World) (hn : n ≤ 1000000000000) (hcode : CodeRow W v n) (hb : Below W.heap.size W w) :
    Calls Try.prog 14 #[v] w fun e w' => ∃ s : ByteArray, e = .returned (.string s) ∧ s.size ≤ 1048576 ∧ Below w.heap.size w w' := by
  have HC : Hid (CodeRow W v n) := hcode
  have HB : Hid (Below W.heap.size W w) := hb
  obtain ⟨a, cap, rfl⟩ := hcode.slice
  clear hcode hb
  go_enter Try.func14, Try.ntmps14
  go_wp2_with fail
  refine (new_any W _ n _ hn HC.out HB.out).mono ?_
  rintro e w1 ⟨g, rfl, hc1, hb1, hg1⟩
  have B1 : Hid (Below w.heap.size w w1) := hb1
  have C1 : Hid (Cur W (.slice a n cap) n g w1) := hc1
  clear hb1 hc1
  go_wp2_with fail
  refine (below_any W _ n g 3 _ hn HC.out C1.out (by omega) (by omega)).mono ?_
  rintro e w2 ⟨x, rfl, ⟨x0, x1⟩, hw2⟩
  have C2 : Hid (Cur W (.slice a n cap) n g w2) := hw2.1
  have B2 : Hid (Below w.heap.size w w2) := B1.out.trans (went_bel hw2 B1.out.size hg1)
  clear hw2
  have wx : IntKind.i64.wrap (99 + x) = 99 + x := by rw [IntKind.wrap_i64]; omega
  go_wp2_with fail
  refine (long_int (99 + x) 97 _ (by omega) (by omega) (by omega) (by omega)).mono ?_
  rintro e w3 ⟨l, rfl, hl, hb3⟩
  have C3 : Hid (Went W (.slice a n cap) n g w2 w3) := went_below C2.out hb3
  have B3 : Hid (Below w.heap.size w w3) := B2.out.trans (hb3.mono B2.out.size)
  have hgw : g < w3.heap.size := C3.out.1.lt
  have hls : (str l).size ≤ 1048576 := by
    have : (str l).size = l.length := by simp [str, ByteArray.size]
    omega
  clear hb3
  generalize str l = sl at *
  have HA : Hid (Went W (.slice a n cap) n g w3 (w3.alloc (.cells ((nine9 ++ [sl]).map Value.string).toArray 9))) := went_alloc C3.out.1 _
  have HL : Hid (∀ i, i < 10 → ∃ y : ByteArray, (w3.alloc (.cells ((nine9 ++ [sl]).map Value.string).toArray 9)).cell? ⟨w3.heap.size, i, none⟩ = some (.string y) ∧ y.size ≤ 1048576) := fun i hi => by
    refine ⟨(nine9 ++ [sl])[i]'(by simpa [nine9] using hi), ?_, nine_size sl hls _ (List.getElem_mem _)⟩
    rw [litB_row w3 ((nine9 ++ [sl]).map Value.string) 9 i (by simpa [nine9] using hi), List.getElem_map]
  go_wp2_with fail
  refine (pickB_any (fun y => y.size ≤ 1048576) W _ n g 10 w3.heap.size 10 _ hn HC.out HA.out.1 (by omega) (by omega) (by omega) HL.out).mono ?_
  rintro e w4 ⟨y, rfl, hy, hw4⟩
  have B4 : Hid (Below w.heap.size w w4) := B3.out.trans (went_bel (went_trans HA.out hw4) B3.out.size hg1)
  clear hw4
  go_wp2
  go_ret
  exact ⟨y, rfl, hy, B4.out⟩

theorem min2_any (x y : Int) (w : World) : Calls Try.prog 18 #[.int .i64 x, .int .i64 y] w fun e w' => e = .returned (.int .i64 (if x < y then x else y)) ∧ w' = w := by
  by_cases h : x < y
  · rw [if_pos h]
    go_enter Try.func18, Try.ntmps18
    go_wp2
    go_ret
    exact ⟨rfl, rfl⟩
  · rw [if_neg h]
    go_enter Try.func18, Try.ntmps18
    go_wp2
    go_ret
    exact ⟨rfl, rfl⟩
def exes (k : Nat) : ByteArray := ⟨(List.replicate k (120 : UInt8)).toArray⟩
theorem exes_next (k : Nat) : exes k ++ ⟨#[120]⟩ = exes (k + 1) := by
  apply ByteArray.ext
  rw [ByteArray.data_append]
  simp only [exes]
  rw [← Array.toList_inj]
  simp [List.replicate_succ']
theorem exes_size (k : Nat) : (exes k).size = k := by simp [exes, ByteArray.size]
set_option maxHeartbeats 800000 in
theorem rowX_any (m : Nat) (w : World) (hm : m ≤ 1000) : Calls Try.prog 17 #[.int .i64 m, .string ⟨#[120]⟩] w fun e w' => e = .returned (.string (exes m)) ∧ w' = w := by
  go_enter Try.func17, Try.ntmps17
  go_wp2
  go_loopw [5, 6] (fun sv iv wr => ∃ k : Nat, iv = .int .i64 k ∧ k ≤ m ∧ sv = .string (exes k) ∧ wr = w) (fun _ iv _ => m - (intOf iv).toNat)
  case atStart => exact ⟨0, rfl, Nat.zero_le _, rfl, rfl⟩
  case round =>
    obtain ⟨k, rfl, hk, rfl, hwr⟩ := hrel
    rw [hwr]
    clear hwr
    by_cases hlt : k < m
    · have hadd := fun W => run_string_add_sum (P := Try.prog) (w := W) (exes k) (⟨#[120]⟩ : ByteArray) (by rw [exes_size]; show k + 1 ≤ _; omega)
      rw [exes_next] at hadd
      have i4 : (k : Int) < (m : Int) := by omega
      generalize exes k = ek at *
      generalize hek : exes (k + 1) = ek1 at *
      go_wp2
      go_roundw
      case rel => exact ⟨k + 1, by go_num, by omega, by rw [hek], (by first | rfl | trivial)⟩
      case measure => simp [intOf]; omega
    · obtain rfl : k = m := by omega
      go_wp2
      go_ret
      exact ⟨rfl, rfl⟩

theorem dec_back : ∀ m : Fin 100, bindNum (str (Lib.itoa (m.1 : Int))) = (m.1 : Int) := by decide +kernel
theorem exes_back : ∀ m : Fin 120, bindNum (exes m.1) = if (m.1 : Int) < 99 then (m.1 : Int) else 99 := by decide +kernel

theorem bigB_any (a : Option Addr) (n cap : Nat) (w : World) :
    Calls Try.prog 5 #[.slice a n cap] w fun e w' => e = .returned (.bool (decide (1048576 < (n : Int)))) ∧ w' = w := by
  go_enter Try.func5, Try.ntmps5
  go_wp2
  go_ret
  exact ⟨rfl, rfl⟩
theorem keepC {W W' : World} {a : Addr} {v : Value} (h : W.cell? a = some v) (hb : Below W.heap.size W W') : W'.cell? a = some v :=
  (World.cell?_of_block (hb.block a.block (World.block_lt_of_cell? W a h))).trans h
theorem keepB {W W' : World} {a b : Addr} {x y : Value} (h : W.cell? a = some x ∧ W.cell? b = some y) (hb : Below W.heap.size W W') : W'.cell? a = some x ∧ W'.cell? b = some y := ⟨keepC h.1 hb, keepC h.2 hb⟩

set_option maxHeartbeats 6400000 in
set_option maxRecDepth 100000 in
theorem fnBinds_walk (a : Option Addr) (n cap : Nat) (w : World) (hcode : CodeRow w (.slice a n cap) n) :
    Calls Try.prog 4 #[.slice a n cap] w fun e w' => e = .returned (.bool true) ∧ Below w.heap.size w w' := by
  have HC : Hid (CodeRow w (.slice a n cap) n) := hcode
  clear hcode
  by_cases hn : n ≤ 1048576
  · have hd : decide (1048576 < (n : Int)) = false := by simp; omega
    go_enter Try.func4, Try.ntmps4
    go_wp2_with fail
    refine (bigB_any a n cap _).mono ?_
    rintro e wq ⟨rfl, hw⟩
    rw [hw, hd]
    clear hw wq
    go_wp2_with fail
    refine (drawPlaces_any w _ n _ (by omega) HC.out (Below.refl _ _)).mono ?_
    rintro e w1 ⟨p, rfl, hp1, hb1⟩
    have B1 : Hid (Below w.heap.size w w1) := hb1
    have P1 : Hid (Places w.heap.size p w1) := hp1
    obtain ⟨gp, capp, f, rfl, _, hcap, _⟩ := hp1.at
    clear hp1 hb1
    go_wp2_with fail
    refine (drawBindNum_any w _ n _ (by omega) HC.out B1.out).mono ?_
    rintro e w2 ⟨s, rfl, hsz, hb2⟩
    have B2 : Hid (Below w.heap.size w w2) := B1.out.trans (hb2.mono B1.out.size)
    have P2 : Hid (Places w.heap.size (.slice (some ⟨gp, 0, none⟩) 12 capp) w2) := places_below P1.out hb2
    clear hb2 P1 B1
    obtain ⟨gp', capp', f', hge, _, _, hf⟩ := P2.out.at
    cases hge
    obtain ⟨q0, q1, c0⟩ := hf 0 (by omega)
    obtain ⟨s0, s1, c1⟩ := hf 1 (by omega)
    clear hf P2
    generalize f' 0 = y0 at *
    generalize f' 1 = y1 at *
    obtain ⟨m0, hm0⟩ : ∃ m : Nat, (y0 % 100) = (m : Int) ∧ m < 100 := ⟨(y0 % 100).toNat, by omega, by omega⟩
    obtain ⟨m1, hm1⟩ : ∃ m : Nat, (y1 % 120) = (m : Int) ∧ m < 120 := ⟨(y1 % 120).toNat, by omega, by omega⟩
    obtain ⟨e0, l0⟩ := hm0
    obtain ⟨e1, l1⟩ := hm1
    have t0 : y0.tmod 100 = (m0 : Int) := by rw [Int.tmod_eq_emod_of_nonneg q0]; exact e0
    have t1 : y1.tmod 120 = (m1 : Int) := by rw [Int.tmod_eq_emod_of_nonneg s0]; exact e1
    have HD : Hid (∀ W, Calls Try.prog 16 #[.int .i64 m0] W fun e w' => e = .returned (.string (str (Lib.itoa (m0 : Int)))) ∧ Below W.heap.size W w') := fun W => specDec_any m0 W (by omega) (by omega)
    have hds : (str (Lib.itoa (m0 : Int))).size ≤ 1048576 := by
      have : ∀ m : Fin 100, (str (Lib.itoa (m.1 : Int))).size ≤ 2 := by decide +kernel
      have := this ⟨m0, l0⟩
      simp only at this
      omega
    have HRow : Hid (∀ W, _) := fun W => rowX_any m1 W (by omega)
    have HM : Hid (∀ W, _) := fun W => min2_any (m1 : Int) 99 W
    obtain ⟨bn, hbn⟩ : ∃ f : ByteArray → Int, f = bindNum := ⟨_, rfl⟩
    have k0 : bn (str (Lib.itoa (m0 : Int))) = (m0 : Int) := by rw [hbn]; exact dec_back ⟨m0, l0⟩
    have k1 : bn (exes m1) = (if (m1 : Int) < 99 then (m1 : Int) else 99) := by rw [hbn]; exact exes_back ⟨m1, l1⟩
    have k2 : bn ⟨#[49, 50, 51]⟩ = 3 := by rw [hbn]; decide +kernel
    have k3 : bn ⟨#[48, 55]⟩ = 7 := by rw [hbn]; decide +kernel
    have k4 : bn ⟨#[]⟩ = 0 := by rw [hbn]; decide +kernel
    have HI : Hid (∀ t W, t.size ≤ 1048576 → Calls Try.prog 15 #[.string t] W fun e w' => e = .returned (.int .i64 (bn t)) ∧ w' = W) := fun t W ht => by rw [hbn]; exact implBindNum_any t W ht
    have HT : Hid (∀ W, Calls Try.prog 19 #[.string s] W fun e w' => e = .returned (.int .i64 (bn s)) ∧ w' = W) := fun W => by rw [hbn]; exact bindNum_any s W hsz
    have hsx : (exes m1).size ≤ 1048576 := by rw [exes_size]; omega
    clear hbn
    generalize str (Lib.itoa (m0 : Int)) = sd at *
    generalize exes m1 = sx at *
    generalize (if (m1 : Int) < 99 then (m1 : Int) else 99) = mm at *
    clear e0 e1
    go_wp2
    go_region_held3 (fun W => W.cell? ⟨gp, 0, none⟩ = some (.int .i64 y0) ∧ W.cell? ⟨gp, 1, none⟩ = some (.int .i64 y1))
      ((first | exact keepB (by assumption) hb3 | go_keep))
      ((first
        | (go_at_call 16; refine (HD.out _).mono ?_; rintro e w3 ⟨rfl, hb3⟩)
        | (go_at_call 17; refine (HRow.out _).mono ?_; rintro e wq ⟨rfl, hw⟩; rw [hw]; clear hw)
        | (go_at_call 18; refine (HM.out _).mono ?_; rintro e wq ⟨rfl, hw⟩; rw [hw]; clear hw)
        | (go_at_call 19; refine (HT.out _).mono ?_; rintro e wq ⟨rfl, hw⟩; rw [hw]; clear hw)
        | (go_at_call 15; refine (HI.out _ _ (by first | assumption | decide)).mono ?_; rintro e wq ⟨rfl, hw⟩; rw [hw]; clear hw)))
    have HB : Hid (Below w.heap.size w w3) := B2.out.trans ((bel_of_drew hb3).mono B2.out.size)
    clear hb3
    go_wp2
    go_ret
    exact ⟨by simp, HB.out⟩
  · have hd : decide (1048576 < (n : Int)) = true := by simp; omega
    go_enter Try.func4, Try.ntmps4
    go_wp2_with fail
    refine (bigB_any a n cap _).mono ?_
    rintro e wq ⟨rfl, hw⟩
    rw [hw, hd]
    clear hw wq
    go_wp2
    go_ret
    exact ⟨rfl, Below.refl _ _⟩
end Go.Proofs.Ytmdplcoflemcdaa
