/- What the verifier's draw of bytes for a set answers; the laws' helpers; what a told set is, read again. -/
import Derived.Test.YtokgkjfgknjbbaaDoorSetDraw
import Derived.Test.YtokgkjfgknjbbaaDoorSetSpec4
import Derived.Test.YtokgkjfgknjbbaaDoorSetTold2
namespace Go.Proofs.YtokgkjfgknjbbaaDoor
open Go.RowKit

theorem big5_any (a : Option Addr) (n cap : Nat) (w : World) :
    Calls Tryd.prog 8 #[.slice a n cap] w fun e w' => e = .returned (.bool (decide (1048576 < (n : Int)))) ∧ w' = w := by
  go_enter Tryd.func8, Tryd.ntmps8
  go_wp2
  go_ret
  exact ⟨rfl, rfl⟩

set_option maxHeartbeats 800000 in
theorem byteIn_any (t : ByteArray) (b : Nat) (_hb : b < 256) (w : World) (ht : t.size ≤ 1048576) :
    Calls Tryd.prog 22 #[.string t, .int .u8 b] w fun e w' => e = .returned (.bool (memB t.data.toList b)) ∧ w' = w := by
  have HL : Hid (t.data.toList.length = t.size) := by simp [Hid]
  go_enter Tryd.func22, Tryd.ntmps22
  go_wp2
  go_loopw [5] (fun iv wr => ∃ k : Nat, iv = .int .i64 k ∧ k ≤ t.size ∧ memB (t.data.toList.take k) b = false ∧ wr = w) (fun iv _ => t.size - (intOf iv).toNat)
  case atStart => exact ⟨0, rfl, Nat.zero_le _, rfl, rfl⟩
  case round =>
    obtain ⟨k, rfl, hk, hno, hwr⟩ := hrel
    rw [hwr]
    clear hwr
    have HN : Hid (memB (t.data.toList.take k) b = false) := hno
    clear hno
    by_cases hlt : k < t.size
    · have hu := t[k].toNat_lt
      by_cases he : t[k].toNat = b
      · have HV : Hid (memB t.data.toList b = true) := by
          rw [Hid, memB, List.any_eq_true]
          exact ⟨t.data.toList[k]'(by rw [HL.out]; exact hlt), List.getElem_mem _, by rw [beq_iff_eq]; exact he⟩
        have he' : ((t[k].toNat : Int) == (b : Int)) = true := by rw [he]; simp
        clear he
        go_wp2
        go_ret
        rw [HV.out]
        exact ⟨rfl, rfl⟩
      · have HN2 : Hid (memB (t.data.toList.take (k + 1)) b = false) := by
          rw [Hid, List.take_succ_eq_append_getElem (by rw [HL.out]; exact hlt), memB_app]
          show (memB (t.data.toList.take k) b || memB [t.data.toList[k]'(by rw [HL.out]; exact hlt)] b) = false
          rw [HN.out, Bool.false_or]
          simp only [memB, List.any_cons, List.any_nil, Bool.or_false]
          rw [beq_eq_false_iff_ne]
          exact he
        have he' : ((t[k].toNat : Int) == (b : Int)) = false := by
          rw [beq_eq_false_iff_ne]
          omega
        clear he
        go_wp2
        go_roundw
        case rel => exact ⟨k + 1, by go_num, by omega, HN2.out, (by first | rfl | trivial)⟩
        case measure => simp [intOf]; omega
    · obtain rfl : k = t.size := by omega
      have HV : Hid (memB t.data.toList b = false) := by
        have := HN.out
        rwa [← HL.out, List.take_length] at this
      go_wp2
      go_ret
      rw [HV.out]
      exact ⟨rfl, rfl⟩

def ones10 : List ByteArray := [⟨#[97]⟩, ⟨#[98]⟩, ⟨#[99]⟩, ⟨#[100]⟩, ⟨#[120]⟩, ⟨#[48]⟩, ⟨#[49]⟩, ⟨#[50]⟩, ⟨#[57]⟩, ⟨#[122]⟩]
theorem ones10_size : ∀ s ∈ ones10, s.size ≤ 1 := by
  intro s hs
  simp only [ones10, List.mem_cons, List.not_mem_nil, or_false] at hs
  rcases hs with rfl | rfl | rfl | rfl | rfl | rfl | rfl | rfl | rfl | rfl <;> decide

set_option maxHeartbeats 1600000 in
set_option maxRecDepth 100000 in
theorem drawSetOf_any (W : World) (v : Value) (n : Nat) (w : World) (hn : n ≤ 1000000000000) (hcode : CodeRow W v n) (hb : Below W.heap.size W w) :
    Calls Tryd.prog 26 #[v] w fun e w' => ∃ t : ByteArray, e = .returned (.string t) ∧ t.size ≤ 40 ∧ Below w.heap.size w w' := by
  have HC : Hid (CodeRow W v n) := hcode
  have HB : Hid (Below W.heap.size W w) := hb
  clear hcode hb
  go_enter Tryd.func26, Tryd.ntmps26
  go_wp2_with fail
  refine (new_any W v n _ hn HC.out HB.out).mono ?_
  rintro e w1 ⟨g, rfl, hc1, hb1, hg⟩
  have H1 : Hid (Cur W v n g w1) := hc1
  have B1 : Hid (Below w.heap.size w w1) := hb1
  clear hc1 hb1
  go_wp2
  go_loopw [4, 5] (fun tv iv wr => ∃ (t : ByteArray) (k : Nat), tv = .string t ∧ iv = .int .i64 k ∧ k ≤ 9 ∧ t.size ≤ k ∧ Cur W v n g wr ∧ Below w.heap.size w wr) (fun _ iv _ => 9 - (intOf iv).toNat)
  case atStart => exact ⟨⟨#[]⟩, 0, rfl, rfl, by omega, by decide, H1.out, B1.out⟩
  case round =>
    obtain ⟨t, k, rfl, rfl, hk, hts, hcur, hbel⟩ := hrel
    have HCu : Hid (Cur W v n g wr) := hcur
    have HBr : Hid (Below w.heap.size w wr) := hbel
    clear hcur hbel H1 B1
    go_wp2_with fail
    refine (below_any W v n g 9 _ hn HC.out HCu.out (by omega) (by omega)).mono ?_
    rintro e w2 ⟨x, rfl, ⟨x0, x1⟩, hw2⟩
    have H2 : Hid (Cur W v n g w2) := hw2.1
    have B2 : Hid (Below w.heap.size w w2) := HBr.out.trans (went_bel hw2 HBr.out.size hg)
    have hg2 : g < w2.heap.size := hw2.1.lt
    clear hw2
    by_cases hlt : (k : Int) < x
    · have HA : Hid (Went W v n g w2 (w2.alloc (.cells (ones10.map Value.string).toArray 9))) := went_alloc H2.out _
      have HL : Hid (∀ i, i < 10 → ∃ y : ByteArray, (w2.alloc (.cells (ones10.map Value.string).toArray 9)).cell? ⟨w2.heap.size, i, none⟩ = some (.string y) ∧ y.size ≤ 1) := fun i hi => by
        refine ⟨ones10[i]'(by simpa [ones10] using hi), ?_, ones10_size _ (List.getElem_mem _)⟩
        rw [lit5_row w2 (ones10.map Value.string) 9 i (by simpa [ones10] using hi)]
        simp
      go_wp2_with fail
      refine (pick5_any (fun y => y.size ≤ 1) W v n g 10 w2.heap.size 10 _ hn HC.out HA.out.1 (by omega) (by omega) (by omega) HL.out).mono ?_
      rintro e w3 ⟨y, rfl, hy, hw3⟩
      have hw23 := went_trans HA.out hw3
      have H3 : Hid (Cur W v n g w3) := hw23.1
      have B3 : Hid (Below w.heap.size w w3) := B2.out.trans (went_bel hw23 B2.out.size hg)
      clear hw3 hw23 HA HL
      have hadd := fun W => run_string_add_sum (P := Tryd.prog) (w := W) t y (by omega)
      have HZ : Hid ((t ++ y).size ≤ k + 1) := by rw [Hid, ByteArray.size_append]; omega
      generalize t ++ y = ty at *
      go_wp2
      go_roundw
      case rel => exact ⟨ty, k + 1, rfl, by go_num, by omega, HZ.out, H3.out, B3.out⟩
      case measure => simp [intOf]; omega
    · go_wp2_with fail
      refine (once_any W v n g 8 _ hn HC.out H2.out (by omega) (by omega)).mono ?_
      rintro e w3 ⟨b, rfl, hw3⟩
      have H3 : Hid (Cur W v n g w3) := hw3.1
      have B3 : Hid (Below w.heap.size w w3) := B2.out.trans (went_bel hw3 B2.out.size hg)
      clear hw3
      have hadd := fun W => run_string_add_sum (P := Tryd.prog) (w := W) t ⟨#[65]⟩ (by show _ + 1 ≤ _; omega)
      have hadd2 := fun W => run_string_add_sum (P := Tryd.prog) (w := W) t ⟨#[97, 99, 101, 103, 105, 107, 109, 111, 113, 115, 117, 119, 121, 48, 50, 52, 54, 56]⟩ (by show _ + 18 ≤ _; omega)
      have hadd3 := fun W => run_string_add_sum (P := Tryd.prog) (w := W) (t ++ ⟨#[65]⟩) ⟨#[97, 99, 101, 103, 105, 107, 109, 111, 113, 115, 117, 119, 121, 48, 50, 52, 54, 56]⟩ (by rw [ByteArray.size_append]; show _ + 1 + 18 ≤ _; omega)
      have z1 : (t ++ ⟨#[65]⟩).size ≤ 40 := by rw [ByteArray.size_append]; show _ + 1 ≤ _; omega
      have z2 : (t ++ ⟨#[97, 99, 101, 103, 105, 107, 109, 111, 113, 115, 117, 119, 121, 48, 50, 52, 54, 56]⟩).size ≤ 40 := by rw [ByteArray.size_append]; show _ + 18 ≤ _; omega
      have z3 : (t ++ ⟨#[65]⟩ ++ ⟨#[97, 99, 101, 103, 105, 107, 109, 111, 113, 115, 117, 119, 121, 48, 50, 52, 54, 56]⟩).size ≤ 40 := by rw [ByteArray.size_append, ByteArray.size_append]; show _ + 1 + 18 ≤ _; omega
      cases b with
      | true =>
        generalize t ++ ⟨#[65]⟩ ++ ⟨#[97, 99, 101, 103, 105, 107, 109, 111, 113, 115, 117, 119, 121, 48, 50, 52, 54, 56]⟩ = t3 at *
        generalize t ++ ⟨#[65]⟩ = t1 at *
        go_wp2_with fail
        refine (once_any W v n g 8 _ hn HC.out H3.out (by omega) (by omega)).mono ?_
        rintro e w4 ⟨b2, rfl, hw4⟩
        have B4 : Hid (Below w.heap.size w w4) := B3.out.trans (went_bel hw4 B3.out.size hg)
        clear hw4
        cases b2 with
        | true =>
          go_wp2
          go_ret
          exact ⟨_, rfl, z3, B4.out⟩
        | false =>
          go_wp2
          go_ret
          exact ⟨_, rfl, z1, B4.out⟩
      | false =>
        generalize t ++ ⟨#[97, 99, 101, 103, 105, 107, 109, 111, 113, 115, 117, 119, 121, 48, 50, 52, 54, 56]⟩ = t2 at *
        go_wp2_with fail
        refine (once_any W v n g 8 _ hn HC.out H3.out (by omega) (by omega)).mono ?_
        rintro e w4 ⟨b2, rfl, hw4⟩
        have B4 : Hid (Below w.heap.size w w4) := B3.out.trans (went_bel hw4 B3.out.size hg)
        clear hw4
        cases b2 with
        | true =>
          go_wp2
          go_ret
          exact ⟨_, rfl, z2, B4.out⟩
        | false =>
          go_wp2
          go_ret
          exact ⟨_, rfl, by omega, B4.out⟩

/-- A set that is right has a byte. -/
theorem okL_some {l : List UInt8} (h : okL l = true) : 0 < (bytesB (inL l)).length := by
  cases hr : rowsL l with
  | none => rw [okL, hr] at h; cases h
  | some rs =>
    have hg := rowsL_good _ l (Nat.le_refl _) rs hr
    have hne : l ≠ [] := by
      rintro rfl
      cases h
    obtain ⟨p, hp⟩ := List.exists_mem_of_ne_nil rs (hg.2 hne)
    have h3 : inL l p.1 = true := by
      rw [inL, h, hr, Bool.true_and]
      exact (inR_iff _ _).2 ⟨p, hp, Nat.le_refl _, (hg.1 p hp).2.2.1⟩
    rw [← mem_bytes (inL_sup l), memB, List.any_eq_true] at h3
    obtain ⟨u, hu, _⟩ := h3
    exact List.length_pos_of_mem hu
theorem setOf_bytes {f : Nat → Bool} (hs : Sup f) : setOfP (bytesB f) = toldP f := by rw [setOfP, if_pos (bytes_ok hs), mem_bytes hs]
theorem join_self (a : List UInt8) (h : okL a = true) : joinP a a = toldP (inL a) := by
  rw [joinP, h, if_pos (by decide)]
  congr 1
  funext x
  exact Bool.or_self _
theorem okL_size {l : List UInt8} (h : okL l = true) : l.length ≤ 12 := by
  rw [okL, Bool.and_eq_true, Bool.and_eq_true] at h
  simpa using h.2.2

end Go.Proofs.YtokgkjfgknjbbaaDoor
