/- The verifier's drawn texts of tokens. -/
import Derived.Test.YtoldlbefddhhbaaTkD
import Derived.Deep.RegionHeld3
namespace Go.Proofs.Ytoldlbefddhhbaa
open Go.RowKit
set_option linter.unusedVariables false

theorem went_below2 {W : World} {v : Value} {n g : Nat} {w w1 w2 : World} (h : Went W v n g w w1) (hb : Below w1.heap.size w1 w2) : Went W v n g w w2 := went_trans h (went_below h.1 hb)
theorem cur_drew {W : World} {v : Value} {n g : Nat} {w : World} (h : Cur W v n g w) : Cur W v n g w.drew := ⟨⟨h.1.os, h.1.tape, h.1.output, h.1.size, h.1.block⟩, h.2⟩
theorem went_drew {W : World} {v : Value} {n g : Nat} {w w' : World} (h : Went W v n g w.drew w') : Went W v n g w w' := ⟨h.1, ⟨h.2.os, h.2.tape, h.2.output, h.2.size, h.2.block⟩⟩

set_option maxRecDepth 100000 in
theorem text11_any (W : World) (v : Value) (n g : Nat) (w : World) (hn : n ≤ 1000000000000) (hcode : CodeRow W v n) (hc : Cur W v n g w) :
    Calls Try.prog 20 #[.pointer (some ⟨g, 0, none⟩)] w fun e w' => ∃ s : ByteArray, e = .returned (.string s) ∧ s.size ≤ 200 ∧ Went W v n g w w' := by
  have HC : Hid (CodeRow W v n) := hcode
  have HW : Hid (Cur W v n g w) := hc
  clear hcode hc
  go_enter Try.func20, Try.ntmps20
  go_wp2_with fail
  refine (below_any W v n g 13 _ hn HC.out HW.out (by omega) (by omega)).mono ?_
  rintro e w1 ⟨x, rfl, ⟨x0, x1⟩, hw1⟩
  have H1 : Hid (Went W v n g w w1) := hw1
  clear hw1
  go_wp2_with fail
  refine (split11_any x _ x0 x1).mono ?_
  rintro e w2 ⟨s, t, rfl, hs, ht, hb2⟩
  have H2 : Hid (Went W v n g w w2) := went_below2 H1.out hb2
  clear hb2
  go_wp2
  go_ret
  exact ⟨_, rfl, hs, H2.out⟩

set_option maxHeartbeats 1600000 in
set_option maxRecDepth 100000 in
theorem spoilt_any (W : World) (v : Value) (n g : Nat) (s : ByteArray) (w : World) (hs : s.size ≤ 1000000) (hn : n ≤ 1000000000000) (hcode : CodeRow W v n) (hc : Cur W v n g w) :
    Calls Try.prog 21 #[.pointer (some ⟨g, 0, none⟩), .string s] w fun e w' => ∃ t : ByteArray, e = .returned (.string t) ∧ t.size ≤ s.size + 1 ∧ Went W v n g w w' := by
  have HC : Hid (CodeRow W v n) := hcode
  have HW : Hid (Cur W v n g w) := hc
  clear hcode hc
  go_enter Try.func21, Try.ntmps21
  go_wp2_with fail
  refine (below_any W v n g 12 _ hn HC.out HW.out (by omega) (by omega)).mono ?_
  rintro e w1 ⟨x, rfl, ⟨x0, x1⟩, hw1⟩
  have H1 : Hid (Went W v n g w w1) := hw1
  clear hw1
  by_cases c0 : x = 0
  · subst c0
    go_wp2_with fail
    refine (text_any W v n g 1 _ hn HC.out H1.out.1 (by omega)).mono ?_
    rintro e w2 ⟨l, rfl, hl, hw2⟩
    have H2 : Hid (Went W v n g w w2) := went_trans H1.out hw2
    have hl1 : (str l).size = 1 := by rw [str_size, hl]; rfl
    clear hw2 hl
    generalize str l = T at *
    go_wp2
    go_ret
    exact ⟨_, rfl, by rw [ByteArray.size_append]; omega, H2.out⟩
  by_cases c1 : x = 1
  · subst c1
    go_wp2_with fail
    refine (below_any W v n g ((s.size : Int) + 1) _ hn HC.out H1.out.1 (by omega) (by omega)).mono ?_
    rintro e w2 ⟨k, rfl, ⟨k0, k1⟩, hw2⟩
    have H2 : Hid (Went W v n g w w2) := went_trans H1.out hw2
    clear hw2
    obtain ⟨j, rfl⟩ := Int.eq_ofNat_of_zero_le k0
    go_wp2
    go_ret
    exact ⟨_, rfl, by rw [ByteArray.size_extract]; omega, H2.out⟩
  by_cases c2 : (x = 2 ∨ x = 3) ∧ 0 < s.size
  · have d : (0 : Int) < (s.size : Int) := by omega
    have HT : Hid (∀ X : World, Cur W v n g X → _) := fun X hX => text_any W v n g 1 X hn HC.out hX (by omega)
    rcases c2 with ⟨rfl | rfl, c3⟩
    all_goals
      go_wp2_with fail
      refine (below_any W v n g (s.size : Int) _ hn HC.out H1.out.1 (by omega) (by omega)).mono ?_
      rintro e w2 ⟨k, rfl, ⟨k0, k1⟩, hw2⟩
      have H2 : Hid (Went W v n g w w2) := went_trans H1.out hw2
      have h2 : Cur W v n g w2.drew := cur_drew hw2.1
      clear hw2
      obtain ⟨j, rfl⟩ := Int.eq_ofNat_of_zero_le k0
      have hj : j < s.size := by omega
      have i1 : (0 : Int) ≤ (j : Int) := by omega
      have i2 : (j : Int) ≤ (s.size : Int) := by omega
      have i3 : (j : Int) + 1 ≤ (s.size : Int) := by omega
      have i4 : (0 : Int) ≤ (j : Int) + 1 := by omega
      have i5 : IntKind.i64.wrap ((j : Int) + 1) = (j : Int) + 1 := by rw [IntKind.wrap_i64]; omega
      have i6 : j ≤ s.size := by omega
      have i7 : j + 1 ≤ s.size := by omega
      obtain ⟨A, hA⟩ : ∃ A, s.extract 0 j = A := ⟨_, rfl⟩
      obtain ⟨C, hC⟩ : ∃ C, s.extract (j + 1) s.size = C := ⟨_, rfl⟩
      have hA1 : A.size = j := by rw [← hA, ByteArray.size_extract]; omega
      have hC1 : C.size = s.size - (j + 1) := by rw [← hC, ByteArray.size_extract]; omega
      have q1 : ¬ 9223372036854775807 < j + 1 := by omega
      have q2 : ¬ 9223372036854775807 < j + 1 + (s.size - (j + 1)) := by omega
      go_wp2
      go_region_held3 (fun X => Cur W v n g X) ((first | assumption | exact hw3.1))
        ((first | (go_at_call 37; refine (HT.out _ (by assumption)).mono ?_; rintro e w3 ⟨l, rfl, hl, hw3⟩; have hl1 : (str l).size = 1 := (by rw [str_size, hl]; rfl); clear hl; generalize str l = T at *; have hr := fun W => run_string_add_sum (P := Try.prog) W (A ++ T) C (by rw [ByteArray.size_append]; omega))))
      go_wp2
      go_ret
      exact ⟨_, rfl, by simp only [ByteArray.size_append, hA1, hC1, hl1]; omega, went_trans H2.out (went_drew hw3)⟩
  · by_cases c3 : x = 2 ∨ x = 3
    · have d : ¬ (0 : Int) < (s.size : Int) := by omega
      rcases c3 with rfl | rfl
      all_goals
        go_wp2
        go_ret
        exact ⟨_, rfl, by omega, H1.out⟩
    · have d2 : ¬ x = 2 := fun h => c3 (.inl h)
      have d3 : ¬ x = 3 := fun h => c3 (.inr h)
      go_wp2
      go_ret
      exact ⟨_, rfl, by omega, H1.out⟩

end Go.Proofs.Ytoldlbefddhhbaa
