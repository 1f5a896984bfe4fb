/- FnTokenFaults, walked out of a contract on the program's Tokens. -/
import Derived.Test.YtoldlbefddhhbaaTkE
import Derived.Test.YtoldlbefddhhbaaTkT
import Derived.Test.YtoldlbefddhhbaaS10Q
namespace Go.Proofs.Ytoldlbefddhhbaa
open Go.RowKit
set_option linter.unusedVariables false

set_option maxHeartbeats 800000 in
set_option maxRecDepth 100000 in
theorem pickT_any (P : ByteArray → Prop) (W : World) (v : Value) (n g m gl cap : Nat) (w : World) (hn : n ≤ 1000000000000) (hcode : CodeRow W v n) (hc : Cur W v n g w) (hm : 0 < m) (hm1 : m ≤ 4294967296) (hne : gl ≠ g)
    (hl : ∀ i, i < m → ∃ y : ByteArray, w.cell? ⟨gl, i, none⟩ = some (.string y) ∧ P y) :
    Calls Try.prog 19 #[.pointer (some ⟨g, 0, none⟩), .slice (some ⟨gl, 0, none⟩) m cap] w fun e w' =>
      ∃ y : ByteArray, e = .returned (.string y) ∧ P y ∧ Went W v n g w w' := by
  have HC : Hid (CodeRow W v n) := hcode
  have HW : Hid (Cur W v n g w) := hc
  have HL : Hid (∀ i, i < m → ∃ y : ByteArray, w.cell? ⟨gl, i, none⟩ = some (.string y) ∧ P y) := hl
  clear hcode hc hl
  go_enter Try.func19, Try.ntmps19
  go_wp2_with fail
  refine (below_any W v n g m _ hn HC.out HW.out (by omega) (by omega)).mono ?_
  rintro e w1 ⟨x, rfl, ⟨x0, x1⟩, hw1⟩
  have H1 : Hid (Went W v n g w w1) := hw1
  clear hw1
  obtain ⟨k, rfl⟩ := Int.eq_ofNat_of_zero_le x0
  obtain ⟨y, hy, hp⟩ := HL.out k (by omega)
  have HP : Hid (P y) := hp
  have hy1 : w1.cell? ⟨gl, k, none⟩ = some (.string y) := H1.out.2.cell hy (fun e => hne (Option.some.inj e))
  clear hy hp
  go_wp2
  go_ret
  exact ⟨_, rfl, HP.out, H1.out⟩

theorem texts_rowN (w : World) (cs : Array Value) (t : TypeId) (m k : Nat) (hk : k = cs.size) (h : textsIn m cs = true) : ∀ i, i < k → ∃ y : ByteArray, (w.alloc (.cells cs t)).cell? ⟨w.heap.size, i, none⟩ = some (.string y) ∧ y.size ≤ m := fun i hi => texts_row w cs t m h i (by omega)

set_option maxHeartbeats 1600000 in
set_option maxRecDepth 100000 in
theorem drawTokens_any (W : World) (v : Value) (n : Nat) (w : World) (hn : n ≤ 1000000000000) (hcode : CodeRow W v n) (hb : Below W.heap.size W w) :
    Calls Try.prog 11 #[v] w fun e w' => ∃ s : ByteArray, e = .returned (.string s) ∧ s.size ≤ 1000 ∧ Below w.heap.size w w' := by
  have HC : Hid (CodeRow W v n) := hcode
  have HB : Hid (Below W.heap.size W w) := hb
  clear hcode hb
  go_enter Try.func11, Try.ntmps11
  go_wp2_with fail
  refine (new_any W v n _ hn HC.out HB.out).mono ?_
  rintro e w1 ⟨g, rfl, hc1, hb1, hg⟩
  have H1 : Hid (Cur W v n g w1) := hc1
  have B1 : Hid (Below w.heap.size w w1) := hb1
  clear hc1 hb1
  go_wp2_with fail
  refine (below_any W v n g 6 _ hn HC.out H1.out (by omega) (by omega)).mono ?_
  rintro e w2 ⟨k, rfl, ⟨k0, k1⟩, hw2⟩
  have H2 : Hid (Cur W v n g w2) := hw2.1
  have B2 : Hid (Below w.heap.size w w2) := B1.out.trans (went_bel hw2 B1.out.size hg)
  clear hw2
  go_wp2_with fail
  refine (pickT_any (fun y => y.size ≤ 20) W v n g 12 w2.heap.size 12 _ hn HC.out (went_alloc H2.out _).1 (by omega) (by omega) (by have := H2.out.lt; omega) (texts_rowN w2 _ _ 20 12 rfl (by decide +kernel))).mono ?_
  rintro e w3 ⟨y, rfl, hy, hw3⟩
  have H3 : Hid (Cur W v n g w3) := hw3.1
  have B3 : Hid (Below w.heap.size w w3) := B2.out.trans (went_bel (went_trans (went_alloc H2.out _) hw3) B2.out.size hg)
  clear hw3
  go_wp2_with fail
  refine (text11_any W v n g _ hn HC.out H3.out).mono ?_
  rintro e w4 ⟨s, rfl, hs, hw4⟩
  have H4 : Hid (Cur W v n g w4) := hw4.1
  have B4 : Hid (Below w.heap.size w w4) := B3.out.trans (went_bel hw4 B3.out.size hg)
  clear hw4
  have hy' : y.size ≤ 20 := hy
  clear hy
  by_cases c0 : k = 0
  · subst c0
    go_wp2_with fail
    refine (spoilt_any W v n g s _ (by omega) hn HC.out H4.out).mono ?_
    rintro e w5 ⟨t, rfl, ht, hw5⟩
    have B5 : Hid (Below w.heap.size w w5) := B4.out.trans (went_bel hw5 B4.out.size hg)
    clear hw5
    go_wp2
    go_ret
    exact ⟨_, rfl, by omega, B5.out⟩
  by_cases c1 : k = 1
  · subst c1
    have hr := fun W => run_string_add_sum (P := Try.prog) W s y (by omega)
    go_wp2
    go_ret
    exact ⟨_, rfl, by rw [ByteArray.size_append]; omega, B4.out⟩
  by_cases c2 : k = 2
  · subst c2
    have ht : ((s.size : Int)).tmod 600 = (s.size : Int) := by rw [Int.tmod_eq_emod_of_nonneg (by omega)]; omega
    go_wp2_with fail
    refine (below_any W v n g 2 _ hn HC.out H4.out (by omega) (by omega)).mono ?_
    rintro e w5 ⟨x, rfl, ⟨x0, x1⟩, hw5⟩
    have H5 : Hid (Cur W v n g w5) := hw5.1
    have B5 : Hid (Below w.heap.size w w5) := B4.out.trans (went_bel hw5 B4.out.size hg)
    clear hw5
    go_wp2_with fail
    refine (long_int _ 32 _ (by omega) (by omega) (by omega) (by omega)).mono ?_
    rintro e w6 ⟨l, rfl, hl, hb6⟩
    have B6 : Hid (Below w.heap.size w w6) := B5.out.trans (hb6.mono B5.out.size)
    have hl1 : (str l).size ≤ 601 := by rw [str_size]; omega
    clear hb6 hl
    generalize str l = T at *
    have hr := fun W => run_string_add_sum (P := Try.prog) W s T (by omega)
    go_wp2
    go_ret
    exact ⟨_, rfl, by rw [ByteArray.size_append]; omega, B6.out⟩
  · go_wp2
    go_ret
    exact ⟨_, rfl, by omega, B4.out⟩

end Go.Proofs.Ytoldlbefddhhbaa
