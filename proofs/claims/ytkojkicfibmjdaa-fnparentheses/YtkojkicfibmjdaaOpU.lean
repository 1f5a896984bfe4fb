/- The verifier's drawn text of operators (l13Text), and DrawOps. -/
import Derived.Test.YtkojkicfibmjdaaOpT
namespace Go.Proofs.Ytkojkicfibmjdaa
open Go.RowKit
set_option linter.unusedVariables false

set_option maxHeartbeats 800000 in
set_option maxRecDepth 100000 in
theorem pickU_any (P : ByteArray → Prop) (W : World) (v : Value) (n g m gl cap : Nat) (w : World) (hn : n ≤ 1000000000000) (hcode : CodeRow W v n) (hc : Cur W v n g w) (hm : 0 < m) (hm1 : m ≤ 4294967296) (hne : gl ≠ g)
    (hl : ∀ i, i < m → ∃ y : ByteArray, w.cell? ⟨gl, i, none⟩ = some (.string y) ∧ P y) :
    Calls Try.prog 40 #[.pointer (some ⟨g, 0, none⟩), .slice (some ⟨gl, 0, none⟩) m cap] w fun e w' =>
      ∃ y : ByteArray, e = .returned (.string y) ∧ P y ∧ Went W v n g w w' := by
  have HC : Hid (CodeRow W v n) := hcode
  have HW : Hid (Cur W v n g w) := hc
  have HL : Hid (∀ i, i < m → ∃ y : ByteArray, w.cell? ⟨gl, i, none⟩ = some (.string y) ∧ P y) := hl
  clear hcode hc hl
  go_enter Try.func40, Try.ntmps40
  go_wp2_with fail
  refine (below_any W v n g m _ hn HC.out HW.out (by omega) (by omega)).mono ?_
  rintro e w1 ⟨x, rfl, ⟨x0, x1⟩, hw1⟩
  have H1 : Hid (Went W v n g w w1) := hw1
  clear hw1
  obtain ⟨k, rfl⟩ := Int.eq_ofNat_of_zero_le x0
  obtain ⟨y, hy, hp⟩ := HL.out k (by omega)
  have HP : Hid (P y) := hp
  have hy1 : w1.cell? ⟨gl, k, none⟩ = some (.string y) := H1.out.2.cell hy (fun e => hne (Option.some.inj e))
  clear hy hp
  go_wp2
  go_ret
  exact ⟨_, rfl, HP.out, H1.out⟩

theorem texts_rowU (w : World) (cs : Array Value) (t : TypeId) (m k : Nat) (hk : k = cs.size) (h : textsIn m cs = true) : ∀ i, i < k → ∃ y : ByteArray, (w.alloc (.cells cs t)).cell? ⟨w.heap.size, i, none⟩ = some (.string y) ∧ y.size ≤ m := fun i hi => texts_row w cs t m h i (by omega)

theorem sgn_cells {V : World} {b off n cap : Nat} {xs : List OpD} (h : Ops V (.slice (some ⟨b, off, none⟩) n cap) xs) : ∀ y : Nat, y < xs.length → V.cell? ⟨b, off + y * 3, none⟩ = some (.string (xs.getD y default).sign) := fun y hy => by
  obtain ⟨b', off', e, c0, _⟩ := Ops.at h hy
  cases e
  rw [getD_is hy]
  exact c0
theorem held_went {W : World} {v : Value} {n g B : Nat} {w w' : World} {P : World → Prop} (h : Held (fun k => k < B) w P) (hg : g < B) (hw : Went W v n g w w') : Held (fun k => k < B) w' P := h.fr ⟨hw.2.size, fun k hk hn => hw.2.block k hk (fun e => hn (by have := Option.some.inj e; show k < B; omega))⟩

set_option maxHeartbeats 6400000 in
set_option maxRecDepth 100000 in
theorem text13_of (W : World) (v : Value) (n g B : Nat) (xs : List OpD) (oa : Option Addr) (oc : Nat) (w : World) (hn : n ≤ 1000000000000) (hcode : CodeRow W v n) (hc : Cur W v n g w) (ho : opsB xs = true) (hg : g < B) (hB : B ≤ w.heap.size) (hO : Held (fun k => k < B) w (fun V => Ops V (.slice oa xs.length oc) xs)) :
    Calls Try.prog 25 #[.pointer (some ⟨g, 0, none⟩), .slice oa xs.length oc] w fun e w' => ∃ t : ByteArray, e = .returned (.string t) ∧ t.size ≤ 12 ∧ Went W v n g w w' := by
  have HC : Hid (CodeRow W v n) := hcode
  have HW : Hid (Cur W v n g w) := hc
  have HO : Hid (Held (fun k => k < B) w (fun V => Ops V (.slice oa xs.length oc) xs)) := hO
  have hl1 := (ops_len ho).1
  have hl6 := (ops_len ho).2
  obtain ⟨sgn, hsgn⟩ : ∃ f : Nat → ByteArray, ∀ y, f y = (xs.getD y default).sign := ⟨_, fun _ => rfl⟩
  have HSg : Hid (∀ y : Nat, y < xs.length → (sgn y).size = 1) := fun y hy => by rw [hsgn, getD_is hy]; exact (sign_one ho (List.getElem_mem hy)).1
  obtain ⟨b, off, rfl, _, _, _⟩ := Ops.at hO.here (show 0 < xs.length by omega)
  have HCs : Hid (∀ V : World, Ops V (.slice (some ⟨b, off, none⟩) xs.length oc) xs → ∀ y : Nat, y < xs.length → V.cell? ⟨b, off + y * 3, none⟩ = some (.string (sgn y))) := fun V h y hy => by rw [hsgn]; exact sgn_cells h y hy
  clear hcode hc hO ho hsgn
  go_enter Try.func25, Try.ntmps25
  go_wp2_with fail
  refine (pickU_any (fun y => y.size ≤ 3) W v n g 3 w.heap.size 3 _ hn HC.out (went_alloc HW.out _).1 (by omega) (by omega) (by have := HW.out.lt; omega) (texts_rowU w _ _ 3 3 rfl (by decide +kernel))).mono ?_
  rintro e w1 ⟨s0, rfl, hs0, hw1⟩
  have hs0 : s0.size ≤ 3 := hs0
  have H1 : Hid (Went W v n g w w1) := went_trans (went_alloc HW.out _) hw1
  clear hw1
  go_wp2
  go_loopw [5, 6] (fun sv iv wr => ∃ (i : Nat) (s : ByteArray), iv = .int .i64 i ∧ sv = .string s ∧ i ≤ 5 ∧ s.size ≤ 3 + 4 * i ∧ Went W v n g w wr) (fun _ iv _ => 6 - (intOf iv).toNat)
  case atStart => exact ⟨0, s0, rfl, rfl, by omega, by omega, H1.out⟩
  case round =>
    obtain ⟨i, s, rfl, rfl, hi, hs, hWt⟩ := hrel
    have HWt : Hid (Went W v n g w wr) := hWt
    clear hWt H1
    go_wp2_with fail
    refine (below_any W v n g 5 _ hn HC.out HWt.out.1 (by omega) (by omega)).mono ?_
    rintro e W5 ⟨m, rfl, ⟨m0, m1⟩, hw5⟩
    have H5 : Hid (Went W v n g w W5) := went_trans HWt.out hw5
    clear hw5 HWt
    by_cases hlt : (i : Int) < m
    · have dl : decide ((i : Int) < m) = true := decide_eq_true hlt
      have HO5 : Hid (Held (fun k => k < B) W5 (fun V => Ops V (.slice (some ⟨b, off, none⟩) xs.length oc) xs)) := held_went HO.out hg H5.out
      have lg : g < W5.heap.size := H5.out.1.lt
      go_upto_region 5 with fail
      refine wp_region_held_drew (S := (fun V => ∀ y : Nat, y < xs.length → V.cell? ⟨b, off + y * 3, none⟩ = some (.string (sgn y)))) (by kernel_rfl) ?_ (fun hHeld => ?_)
      · (try dsimp only)
        exact fun y hy => HCs.out _ HO5.out.here y hy
      refine wpAnyH_take (i := 0) (v := ?_) rfl (by kernel_rfl) (by kernel_rfl) (by kernel_rfl) (fun _ _ _ h => h) (Or.inl ⟨by rfl, ?_⟩) hHeld ?_
      rotate_left
      · intro w hSw
        (try dsimp only at hSw)
        go_simp
        (try with_reducible rfl)
      refine wpAnyH_take (i := 1) (v := ?_) rfl (by kernel_rfl) (by kernel_rfl) (by kernel_rfl) (fun _ _ _ h => h) (Or.inl ⟨by rfl, ?_⟩) hHeld ?_
      rotate_left
      · intro w hSw
        (try dsimp only at hSw)
        go_simp
        (try with_reducible rfl)
      refine wpAnyH_take (i := 2) (v := ?_) rfl (by kernel_rfl) (by kernel_rfl) (by kernel_rfl) (fun _ _ _ h => h) (Or.inl ⟨by rfl, ?_⟩) hHeld ?_
      rotate_left
      · intro w hSw
        (try dsimp only at hSw)
        go_simp
        (try with_reducible rfl)
      refine wpAnyH_take (i := 3) (v := ?_) rfl (by kernel_rfl) (by kernel_rfl) (by kernel_rfl) (fun _ _ _ h => h) (Or.inl ⟨by rfl, ?_⟩) hHeld ?_
      rotate_left
      · intro w hSw
        (try dsimp only at hSw)
        go_simp
        (try with_reducible rfl)
      refine wpAnyH_take (i := 4) (v := ?_) rfl (by kernel_rfl) (by kernel_rfl) (by kernel_rfl) (fun _ _ _ h => h) (Or.inl ⟨by rfl, ?_⟩) hHeld ?_
      rotate_left
      · intro w hSw
        (try dsimp only at hSw)
        go_simp
        (try with_reducible rfl)
      refine wpAnyH_take (i := 10) (v := ?_) rfl (by kernel_rfl) (by kernel_rfl) (by kernel_rfl) (fun _ _ _ h => h) (Or.inl ⟨by rfl, ?_⟩) hHeld ?_
      rotate_left
      · intro w hSw
        (try dsimp only at hSw)
        go_simp
        (try with_reducible rfl)
      refine wpAnyH_ready (rs := [5, 11]) (by kernel_rfl) (by simp) ?_
      refine AllReadyH.cons rfl (fun K hK => ?_) (AllReadyH.cons rfl (fun K hK => ?_) AllReadyH.nil)
      · go_simp
        go_wp2_with (go_at_call 17; refine (below_any W v n g (xs.length : Int) _ hn HC.out (cur_drew H5.out.1) (by omega) (by omega)).mono ?_; rintro e w6 ⟨y6, rfl, ⟨y0, y1⟩, hw6⟩)
        obtain ⟨y, rfl⟩ := Int.eq_ofNat_of_zero_le y0
        have H6 : Went W v n g w w6 := went_trans H5.out (went_drew hw6)
        have iy : y < xs.length := by omega
        have iyz : (y : Int) < (xs.length : Int) := y1
        have HSy : Hid ((sgn y).size = 1) := HSg.out y iy
        have hNa : ¬ 9223372036854775807 < s.size + (sgn y).size := by have := HSy.out; omega
        have HO6 := held_went HO.out hg H6
        refine hK.out _ _ ?_ (fun hHeld => ?_)
        · (try dsimp only)
          exact HCs.out _ HO6.here
        clear hK K
        refine wpAnyH_take (i := 6) (v := ?_) rfl (by kernel_rfl) (by kernel_rfl) (by kernel_rfl) (fun _ _ _ h => h) (Or.inl ⟨by rfl, ?_⟩) hHeld ?_
        rotate_left
        · intro w hSw
          (try dsimp only at hSw)
          go_simp
          (try with_reducible rfl)
        refine wpAnyH_take (i := 7) (v := ?_) rfl (by kernel_rfl) (by kernel_rfl) (by kernel_rfl) (fun _ _ _ h => h) (Or.inl ⟨by rfl, ?_⟩) hHeld ?_
        rotate_left
        · intro w hSw
          (try dsimp only at hSw)
          go_simp
          (try with_reducible rfl)
        refine wpAnyH_take (i := 8) (v := ?_) rfl (by kernel_rfl) (by kernel_rfl) (by kernel_rfl) (fun _ _ _ h => h) (Or.inl ⟨by rfl, ?_⟩) hHeld ?_
        rotate_left
        · intro w hSw
          (try dsimp only at hSw)
          go_simp
          (try with_reducible rfl)
        refine wpAnyH_take (i := 9) (v := ?_) rfl (by kernel_rfl) (by kernel_rfl) (by kernel_rfl) (fun _ _ _ h => h) (Or.inl ⟨by rfl, ?_⟩) hHeld ?_
        rotate_left
        · intro w hSw
          (try dsimp only at hSw)
          go_simp
          (try with_reducible rfl)
        refine wpAnyH_ready (rs := [11]) (by kernel_rfl) (by simp) ?_
        refine AllReadyH.cons rfl (fun K hK => ?_) AllReadyH.nil
        go_simp
        refine hK.out _ _ ?_ (fun hHeld => ?_)
        · (try dsimp only)
          exact fun y hy => cell_keep (HCs.out _ HO6.here y hy) ((Below.refl _ _).alloc (Nat.le_refl _) _)
        clear hK K
        refine wpAnyH_ready (rs := [12]) (by kernel_rfl) (by simp) ?_
        refine AllReadyH.cons rfl (fun K hK => ?_) AllReadyH.nil
        go_simp
        go_wp2_with (go_at_call 40; refine (pickU_any (fun y => y.size ≤ 3) W v n g 4 w6.heap.size 4 _ hn HC.out (went_alloc H6.1 _).1 (by omega) (by omega) (by have := H6.1.lt; omega) (texts_rowU w6 _ _ 3 4 rfl (by decide +kernel))).mono ?_; rintro e w8 ⟨t8, rfl, ht8, hw8⟩)
        have ht8 : t8.size ≤ 3 := ht8
        have hNb : ¬ 9223372036854775807 < s.size + (sgn y).size + t8.size := by have := HSy.out; omega
        have H8 : Went W v n g w w8 := went_trans H6 (went_trans (went_alloc H6.1 _) hw8)
        have HO8 := held_went HO.out hg H8
        refine hK.out _ _ ?_ (fun hHeld => ?_)
        · (try dsimp only)
          exact HCs.out _ HO8.here
        clear hK K
        refine wpAnyH_take (i := 13) (v := ?_) rfl (by kernel_rfl) (by kernel_rfl) (by kernel_rfl) (fun _ _ _ h => h) (Or.inl ⟨by rfl, ?_⟩) hHeld ?_
        rotate_left
        · intro w hSw
          (try dsimp only at hSw)
          go_simp
          (try with_reducible rfl)
        refine wpAnyH_take (i := 14) (v := ?_) rfl (by kernel_rfl) (by kernel_rfl) (by kernel_rfl) (fun _ _ _ h => h) (Or.inl ⟨by rfl, ?_⟩) hHeld ?_
        rotate_left
        · intro w hSw
          (try dsimp only at hSw)
          go_simp
          (try with_reducible rfl)
        refine wpAnyH_done (by kernel_rfl) ?_ _
        go_wp2
        go_roundw
        case rel => exact ⟨i + 1, _, by go_num, rfl, by omega, by rw [ByteArray.size_append, ByteArray.size_append]; have := HSy.out; omega, H8⟩
        case measure => simp [intOf]; omega
      · go_simp
        refine hK.out _ _ ?_ (fun hHeld => ?_)
        · (try dsimp only)
          exact fun y hy => cell_keep (HCs.out _ HO5.out.here y hy) (bel_drewO ((Below.refl _ _).alloc (Nat.le_refl _) _))
        clear hK K
        refine wpAnyH_ready (rs := [5]) (by kernel_rfl) (by simp) ?_
        refine AllReadyH.cons rfl (fun K hK => ?_) AllReadyH.nil
        go_simp
        go_wp2_with (go_at_call 17; refine (below_any W v n g (xs.length : Int) _ hn HC.out (cur_drew (went_alloc H5.out.1 _).1) (by omega) (by omega)).mono ?_; rintro e w6 ⟨y6, rfl, ⟨y0, y1⟩, hw6⟩)
        obtain ⟨y, rfl⟩ := Int.eq_ofNat_of_zero_le y0
        have H6 : Went W v n g w w6 := went_trans H5.out (went_trans (went_alloc H5.out.1 _) (went_drew hw6))
        have iy : y < xs.length := by omega
        have iyz : (y : Int) < (xs.length : Int) := y1
        have HSy : Hid ((sgn y).size = 1) := HSg.out y iy
        have hNa : ¬ 9223372036854775807 < s.size + (sgn y).size := by have := HSy.out; omega
        have HO6 := held_went HO.out hg H6
        refine hK.out _ _ ?_ (fun hHeld => ?_)
        · (try dsimp only)
          exact HCs.out _ HO6.here
        clear hK K
        refine wpAnyH_take (i := 6) (v := ?_) rfl (by kernel_rfl) (by kernel_rfl) (by kernel_rfl) (fun _ _ _ h => h) (Or.inl ⟨by rfl, ?_⟩) hHeld ?_
        rotate_left
        · intro w hSw
          (try dsimp only at hSw)
          go_simp
          (try with_reducible rfl)
        refine wpAnyH_take (i := 7) (v := ?_) rfl (by kernel_rfl) (by kernel_rfl) (by kernel_rfl) (fun _ _ _ h => h) (Or.inl ⟨by rfl, ?_⟩) hHeld ?_
        rotate_left
        · intro w hSw
          (try dsimp only at hSw)
          go_simp
          (try with_reducible rfl)
        refine wpAnyH_take (i := 8) (v := ?_) rfl (by kernel_rfl) (by kernel_rfl) (by kernel_rfl) (fun _ _ _ h => h) (Or.inl ⟨by rfl, ?_⟩) hHeld ?_
        rotate_left
        · intro w hSw
          (try dsimp only at hSw)
          go_simp
          (try with_reducible rfl)
        refine wpAnyH_take (i := 9) (v := ?_) rfl (by kernel_rfl) (by kernel_rfl) (by kernel_rfl) (fun _ _ _ h => h) (Or.inl ⟨by rfl, ?_⟩) hHeld ?_
        rotate_left
        · intro w hSw
          (try dsimp only at hSw)
          go_simp
          (try with_reducible rfl)
        refine wpAnyH_ready (rs := [12]) (by kernel_rfl) (by simp) ?_
        refine AllReadyH.cons rfl (fun K hK => ?_) AllReadyH.nil
        have hrow : ∀ i, i < 4 → ∃ y : ByteArray, w6.cell? ⟨W5.heap.size, i, none⟩ = some (.string y) ∧ y.size ≤ 3 := fun i hi => by
          obtain ⟨u, hu, hz⟩ := texts_rowU W5 (#[.string ⟨#[52]⟩, .string ⟨#[53]⟩, .string ⟨#[54]⟩, .string ⟨#[40, 55, 41]⟩]) 9 3 4 rfl (by decide +kernel) i hi
          exact ⟨u, (went_drew hw6).2.cell hu (fun e => by have : W5.heap.size = g := Option.some.inj e; omega), hz⟩
        go_simp
        go_wp2_with (go_at_call 40; refine (pickU_any (fun y => y.size ≤ 3) W v n g 4 W5.heap.size 4 _ hn HC.out H6.1 (by omega) (by omega) (by omega) hrow).mono ?_; rintro e w8 ⟨t8, rfl, ht8, hw8⟩)
        have ht8 : t8.size ≤ 3 := ht8
        have hNb : ¬ 9223372036854775807 < s.size + (sgn y).size + t8.size := by have := HSy.out; omega
        have H8 : Went W v n g w w8 := went_trans H6 hw8
        have HO8 := held_went HO.out hg H8
        refine hK.out _ _ ?_ (fun hHeld => ?_)
        · (try dsimp only)
          exact HCs.out _ HO8.here
        clear hK K
        refine wpAnyH_take (i := 13) (v := ?_) rfl (by kernel_rfl) (by kernel_rfl) (by kernel_rfl) (fun _ _ _ h => h) (Or.inl ⟨by rfl, ?_⟩) hHeld ?_
        rotate_left
        · intro w hSw
          (try dsimp only at hSw)
          go_simp
          (try with_reducible rfl)
        refine wpAnyH_take (i := 14) (v := ?_) rfl (by kernel_rfl) (by kernel_rfl) (by kernel_rfl) (fun _ _ _ h => h) (Or.inl ⟨by rfl, ?_⟩) hHeld ?_
        rotate_left
        · intro w hSw
          (try dsimp only at hSw)
          go_simp
          (try with_reducible rfl)
        refine wpAnyH_done (by kernel_rfl) ?_ _
        go_wp2
        go_roundw
        case rel => exact ⟨i + 1, _, by go_num, rfl, by omega, by rw [ByteArray.size_append, ByteArray.size_append]; have := HSy.out; omega, H8⟩
        case measure => simp [intOf]; omega
    · have dl : decide ((i : Int) < m) = false := decide_eq_false hlt
      by_cases h12 : 12 < s.size
      · have d2 : decide ((12 : Int) < (s.size : Int)) = true := decide_eq_true (by omega)
        have j0 : (0 : Int) ≤ 11 := by omega
        have j1 : (11 : Int) ≤ (s.size : Int) := by omega
        go_wp2
        go_ret
        exact ⟨_, rfl, by rw [ByteArray.size_extract]; omega, H5.out⟩
      · have d2 : decide ((12 : Int) < (s.size : Int)) = false := decide_eq_false (by omega)
        go_wp2
        go_ret
        exact ⟨s, rfl, by omega, H5.out⟩

set_option maxHeartbeats 1600000 in
set_option maxRecDepth 100000 in
theorem drawOps_of (W : World) (v : Value) (n : Nat) (w : World) (hn : n ≤ 1000000000000) (hcode : CodeRow W v n) (hb : Below W.heap.size W w) :
    Calls Try.prog 10 #[v] w fun e w' => ∃ (xs : List OpD) (oa : Option Addr) (oc : Nat) (t : ByteArray), opsB xs = true ∧ e = .returned (.tuple #[.slice oa xs.length oc, .string t]) ∧ t.size ≤ 12 ∧ Ops w' (.slice oa xs.length oc) xs ∧ Below w.heap.size w w' := by
  have HC : Hid (CodeRow W v n) := hcode
  have HB : Hid (Below W.heap.size W w) := hb
  clear hcode hb
  go_enter Try.func10, Try.ntmps10
  go_wp2_with fail
  refine (new_any W v n _ hn HC.out HB.out).mono ?_
  rintro e w1 ⟨g, rfl, hc1, hb1, hg⟩
  have H1 : Hid (Cur W v n g w1) := hc1
  have B1 : Hid (Below w.heap.size w w1) := hb1
  have lg := hc1.lt
  clear hc1 hb1
  go_wp2_with fail
  refine (ops13_of W v n g _ hn HC.out H1.out).mono ?_
  rintro e w2 ⟨xs, oa, oc, ho, rfl, hO2, hw2⟩
  have HO : Hid (opsB xs = true) := ho
  have H2 : Hid (Went W v n g w1 w2) := hw2
  have O2 : Hid (Held (fun k => k < w1.heap.size) w2 (fun V => Ops V (.slice oa xs.length oc) xs)) := hO2
  clear ho hO2 hw2
  go_wp2_with fail
  refine (text13_of W v n g w1.heap.size xs oa oc _ hn HC.out H2.out.1 HO.out lg H2.out.2.size O2.out).mono ?_
  rintro e w3 ⟨t, rfl, ht, hw3⟩
  have H3 : Hid (Ops w3 (.slice oa xs.length oc) xs) := (held_went O2.out lg hw3).here
  have B3 : Hid (Below w.heap.size w w3) := B1.out.trans (went_bel (went_trans H2.out hw3) B1.out.size hg)
  clear hw3
  go_wp2
  go_ret2
  exact ⟨xs, oa, oc, t, HO.out, rfl, ht, H3.out, B3.out⟩

end Go.Proofs.Ytkojkicfibmjdaa
