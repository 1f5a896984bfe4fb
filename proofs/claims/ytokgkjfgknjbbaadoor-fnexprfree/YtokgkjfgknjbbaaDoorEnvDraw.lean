/- What the verifier's draws of names with numbers answer. -/
import Derived.Test.YtokgkjfgknjbbaaDoorDraw3
import Derived.Test.YtokgkjfgknjbbaaDoorEnvOrd
import Derived.Deep.Onto
namespace Go.Proofs.YtokgkjfgknjbbaaDoor
open Go.RowKit

/-- One of a written list of values is picked. -/
theorem lit_row (w : World) (vs : List Value) (t : TypeId) (i : Nat) (h : i < vs.length) : (w.alloc (.cells vs.toArray t)).cell? ⟨w.heap.size, i, none⟩ = some vs[i] := by
  have hb : (w.alloc (.cells vs.toArray t)).heap[w.heap.size]? = some (.cells vs.toArray t) := heap_alloc_new w _
  rw [cell_of_row _ _ i _ _ _ hb]
  simp [h]

set_option maxHeartbeats 800000 in
set_option maxRecDepth 100000 in
theorem pickIntP_any (P : Int → Prop) (W : World) (v : Value) (n g m gl cap : Nat) (w : World) (hn : n ≤ 1000000000000) (hcode : CodeRow W v n) (hc : Cur W v n g w) (hm : 0 < m) (hm1 : m ≤ 4294967296) (hne : gl ≠ g)
    (hl : ∀ i, i < m → ∃ y : Int, w.cell? ⟨gl, i, none⟩ = some (.int .i64 y) ∧ P y) :
    Calls Tryd.prog 67 #[.pointer (some ⟨g, 0, none⟩), .slice (some ⟨gl, 0, none⟩) m cap] w fun e w' =>
      ∃ y : Int, e = .returned (.int .i64 y) ∧ P y ∧ Went W v n g w w' := by
  have HC : Hid (CodeRow W v n) := hcode
  have HW : Hid (Cur W v n g w) := hc
  have HL : Hid (∀ i, i < m → ∃ y : Int, w.cell? ⟨gl, i, none⟩ = some (.int .i64 y) ∧ P y) := hl
  clear hcode hc hl
  go_enter Tryd.func67, Tryd.ntmps67
  go_wp2_with fail
  refine (below_any W v n g m _ hn HC.out HW.out (by omega) (by omega)).mono ?_
  rintro e w1 ⟨x, rfl, ⟨x0, x1⟩, hw1⟩
  have H1 : Hid (Went W v n g w w1) := hw1
  clear hw1
  obtain ⟨k, rfl⟩ := Int.eq_ofNat_of_zero_le x0
  obtain ⟨y, hy, hp⟩ := HL.out k (by omega)
  have HP : Hid (P y) := hp
  have hy1 : w1.cell? ⟨gl, k, none⟩ = some (.int .i64 y) := H1.out.2.cell hy (fun e => hne (Option.some.inj e))
  clear hy hp
  go_wp2
  go_ret
  exact ⟨_, rfl, HP.out, H1.out⟩

set_option maxHeartbeats 800000 in
set_option maxRecDepth 100000 in
theorem pickP_any (P : ByteArray → Prop) (W : World) (v : Value) (n g m gl cap : Nat) (w : World) (hn : n ≤ 1000000000000) (hcode : CodeRow W v n) (hc : Cur W v n g w) (hm : 0 < m) (hm1 : m ≤ 4294967296) (hne : gl ≠ g)
    (hl : ∀ i, i < m → ∃ y : ByteArray, w.cell? ⟨gl, i, none⟩ = some (.string y) ∧ P y) :
    Calls Tryd.prog 58 #[.pointer (some ⟨g, 0, none⟩), .slice (some ⟨gl, 0, none⟩) m cap] w fun e w' =>
      ∃ y : ByteArray, e = .returned (.string y) ∧ P y ∧ Went W v n g w w' := by
  have HC : Hid (CodeRow W v n) := hcode
  have HW : Hid (Cur W v n g w) := hc
  have HL : Hid (∀ i, i < m → ∃ y : ByteArray, w.cell? ⟨gl, i, none⟩ = some (.string y) ∧ P y) := hl
  clear hcode hc hl
  go_enter Tryd.func58, Tryd.ntmps58
  go_wp2_with fail
  refine (below_any W v n g m _ hn HC.out HW.out (by omega) (by omega)).mono ?_
  rintro e w1 ⟨x, rfl, ⟨x0, x1⟩, hw1⟩
  have H1 : Hid (Went W v n g w w1) := hw1
  clear hw1
  obtain ⟨k, rfl⟩ := Int.eq_ofNat_of_zero_le x0
  obtain ⟨y, hy, hp⟩ := HL.out k (by omega)
  have HP : Hid (P y) := hp
  have hy1 : w1.cell? ⟨gl, k, none⟩ = some (.string y) := H1.out.2.cell hy (fun e => hne (Option.some.inj e))
  clear hy hp
  go_wp2
  go_ret
  exact ⟨_, rfl, HP.out, H1.out⟩

/-- The names that are drawn. -/
def names5 : List ByteArray := [⟨#[97]⟩, ⟨#[98]⟩, ⟨#[110]⟩, ⟨#[120]⟩, ⟨#[108, 111, 110, 103]⟩]
theorem names5_ok : ∀ s ∈ names5, nameB s = true := by
  intro s hs
  simp only [names5, List.mem_cons, List.not_mem_nil, or_false] at hs
  rcases hs with rfl | rfl | rfl | rfl | rfl <;> decide
theorem names5_size : ∀ s ∈ names5, s.size ≤ 4 := by
  intro s hs
  simp only [names5, List.mem_cons, List.not_mem_nil, or_false] at hs
  rcases hs with rfl | rfl | rfl | rfl | rfl <;> decide

/-- What went over a cursor's own block and behind an old heap, seen as 'Below'. -/
theorem went_size {W : World} {v : Value} {n g : Nat} {w w' : World} (h : Went W v n g w w') : w.heap.size ≤ w'.heap.size := h.2.size

/-- A list of the call's own, made behind the cursor, stays behind a draw. -/
theorem ownV_went {W : World} {v o : Value} {n g B : Nat} {w w' : World} {xs : List VarD} (h : OwnV B o xs w) (hw : Went W v n g w w') (hg : g < B) : OwnV B o xs w' :=
  World.ownsRow.kept h hw.2 (by
    cases hv : o.ownBlock with
    | none => exact .inl rfl
    | some k =>
      right
      intro e
      have h1 := (World.ownsRow.lt h k hv).1
      have h2 : k = g := Option.some.inj e
      omega)

set_option maxHeartbeats 800000 in
set_option maxRecDepth 100000 in
theorem name_any (W : World) (v : Value) (n g : Nat) (w : World) (hn : n ≤ 1000000000000) (hcode : CodeRow W v n) (hc : Cur W v n g w) :
    Calls Tryd.prog 66 #[.pointer (some ⟨g, 0, none⟩)] w fun e w' => ∃ y : ByteArray, e = .returned (.string y) ∧ y ∈ names5 ∧ Went W v n g w w' := by
  have HC : Hid (CodeRow W v n) := hcode
  have HW : Hid (Cur W v n g w) := hc
  have hg : g < w.heap.size := hc.lt
  have HA : Hid (Went W v n g w (w.alloc (.cells (names5.map Value.string).toArray 9))) := went_alloc hc _
  have HL : Hid (∀ i, i < 5 → ∃ y : ByteArray, (w.alloc (.cells (names5.map Value.string).toArray 9)).cell? ⟨w.heap.size, i, none⟩ = some (.string y) ∧ y ∈ names5) := fun i hi => by
    refine ⟨names5[i]'(by simpa [names5] using hi), ?_, List.getElem_mem _⟩
    rw [lit_row w (names5.map Value.string) 9 i (by simpa [names5] using hi)]
    simp
  clear hcode hc
  go_enter Tryd.func66, Tryd.ntmps66
  go_wp2_with fail
  refine (pickP_any (· ∈ names5) W v n g 5 w.heap.size 5 _ hn HC.out HA.out.1 (by omega) (by omega) (by omega) HL.out).mono ?_
  rintro e w1 ⟨y, rfl, hy, hw1⟩
  have H1 : Hid (Went W v n g w w1) := went_trans HA.out hw1
  have HY : Hid (y ∈ names5) := hy
  clear hw1 hy
  go_wp2
  go_ret
  exact ⟨_, rfl, HY.out, H1.out⟩

/-- The numbers that are drawn. -/
def nums7 : List Int := [0, 1, 2, 7, -3, 50, 9999]
theorem nums7_in : ∀ z ∈ nums7, -9999 ≤ z ∧ z ≤ 9999 := by decide

/-- A drawn right list. -/
def EnvGood (xs : List VarD) (k : Nat) : Prop := chainB none xs = true ∧ xs.length ≤ k ∧ ∀ x ∈ xs, x.1 ∈ names5
theorem envGood_put {xs : List VarD} {k : Nat} {name : ByteArray} {num : Int} (h : EnvGood xs k) (hk : k ≤ 5) (hn : name ∈ names5) (hr : -9999 ≤ num ∧ num ≤ 9999) :
    envB (putB xs name num) = true ∧ EnvGood (putB xs name num) (k + 1) := by
  have h1 := chain_put xs none name num h.1 (names5_ok _ hn) hr trivial
  have h2 := put_len xs none name num h.1
  refine ⟨?_, h1, by have := h.2.1; omega, fun x hx => ?_⟩
  · rw [envB, h1, Bool.true_and, decide_eq_true_eq]
    have := h.2.1
    omega
  · rcases put_mem hx with hx | rfl
    · exact h.2.2 x hx
    · exact hn

set_option maxHeartbeats 1600000 in
set_option maxRecDepth 100000 in
theorem env_any (W : World) (v : Value) (n g : Nat) (w : World) (hn : n ≤ 1000000000000) (hcode : CodeRow W v n) (hc : Cur W v n g w) :
    Calls Tryd.prog 39 #[.pointer (some ⟨g, 0, none⟩)] w fun e w' => ∃ o xs, e = .returned o ∧ EnvGood xs 4 ∧ OwnV w.heap.size o xs w' ∧ Went W v n g w w' := by
  have HC : Hid (CodeRow W v n) := hcode
  have HW : Hid (Cur W v n g w) := hc
  have hg : g < w.heap.size := hc.lt
  clear hcode hc
  go_enter Tryd.func39, Tryd.ntmps39
  go_wp2
  go_loopw [3, 4] (fun ov iv wr => ∃ (k : Nat) (xs : List VarD), iv = .int .i64 k ∧ k ≤ 4 ∧ EnvGood xs k ∧ OwnV w.heap.size ov xs wr ∧ Went W v n g w wr) (fun _ iv _ => 4 - (intOf iv).toNat)
  case atStart => exact ⟨0, [], rfl, by omega, ⟨rfl, Nat.le_refl _, fun _ h => by cases h⟩, World.ownsRow_made _ _ _ (Nat.le_refl _) (by decide) rfl, went_alloc HW.out _⟩
  case round =>
    obtain ⟨k, xs, rfl, hk, hgood, hown, hwent⟩ := hrel
    have H0 : Hid (Went W v n g w wr) := hwent
    have HO : Hid (OwnV w.heap.size u3 xs wr) := hown
    have HE : Hid (EnvGood xs k) := hgood
    clear hgood hown hwent
    go_wp2_with fail
    refine (below_any W v n g 5 _ hn HC.out H0.out.1 (by omega) (by omega)).mono ?_
    rintro e w1 ⟨x, rfl, ⟨x0, x1⟩, hw1⟩
    have H1 : Hid (Went W v n g w w1) := went_trans H0.out hw1
    have HO1 : Hid (OwnV w.heap.size u3 xs w1) := ownV_went HO.out hw1 hg
    clear hw1
    by_cases hlt : (k : Int) < x
    · go_wp2_with fail
      refine (name_any W v n g _ hn HC.out H1.out.1).mono ?_
      rintro e w2 ⟨name, rfl, hnm, hw2⟩
      have H2 : Hid (Went W v n g w w2) := went_trans H1.out hw2
      have HO2 : Hid (OwnV w.heap.size u3 xs w2) := ownV_went HO1.out hw2 hg
      have HN : Hid (name ∈ names5) := hnm
      clear hw2 hnm
      have HA : Hid (Went W v n g w2 (w2.alloc (.cells (nums7.map (Value.int .i64)).toArray 3))) := went_alloc H2.out.1 _
      have HL : Hid (∀ i, i < 7 → ∃ y : Int, (w2.alloc (.cells (nums7.map (Value.int .i64)).toArray 3)).cell? ⟨w2.heap.size, i, none⟩ = some (.int .i64 y) ∧ (-9999 ≤ y ∧ y ≤ 9999)) := fun i hi => by
        refine ⟨nums7[i]'(by simpa [nums7] using hi), ?_, nums7_in _ (List.getElem_mem _)⟩
        rw [lit_row w2 (nums7.map (Value.int .i64)) 3 i (by simpa [nums7] using hi)]
        simp
      have hg2 : g < w2.heap.size := H2.out.1.lt
      go_wp2_with fail
      refine (pickIntP_any (fun y => -9999 ≤ y ∧ y ≤ 9999) W v n g 7 w2.heap.size 7 _ hn HC.out HA.out.1 (by omega) (by omega) (by omega) HL.out).mono ?_
      rintro e w3 ⟨num, rfl, hnum, hw3⟩
      have hw23 := went_trans HA.out hw3
      have H3 : Hid (Went W v n g w w3) := went_trans H2.out hw23
      have HO3 : Hid (OwnV w.heap.size u3 xs w3) := ownV_went HO2.out hw23 hg
      clear hw3 hw23 HA HL
      have hgp := envGood_put HE.out (by omega) HN.out hnum
      have HB : Hid (setOk xs name num = true) := hgp.1
      have HS : Hid (setL xs name num = putB xs name num) := setL_yes hgp.1
      have HG : Hid (EnvGood (putB xs name num) (k + 1)) := hgp.2
      have hxl : xs.length ≤ 4 := by have := HE.out.2.1; omega
      have HZ : Hid (∀ x ∈ xs, x.1.size ≤ 1048576) := fun x hx => by have := names5_size _ (HE.out.2.2 x hx); omega
      have hnz : name.size ≤ 1048576 := by have := names5_size _ HN.out; omega
      clear hgp hnum
      go_wp2_with fail
      refine (specEnvSet_any _ xs name num _ (by omega) HZ.out hnz HO3.out.row).mono ?_
      rw [HB.out, HS.out]
      rintro e w4 ⟨o4, rfl, ho4, hb4⟩
      have H4 : Hid (Went W v n g w w4) := went_trans H3.out (went_below H3.out.1 hb4)
      have HO4 : Hid (OwnV w.heap.size o4 (putB xs name num) w4) := World.ownsRow.mono ho4 (went_size H3.out)
      clear ho4 hb4
      go_wp2
      go_roundw
      case rel => exact ⟨k + 1, _, by go_num, by omega, HG.out, HO4.out, H4.out⟩
      case measure => simp [intOf]; omega
    · go_wp2
      go_ret
      exact ⟨_, xs, rfl, ⟨HE.out.1, by have := HE.out.2.1; omega, HE.out.2.2⟩, HO1.out, H1.out⟩

end Go.Proofs.YtokgkjfgknjbbaaDoor
