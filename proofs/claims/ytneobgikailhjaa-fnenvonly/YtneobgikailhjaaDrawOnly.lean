/- What the verifier's draw of names that are asked for answers. -/
import Derived.Test.YtneobgikailhjaaEnvTop
import Derived.Test.YtneobgikailhjaaSKit
namespace Go.Proofs.Ytneobgikailhjaa
open Go.RowKit

theorem ownB_went {W : World} {v o : Value} {n g B : Nat} {w w' : World} {ss : List ByteArray} (h : OwnB B o ss w) (hw : Went W v n g w w') (hg : g < B) : OwnB B o ss w' :=
  World.ownsRow.kept h hw.2 (by
    cases hv : o.ownBlock with
    | none => exact .inl rfl
    | some k =>
      right
      intro e
      have h1 := (World.ownsRow.lt h k hv).1
      have h2 : k = g := Option.some.inj e
      omega)
theorem one_row (w : World) (x : Value) (t : TypeId) : ∀ j u, [x][j]? = some u → (w.alloc (.cells #[x] t)).cell? ((⟨w.heap.size, 0, none⟩ : Addr).add j) = some u := by
  intro j u h
  have hb : (w.alloc (.cells #[x] t)).heap[w.heap.size]? = some (.cells #[x] t) := heap_alloc_new w _
  rw [Addr.add_lit, Nat.zero_add, cell_of_row _ _ j _ _ _ hb]
  simpa using h
theorem one_cell1 (s : ByteArray) : ∀ u ∈ [Value.string s], u.oneCell' = true := by
  intro u hu
  obtain rfl : u = .string s := by simpa using hu
  rfl

set_option maxHeartbeats 1600000 in
set_option maxRecDepth 100000 in
theorem drawEnvOnly_any (W : World) (v : Value) (n : Nat) (w : World) (hn : n ≤ 1000000000000) (hcode : CodeRow W v n) (hb : Below W.heap.size W w) :
    Calls Try.prog 23 #[v] w fun e w' => ∃ o xs u ss, e = .returned (.tuple #[o, u]) ∧ AnyV xs 8 ∧ ss.length ≤ 4 ∧ (∀ s ∈ ss, s.size ≤ 4) ∧ OwnV w.heap.size o xs w' ∧ SRow w' u ss ∧ Below w.heap.size w w' := by
  obtain ⟨j0, hj, hz0, hz1, hz2⟩ := info_parts Try.infoStr
  have HC : Hid (CodeRow W v n) := hcode
  have HB : Hid (Below W.heap.size W w) := hb
  clear hcode hb
  go_enter Try.func23, Try.ntmps23
  go_wp2_with fail
  refine (new_any W v n _ hn HC.out HB.out).mono ?_
  rintro e w1 ⟨g, rfl, hc1, hb1, hg⟩
  have H1 : Hid (Cur W v n g w1) := hc1
  have B1 : Hid (Below w.heap.size w w1) := hb1
  have hg1 : g < w1.heap.size := hc1.lt
  clear hc1 hb1
  go_wp2
  go_loopw [5, 6] (fun ov iv wr => ∃ (k : Nat) (ss : List ByteArray), iv = .int .i64 k ∧ k ≤ 4 ∧ ss.length ≤ k ∧ (∀ s ∈ ss, s.size ≤ 4) ∧ OwnB w1.heap.size ov ss wr ∧ Went W v n g w1 wr) (fun _ iv _ => 4 - (intOf iv).toNat)
  case atStart => exact ⟨0, [], rfl, by omega, Nat.le_refl _, (fun _ h => by cases h), World.ownsRow_made _ _ _ (Nat.le_refl _) (by decide) rfl, went_alloc H1.out _⟩
  case round =>
    obtain ⟨k, ss, rfl, hk, hsl, hsz, hown, hwent⟩ := hrel
    have H2 : Hid (Went W v n g w1 wr) := hwent
    have HO : Hid (OwnB w1.heap.size u5 ss wr) := hown
    have HZ : Hid (∀ s ∈ ss, s.size ≤ 4) := hsz
    clear hown hwent hsz
    go_wp2_with fail
    refine (below_any W v n g 4 _ hn HC.out H2.out.1 (by omega) (by omega)).mono ?_
    rintro e w2 ⟨x, rfl, ⟨x0, x1⟩, hw2⟩
    have H3 : Hid (Went W v n g w1 w2) := went_trans H2.out hw2
    have HO3 : Hid (OwnB w1.heap.size u5 ss w2) := ownB_went HO.out hw2 hg1
    clear hw2 HO
    by_cases hlt : (k : Int) < x
    · go_wp2_with fail
      refine (name_any W v n g _ hn HC.out H3.out.1).mono ?_
      rintro e w3 ⟨name, rfl, hnm, hw3⟩
      have H4 : Hid (Went W v n g w1 w3) := went_trans H3.out hw3
      have HO4 : Hid (OwnB w1.heap.size u5 ss w3) := ownB_went HO3.out hw3 hg1
      have hnz := names5_size _ hnm
      clear hw3 hnm HO3
      go_wp2_with (at_builtin; refine wpList_append_own _ rfl _ _ 28 rfl w1.heap.size 9 j0 _ 1 16 Try.underlying28 hj hz0 hz1 hz2 rfl (by decide) _ _ _ rfl (World.ownsRow.alloc HO4.out _) ⟨w3.heap.size, 0, none⟩ 1 1 [.string name] rfl rfl (one_row _ _ _) (one_cell1 _) (by unfold maxLen; omega) (by omega) (by have h8 := went_size H4.out; simp; omega) ?_)
      intro v' w4 hown4 hgrow _
      have HO5 : Hid (OwnB w1.heap.size v' (ss ++ [name]) w4) := by
        rw [Hid, OwnB, List.length_append, sb, List.map_append]
        exact hown4
      have H5 : Hid (Went W v n g w1 w4) := went_grown (went_trans H4.out (went_alloc H4.out.1 _)) hgrow (fun j hj => (HO4.out.lt j hj).1) hg1
      have HZ5 : Hid (∀ s ∈ ss ++ [name], s.size ≤ 4) := fun s hs => by
        rcases List.mem_append.1 hs with hs | hs
        · exact HZ.out s hs
        · obtain rfl : s = name := by simpa using hs
          exact hnz
      clear hown4 hgrow
      go_wp2
      go_roundw
      case rel => exact ⟨k + 1, _, by go_num, by omega, by rw [List.length_append, List.length_singleton]; omega, HZ5.out, HO5.out, H5.out⟩
      case measure => simp [intOf]; omega
    · go_wp2_with fail
      refine (any_any W v n g _ hn HC.out H3.out.1).mono ?_
      rintro e w4 ⟨o, xs, rfl, hany, ho, hw4⟩
      have B3 : Hid (Below w.heap.size w w2) := B1.out.trans (went_bel H3.out B1.out.size hg)
      have B4 : Hid (Below w.heap.size w w4) := B3.out.trans (went_bel hw4 B3.out.size hg)
      have HO4 : Hid (OwnV w.heap.size o xs w4) := World.ownsRow.mono ho B3.out.size
      have HS4 : Hid (SRow w4 u5 ss) := (ownB_went HO3.out hw4 hg1).row
      clear ho hw4
      go_wp2
      go_ret2
      exact ⟨_, _, _, ss, rfl, hany, by omega, HZ.out, HO4.out, HS4.out, B4.out⟩

end Go.Proofs.Ytneobgikailhjaa
