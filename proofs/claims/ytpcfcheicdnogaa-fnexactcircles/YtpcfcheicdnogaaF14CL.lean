/- The exact law on Circles, walked out of contracts. -/
import Derived.Test.YtpcfcheicdnogaaF14CS
import Derived.Test.YtpcfcheicdnogaaWSz
import Derived.Test.YtpcfcheicdnogaaWEq
import Derived.Test.YtpcfcheicdnogaaWTo
namespace Go.Proofs.Ytpcfcheicdnogaa
open Go.RowKit
set_option linter.unusedVariables false

set_option maxHeartbeats 1600000 in
theorem fnExactCircles_of (v : Value) (xs : List PartD) (w : World) (hI : ∀ (v : Value) (xs : List PartD) (W : World), Below w.heap.size w W → forestTot xs ≤ 1048576 → ForestIn xs → RowC 5 PartE W v xs → Calls Try.prog 12 #[.agg #[v]] W fun e w' => e = .returned (.bool (circles14 xs)) ∧ Below W.heap.size W w') (h : RowC 5 PartE w v xs) (hin : ForestIn xs) :
    Calls Try.prog 4 #[.agg #[v]] w fun e w' => e = .returned (.bool true) ∧ Below w.heap.size w w' := by
  have HA : Hid (RowC 5 PartE w v xs) := h
  have HIn : Hid (ForestIn xs) := hin
  have HI : Hid (∀ (v : Value) (xs : List PartD) (W : World), Below w.heap.size w W → forestTot xs ≤ 1048576 → ForestIn xs → RowC 5 PartE W v xs → Calls Try.prog 12 #[.agg #[v]] W fun e w' => e = .returned (.bool (circles14 xs)) ∧ Below W.heap.size W w') := hI
  obtain ⟨a, cap, rfl⟩ := h.slice
  clear h hI hin
  have B0 : Hid (Below w.heap.size w (w.alloc (.cells #[.slice a xs.length cap] 24))) := (Below.refl _ _).alloc (Nat.le_refl _) _
  have E0 : Hid ((w.alloc (.cells #[.slice a xs.length cap] 24)).cell? ⟨w.heap.size, 0, none⟩ = some (.slice a xs.length cap)) := box_at _ _ _ 0 _ rfl
  have ST : Hid (∀ W, Below w.heap.size w W → RowC 5 PartE W (.slice a xs.length cap) xs) := fun W hb => RowC.below PartE_stable HA.out hb
  go_enter Try.func4, Try.ntmps4
  go_wp2_with fail
  refine (gszForest _ xs 1048576 _ (by omega) (by omega) HIn.out (ST.out _ B0.out)).mono ?_
  rintro e w1 ⟨r, rfl, hr, hb1⟩
  have B1 : Hid (Below w.heap.size w w1) := B0.out.trans (hb1.mono B0.out.size)
  have hE1 := cell_keep E0.out hb1
  clear hb1 E0 B0
  rcases hr with rfl | hr
  · go_wp2
    go_ret
    exact ⟨rfl, B1.out⟩
  · have hz : forestTot xs ≤ 1048576 := by omega
    have hxl : xs.length ≤ 1048576 := Nat.le_trans (rowTot_len partTot xs) hz
    have hr2 : ¬ r < 0 := by omega
    have HZ : Hid (forestTot xs ≤ 1048576) := hz
    clear hr hz
    go_wp2_with fail
    refine (gtoForest _ xs _ HZ.out (ST.out _ B1.out)).mono ?_
    rintro e w2 ⟨o2, c2, rfl, f2, hb2⟩
    have O2 : Hid (RowC 5 PartE w2 (.slice o2 xs.length c2) xs) := f2.here
    have B2 : Hid (Below w.heap.size w w2) := B1.out.trans (hb2.mono B1.out.size)
    have hE2 := cell_keep hE1 hb2
    clear hb2 f2 hE1
    go_wp2_with fail
    refine (specCircles14 _ xs _ HZ.out O2.out).mono ?_
    rintro e w3 ⟨rfl, hb3⟩
    have B3 : Hid (Below w.heap.size w w3) := B2.out.trans (hb3.mono B2.out.size)
    have hE3 := cell_keep hE2 hb3
    clear hb3 hE2
    go_wp2_with fail
    refine (gtoForest _ xs _ HZ.out (ST.out _ B3.out)).mono ?_
    rintro e w4 ⟨a4, c4, rfl, f4, hb4⟩
    have bal := (Below.refl w4.heap.size w4).alloc (Nat.le_refl _) (.cells #[.slice a4 xs.length c4] 29)
    have O5 : Hid (RowC 5 PartE (w4.alloc (.cells #[.slice a4 xs.length c4] 29)) (.slice a4 xs.length c4) xs) := RowC.below PartE_stable f4.here bal
    have B4 : Hid (Below w.heap.size w w4) := B3.out.trans (hb4.mono B3.out.size)
    have B5 : Hid (Below w.heap.size w (w4.alloc (.cells #[.slice a4 xs.length c4] 29))) := B4.out.trans (bal.mono B4.out.size)
    have hE5 := cell_keep (cell_keep hE3 hb4) bal
    have hX5 : (w4.alloc (.cells #[.slice a4 xs.length c4] 29)).cell? ⟨w4.heap.size, 0, none⟩ = some (.slice a4 xs.length c4) := box_at _ _ _ 0 _ rfl
    clear hb4 f4 bal hE3
    go_wp2_with fail
    generalize w4.alloc (.cells #[.slice a4 xs.length c4] 29) = W5 at *
    refine (HI.out _ xs _ B5.out HZ.out HIn.out O5.out).mono ?_
    rintro e w6 ⟨rfl, hb6⟩
    have B6 : Hid (Below w.heap.size w w6) := B5.out.trans (hb6.mono B5.out.size)
    have O6 : Hid (RowC 5 PartE w6 (.slice a4 xs.length c4) xs) := RowC.below PartE_stable O5.out hb6
    have hE6 := cell_keep hE5 hb6
    have hX6 := cell_keep hX5 hb6
    clear hb6 hE5 hX5 O5 B5
    skip
    have HT : Hid (∀ W, Below w.heap.size w W → _) := fun W hb => gtoForest _ xs W HZ.out (ST.out W hb)
    have HQ : Hid (∀ u v W, RowC 5 PartE W u xs → RowC 5 PartE W v xs → _) := fun u v W h h' => geqForest u v xs W HZ.out h h'
    have B7 : Hid (Below w.heap.size w w6.drew) := bel_drewN B6.out 1
    have O7 : Hid (RowC 5 PartE w6.drew (.slice a4 xs.length c4) xs) := RowC.below PartE_stable O6.out (bel_drewN (Below.refl _ _) 1)
    go_wp2
    go_region_held3 (fun W => W.cell? ⟨w.heap.size, 0, none⟩ = some (.slice a xs.length cap) ∧ W.cell? ⟨w4.heap.size, 0, none⟩ = some (.slice a4 xs.length c4))
      ((first | exact gkeep2 (by assumption) hb8 | exact gkeep2 (by assumption) hb7 | go_keep))
      ((first
        | (go_at_call 10; refine (HQ.out _ _ _ (RowC.below PartE_stable O7.out hb7) f7.here).mono ?_; rintro e w8 ⟨rfl, hb8⟩)
        | (go_at_call 8; refine (HT.out _ B7.out).mono ?_; rintro e w7 ⟨o7, c7, rfl, f7, hb7⟩)))
    have B8 : Hid (Below w.heap.size w w8) := by
      have h7 := B7.out.trans (hb7.mono B7.out.size)
      exact h7.trans (hb8.mono h7.size)
    clear hb7 hb8 f7
    go_wp2
    go_ret
    exact ⟨rfl, B8.out⟩

end Go.Proofs.Ytpcfcheicdnogaa
