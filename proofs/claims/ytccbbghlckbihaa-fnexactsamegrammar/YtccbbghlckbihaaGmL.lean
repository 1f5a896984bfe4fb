/- The exact law on SameGrammar, walked. -/
import Derived.Test.YtccbbghlckbihaaGmI
import Derived.Test.YtccbbghlckbihaaGmF
import Derived.Test.YtccbbghlckbihaaGSz
import Derived.Test.YtccbbghlckbihaaGEq
import Derived.Test.YtccbbghlckbihaaGTo
import Derived.Test.YtccbbghlckbihaaGOpen
namespace Go.Proofs.Ytccbbghlckbihaa
open Go.RowKit
set_option linter.unusedVariables false

set_option maxHeartbeats 6400000 in
set_option maxRecDepth 100000 in
theorem fnExactSameGrammar_walk (rv : Value) (x : List RuleD) (rv' : Value) (y : List RuleD) (w : World) (h0 : RowC 3 RuleE w rv x) (hx : GrammarIn x) (h1 : RowC 3 RuleE w rv' y) (hy : GrammarIn y) :
    Calls Try.prog 3 #[.agg #[rv], .agg #[rv']] w fun e w' => e = .returned (.bool true) ∧ Below w.heap.size w w' := by
  have R0 : Hid (RowC 3 RuleE w rv x) := h0
  have R1 : Hid (RowC 3 RuleE w rv' y) := h1
  have HXi : Hid (GrammarIn x) := hx
  have HYi : Hid (GrammarIn y) := hy
  obtain ⟨a0, c0, rfl⟩ := h0.slice
  obtain ⟨a1, c1, rfl⟩ := h1.slice
  clear h0 h1 hx hy
  have B0 : Hid (Below w.heap.size w ((w.alloc (.cells #[.slice a0 x.length c0] 24)).alloc (.cells #[.slice a1 y.length c1] 24))) := ((Below.refl _ _).alloc (Nat.le_refl _) _).alloc (by simp) _
  have E0 : Hid (((w.alloc (.cells #[.slice a0 x.length c0] 24)).alloc (.cells #[.slice a1 y.length c1] 24)).cell? ⟨w.heap.size, 0, none⟩ = some (.slice a0 x.length c0)) := box_two _ _ _ _ _ 0 _ rfl
  have E1 : Hid (((w.alloc (.cells #[.slice a0 x.length c0] 24)).alloc (.cells #[.slice a1 y.length c1] 24)).cell? ⟨w.heap.size + 1, 0, none⟩ = some (.slice a1 y.length c1)) := box_two' _ _ _ _ _ 0 _ rfl
  have SX : Hid (∀ W, Below w.heap.size w W → RowC 3 RuleE W (.slice a0 x.length c0) x) := fun W hb => RowC.below RuleE_stable R0.out hb
  have SY : Hid (∀ W, Below w.heap.size w W → RowC 3 RuleE W (.slice a1 y.length c1) y) := fun W hb => RowC.below RuleE_stable R1.out hb
  clear R0 R1
  go_enter Try.func3, Try.ntmps3
  go_wp2_with fail
  generalize (w.alloc (.cells #[.slice a0 x.length c0] 24)).alloc (.cells #[.slice a1 y.length c1] 24) = W0 at *
  have e0 := E0.out
  have e1 := E1.out
  go_wp2_with fail
  refine (gszGrammar _ x 1048576 _ (by omega) (by omega) HXi.out (SX.out _ B0.out)).mono ?_
  rintro e w1 ⟨r, rfl, hr, hb1⟩
  have B1 : Hid (Below w.heap.size w w1) := B0.out.trans (hb1.mono B0.out.size)
  have f0 := cell_keep e0 hb1
  have f1 := cell_keep e1 hb1
  clear hb1 e0 e1 E0 E1 B0
  rcases hr with rfl | ⟨hr, hr'⟩
  · go_wp2
    go_ret
    exact ⟨rfl, B1.out⟩
  have HZx : Hid (grammarTot x ≤ 1048576) := by rw [Hid]; omega
  have hr2 : ¬ r < 0 := by omega
  go_wp2_with fail
  refine (gszGrammar _ y r _ (by omega) (by omega) HYi.out (SY.out _ B1.out)).mono ?_
  rintro e w2 ⟨r1, rfl, hr1, hb2⟩
  have B2 : Hid (Below w.heap.size w w2) := B1.out.trans (hb2.mono B1.out.size)
  have g0 := cell_keep f0 hb2
  have g1 := cell_keep f1 hb2
  clear hb2 f0 f1 B1
  rcases hr1 with rfl | ⟨hr1, hr1'⟩
  · go_wp2
    go_ret
    exact ⟨rfl, B2.out⟩
  have HZy : Hid (grammarTot y ≤ 1048576) := by rw [Hid]; omega
  have hr3 : ¬ r1 < 0 := by omega
  clear hr hr' hr1 hr1' hr2
  have HTx : Hid (∀ W, Below w.heap.size w W → _) := fun W hb => gtoGrammar _ x W HZx.out (SX.out W hb)
  have HTy : Hid (∀ W, Below w.heap.size w W → _) := fun W hb => gtoGrammar _ y W HZy.out (SY.out W hb)
  have B3 : Hid (Below w.heap.size w w2.drew) := bel_drewN B2.out 1
  go_wp2
  go_region_held3 (fun W => W.cell? ⟨w.heap.size, 0, none⟩ = some (.slice a0 x.length c0) ∧ W.cell? ⟨w.heap.size + 1, 0, none⟩ = some (.slice a1 y.length c1))
    ((first | exact gkeep2 (by assumption) hb5 | exact gkeep2 (by assumption) hb4 | exact gkeep2 (by assumption) hb3 | go_keep))
    ((first
      | (go_at_call 5; refine (specSameG_any _ _ x y _ HZx.out HZy.out (RowC.below RuleE_stable p3.here hb4) p4.here).mono ?_; rintro e w5 ⟨rfl, hb5⟩)
      | (go_at_call 6; refine (HTy.out _ (B3.out.trans (hb3.mono B3.out.size))).mono ?_; rintro e w4 ⟨o4, n4, rfl, p4, hb4⟩)
      | (go_at_call 6; refine (HTx.out _ B3.out).mono ?_; rintro e w3 ⟨o3, n3, rfl, p3, hb3⟩)))
  have B5 : Hid (Below w.heap.size w w5) := by
    have h3 := B3.out.trans (hb3.mono B3.out.size)
    have h4 := h3.trans (hb4.mono h3.size)
    exact h4.trans (hb5.mono h4.size)
  have k0 : w5.cell? ⟨w.heap.size, 0, none⟩ = some (.slice a0 x.length c0) := cell_keep (cell_keep (cell_keep (W := w2.drew) g0 hb3) hb4) hb5
  have k1 : w5.cell? ⟨w.heap.size + 1, 0, none⟩ = some (.slice a1 y.length c1) := cell_keep (cell_keep (cell_keep (W := w2.drew) g1 hb3) hb4) hb5
  clear hb3 hb4 hb5 p3 p4 g0 g1 B2 B3
  go_wp2_with fail
  refine (HTx.out _ B5.out).mono ?_
  rintro e w6 ⟨o6, c6, rfl, f6, hb6⟩
  have bal6 := (Below.refl w6.heap.size w6).alloc (Nat.le_refl _) (.cells #[.slice o6 x.length c6] 29)
  have O6 : Hid (RowC 3 RuleE (w6.alloc (.cells #[.slice o6 x.length c6] 29)) (.slice o6 x.length c6) x) := RowC.below RuleE_stable f6.here bal6
  have B6 : Hid (Below w.heap.size w (w6.alloc (.cells #[.slice o6 x.length c6] 29))) := by
    have h6 := B5.out.trans (hb6.mono B5.out.size)
    exact h6.trans (bal6.mono h6.size)
  have l0 := cell_keep (cell_keep k0 hb6) bal6
  have l1 := cell_keep (cell_keep k1 hb6) bal6
  have l2 : (w6.alloc (.cells #[.slice o6 x.length c6] 29)).cell? ⟨w6.heap.size, 0, none⟩ = some (.slice o6 x.length c6) := box_at _ _ _ 0 _ rfl
  clear hb6 f6 bal6 k0 k1 B5
  go_wp2_with fail
  generalize w6.alloc (.cells #[.slice o6 x.length c6] 29) = W6 at *
  generalize w6.heap.size = b6 at *
  refine (HTy.out _ B6.out).mono ?_
  rintro e w7 ⟨o7, c7, rfl, f7, hb7⟩
  have bal7 := (Below.refl w7.heap.size w7).alloc (Nat.le_refl _) (.cells #[.slice o7 y.length c7] 29)
  have O7 : Hid (RowC 3 RuleE (w7.alloc (.cells #[.slice o7 y.length c7] 29)) (.slice o7 y.length c7) y) := RowC.below RuleE_stable f7.here bal7
  have O6' : Hid (RowC 3 RuleE (w7.alloc (.cells #[.slice o7 y.length c7] 29)) (.slice o6 x.length c6) x) := RowC.below RuleE_stable (RowC.below RuleE_stable O6.out hb7) bal7
  have B7 : Hid (Below w.heap.size w (w7.alloc (.cells #[.slice o7 y.length c7] 29))) := by
    have h7 := B6.out.trans (hb7.mono B6.out.size)
    exact h7.trans (bal7.mono h7.size)
  have q0 := cell_keep (cell_keep l0 hb7) bal7
  have q1 := cell_keep (cell_keep l1 hb7) bal7
  have q2 := cell_keep (cell_keep l2 hb7) bal7
  have q3 : (w7.alloc (.cells #[.slice o7 y.length c7] 29)).cell? ⟨w7.heap.size, 0, none⟩ = some (.slice o7 y.length c7) := box_at _ _ _ 0 _ rfl
  clear hb7 f7 bal7 l0 l1 l2 B6 O6
  go_wp2_with fail
  generalize w7.alloc (.cells #[.slice o7 y.length c7] 29) = W7 at *
  generalize w7.heap.size = b7 at *
  refine (implSameG_any _ _ x y _ HZx.out HZy.out O6'.out O7.out).mono ?_
  rintro e w8 ⟨rfl, hb8⟩
  have B8 : Hid (Below w.heap.size w w8) := B7.out.trans (hb8.mono B7.out.size)
  have P8 : Hid (RowC 3 RuleE w8 (.slice o7 y.length c7) y) := RowC.below RuleE_stable O7.out hb8
  have G8 : Hid (RowC 3 RuleE w8 (.slice o6 x.length c6) x) := RowC.below RuleE_stable O6'.out hb8
  have s0 := cell_keep q0 hb8
  have s1 := cell_keep q1 hb8
  have s2 := cell_keep q2 hb8
  have s3 := cell_keep q3 hb8
  clear hb8 q0 q1 q2 q3 B7 O7 O6'
  generalize same x y = bb at *
  have HQ : Hid (∀ u v W, RowC 3 RuleE W u x → RowC 3 RuleE W v x → _) := fun u v W h h2 => geqGrammar u v x W HZx.out h h2
  have HQ' : Hid (∀ u v W, RowC 3 RuleE W u y → RowC 3 RuleE W v y → _) := fun u v W h h2 => geqGrammar u v y W HZy.out h h2
  have B9 : Hid (Below w.heap.size w w8.drew) := bel_drewN B8.out 1
  have G9 : Hid (RowC 3 RuleE w8.drew (.slice o6 x.length c6) x) := RowC.below RuleE_stable G8.out (bel_drewN (Below.refl _ _) 1)
  have hbb : (bb != bb) = false := by cases bb <;> rfl
  go_wp2
  go_region_held3 (fun W => W.cell? ⟨w.heap.size, 0, none⟩ = some (.slice a0 x.length c0) ∧ W.cell? ⟨b6, 0, none⟩ = some (.slice o6 x.length c6))
    ((first | exact gkeep2 (by assumption) hb10 | exact gkeep2 (by assumption) hb9 | go_keep))
    ((first
      | (go_at_call 8; refine (HQ.out _ _ _ (RowC.below RuleE_stable G9.out hb9) f9.here).mono ?_; rintro e w10 ⟨rfl, hb10⟩)
      | (go_at_call 6; refine (HTx.out _ B9.out).mono ?_; rintro e w9 ⟨o9, c9, rfl, f9, hb9⟩)))
  have B10 : Hid (Below w.heap.size w w10) := by
    have h9 := B9.out.trans (hb9.mono B9.out.size)
    exact h9.trans (hb10.mono h9.size)
  have bd := bel_drewN (Below.refl w8.heap.size w8) 1
  have P10 : Hid (RowC 3 RuleE w10 (.slice o7 y.length c7) y) := RowC.below RuleE_stable (RowC.below RuleE_stable (RowC.below RuleE_stable P8.out bd) hb9) hb10
  have t1 : w10.cell? ⟨w.heap.size + 1, 0, none⟩ = some (.slice a1 y.length c1) := cell_keep (cell_keep (W := w8.drew) s1 hb9) hb10
  have t3 : w10.cell? ⟨b7, 0, none⟩ = some (.slice o7 y.length c7) := cell_keep (cell_keep (W := w8.drew) s3 hb9) hb10
  clear bd hb9 hb10 f9 s0 s1 s2 s3 B8 B9 P8 G8 G9
  have B11 : Hid (Below w.heap.size w w10.drew) := bel_drewN B10.out 1
  have P11 : Hid (RowC 3 RuleE w10.drew (.slice o7 y.length c7) y) := RowC.below RuleE_stable P10.out (bel_drewN (Below.refl _ _) 1)
  go_wp2
  go_region_held3 (fun W => W.cell? ⟨w.heap.size + 1, 0, none⟩ = some (.slice a1 y.length c1) ∧ W.cell? ⟨b7, 0, none⟩ = some (.slice o7 y.length c7))
    ((first | exact gkeep2 (by assumption) hb12 | exact gkeep2 (by assumption) hb11 | go_keep))
    ((first
      | (go_at_call 8; refine (HQ'.out _ _ _ (RowC.below RuleE_stable P11.out hb11) f11.here).mono ?_; rintro e w12 ⟨rfl, hb12⟩)
      | (go_at_call 6; refine (HTy.out _ B11.out).mono ?_; rintro e w11 ⟨o11, c11, rfl, f11, hb11⟩)))
  have B12 : Hid (Below w.heap.size w w12) := by
    have h9 := B11.out.trans (hb11.mono B11.out.size)
    exact h9.trans (hb12.mono h9.size)
  clear hb11 hb12 f11
  go_wp2
  go_ret
  exact ⟨rfl, B12.out⟩

end Go.Proofs.Ytccbbghlckbihaa
