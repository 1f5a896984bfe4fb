/- The exact law on SameSurface, walked. -/
import Derived.Test.YtpiajljmjhkdoaaSmF
import Derived.Test.YtpiajljmjhkdoaaFSz
import Derived.Test.YtpiajljmjhkdoaaFEq
import Derived.Test.YtpiajljmjhkdoaaFTo
import Derived.Test.YtpiajljmjhkdoaaFOpen
namespace Go.Proofs.Ytpiajljmjhkdoaa
open Go.RowKit
set_option linter.unusedVariables false

set_option maxHeartbeats 6400000 in
set_option maxRecDepth 100000 in
theorem fnExactSameSurface_walk (nv rv : Value) (x : SurfD) (nv' rv' : Value) (y : SurfD) (w : World) (h0 : RowC 5 SNodeE w nv x.nodes) (h1 : RowC 3 SRuleE w rv x.rules) (hx : SurfaceIn x) (h2 : RowC 5 SNodeE w nv' y.nodes) (h3 : RowC 3 SRuleE w rv' y.rules) (hy : SurfaceIn y) :
    Calls Try.prog 3 #[.agg #[nv, rv], .agg #[nv', rv']] w fun e w' => e = .returned (.bool true) ∧ Below w.heap.size w w' := by
  have R0 : Hid (RowC 5 SNodeE w nv x.nodes) := h0
  have R1 : Hid (RowC 3 SRuleE w rv x.rules) := h1
  have R2 : Hid (RowC 5 SNodeE w nv' y.nodes) := h2
  have R3 : Hid (RowC 3 SRuleE w rv' y.rules) := h3
  have HXi : Hid (SurfaceIn x) := hx
  have HYi : Hid (SurfaceIn y) := hy
  obtain ⟨a0, c0, rfl⟩ := h0.slice
  obtain ⟨a1, c1, rfl⟩ := h1.slice
  obtain ⟨a2, c2, rfl⟩ := h2.slice
  obtain ⟨a3, c3, rfl⟩ := h3.slice
  clear h0 h1 h2 h3 hx hy
  have B0 : Hid (Below w.heap.size w ((w.alloc (.cells #[.slice a0 x.nodes.length c0, .slice a1 x.rules.length c1] 25)).alloc (.cells #[.slice a2 y.nodes.length c2, .slice a3 y.rules.length c3] 25))) := ((Below.refl _ _).alloc (Nat.le_refl _) _).alloc (by simp) _
  have E0 : Hid (((w.alloc (.cells #[.slice a0 x.nodes.length c0, .slice a1 x.rules.length c1] 25)).alloc (.cells #[.slice a2 y.nodes.length c2, .slice a3 y.rules.length c3] 25)).cell? ⟨w.heap.size, 0, none⟩ = some (.slice a0 x.nodes.length c0)) := box_two _ _ _ _ _ 0 _ rfl
  have E1 : Hid (((w.alloc (.cells #[.slice a0 x.nodes.length c0, .slice a1 x.rules.length c1] 25)).alloc (.cells #[.slice a2 y.nodes.length c2, .slice a3 y.rules.length c3] 25)).cell? ⟨w.heap.size, 1, none⟩ = some (.slice a1 x.rules.length c1)) := box_two _ _ _ _ _ 1 _ rfl
  have E2 : Hid (((w.alloc (.cells #[.slice a0 x.nodes.length c0, .slice a1 x.rules.length c1] 25)).alloc (.cells #[.slice a2 y.nodes.length c2, .slice a3 y.rules.length c3] 25)).cell? ⟨w.heap.size + 1, 0, none⟩ = some (.slice a2 y.nodes.length c2)) := box_two' _ _ _ _ _ 0 _ rfl
  have E3 : Hid (((w.alloc (.cells #[.slice a0 x.nodes.length c0, .slice a1 x.rules.length c1] 25)).alloc (.cells #[.slice a2 y.nodes.length c2, .slice a3 y.rules.length c3] 25)).cell? ⟨w.heap.size + 1, 1, none⟩ = some (.slice a3 y.rules.length c3)) := box_two' _ _ _ _ _ 1 _ rfl
  have SX : Hid (∀ W, Below w.heap.size w W → RowC 5 SNodeE W (.slice a0 x.nodes.length c0) x.nodes ∧ RowC 3 SRuleE W (.slice a1 x.rules.length c1) x.rules) := fun W hb => ⟨RowC.below SNodeE_stable R0.out hb, RowC.below SRuleE_stable R1.out hb⟩
  have SY : Hid (∀ W, Below w.heap.size w W → RowC 5 SNodeE W (.slice a2 y.nodes.length c2) y.nodes ∧ RowC 3 SRuleE W (.slice a3 y.rules.length c3) y.rules) := fun W hb => ⟨RowC.below SNodeE_stable R2.out hb, RowC.below SRuleE_stable R3.out hb⟩
  clear R0 R1 R2 R3
  go_enter Try.func3, Try.ntmps3
  go_wp2_with fail
  generalize (w.alloc (.cells #[.slice a0 x.nodes.length c0, .slice a1 x.rules.length c1] 25)).alloc (.cells #[.slice a2 y.nodes.length c2, .slice a3 y.rules.length c3] 25) = W0 at *
  have e0 := E0.out
  have e1 := E1.out
  have e2 := E2.out
  have e3 := E3.out
  go_wp2_with fail
  refine (gszSurface _ _ x 1048576 _ (by omega) (by omega) HXi.out (SX.out _ B0.out).1 (SX.out _ B0.out).2).mono ?_
  rintro e w1 ⟨r, rfl, hr, hb1⟩
  have B1 : Hid (Below w.heap.size w w1) := B0.out.trans (hb1.mono B0.out.size)
  have f0 := cell_keep e0 hb1
  have f1 := cell_keep e1 hb1
  have f2 := cell_keep e2 hb1
  have f3 := cell_keep e3 hb1
  clear hb1 e0 e1 e2 e3 E0 E1 E2 E3 B0
  rcases hr with rfl | ⟨hr, hr'⟩
  · go_wp2
    go_ret
    exact ⟨rfl, B1.out⟩
  have HZx : Hid (surfaceTot x ≤ 1048576) := by rw [Hid]; omega
  have hr2 : ¬ r < 0 := by omega
  go_wp2_with fail
  refine (gszSurface _ _ y r _ (by omega) (by omega) HYi.out (SY.out _ B1.out).1 (SY.out _ B1.out).2).mono ?_
  rintro e w2 ⟨r1, rfl, hr1, hb2⟩
  have B2 : Hid (Below w.heap.size w w2) := B1.out.trans (hb2.mono B1.out.size)
  have g0 := cell_keep f0 hb2
  have g1 := cell_keep f1 hb2
  have g2 := cell_keep f2 hb2
  have g3 := cell_keep f3 hb2
  clear hb2 f0 f1 f2 f3 B1
  rcases hr1 with rfl | ⟨hr1, hr1'⟩
  · go_wp2
    go_ret
    exact ⟨rfl, B2.out⟩
  have HZy : Hid (surfaceTot y ≤ 1048576) := by rw [Hid]; omega
  have hr3 : ¬ r1 < 0 := by omega
  clear hr hr' hr1 hr1' hr2
  have HTx : Hid (∀ W, Below w.heap.size w W → _) := fun W hb => gtoSurface _ _ x W HZx.out (SX.out W hb).1 (SX.out W hb).2
  have HTy : Hid (∀ W, Below w.heap.size w W → _) := fun W hb => gtoSurface _ _ y W HZy.out (SY.out W hb).1 (SY.out W hb).2
  have B3 : Hid (Below w.heap.size w w2.drew) := bel_drewN B2.out 1
  go_wp2
  go_region_held3 (fun W => W.cell? ⟨w.heap.size, 0, none⟩ = some (.slice a0 x.nodes.length c0) ∧ W.cell? ⟨w.heap.size, 1, none⟩ = some (.slice a1 x.rules.length c1) ∧ W.cell? ⟨w.heap.size + 1, 0, none⟩ = some (.slice a2 y.nodes.length c2) ∧ W.cell? ⟨w.heap.size + 1, 1, none⟩ = some (.slice a3 y.rules.length c3))
    ((first | exact gkeep4 (by assumption) hb5 | exact gkeep4 (by assumption) hb4 | exact gkeep4 (by assumption) hb3 | go_keep))
    ((first
      | (go_at_call 5; refine (specSame_any _ _ _ _ x y _ HZx.out HZy.out (RowC.below SNodeE_stable p3.here hb4) (RowC.below SRuleE_stable p3'.here hb4) p4.here p4'.here).mono ?_; rintro e w5 ⟨rfl, hb5⟩)
      | (go_at_call 6; refine (HTy.out _ (B3.out.trans (hb3.mono B3.out.size))).mono ?_; rintro e w4 ⟨o4, n4, o4', n4', rfl, p4, p4', hb4⟩)
      | (go_at_call 6; refine (HTx.out _ B3.out).mono ?_; rintro e w3 ⟨o3, n3, o3', n3', rfl, p3, p3', hb3⟩)))
  have B5 : Hid (Below w.heap.size w w5) := by
    have h3 := B3.out.trans (hb3.mono B3.out.size)
    have h4 := h3.trans (hb4.mono h3.size)
    exact h4.trans (hb5.mono h4.size)
  have k0 : w5.cell? ⟨w.heap.size, 0, none⟩ = some (.slice a0 x.nodes.length c0) := cell_keep (cell_keep (cell_keep (W := w2.drew) g0 hb3) hb4) hb5
  have k1 : w5.cell? ⟨w.heap.size, 1, none⟩ = some (.slice a1 x.rules.length c1) := cell_keep (cell_keep (cell_keep (W := w2.drew) g1 hb3) hb4) hb5
  have k2 : w5.cell? ⟨w.heap.size + 1, 0, none⟩ = some (.slice a2 y.nodes.length c2) := cell_keep (cell_keep (cell_keep (W := w2.drew) g2 hb3) hb4) hb5
  have k3 : w5.cell? ⟨w.heap.size + 1, 1, none⟩ = some (.slice a3 y.rules.length c3) := cell_keep (cell_keep (cell_keep (W := w2.drew) g3 hb3) hb4) hb5
  clear hb3 hb4 hb5 p3 p3' p4 p4' g0 g1 g2 g3 B2 B3
  go_wp2_with fail
  refine (HTx.out _ B5.out).mono ?_
  rintro e w6 ⟨o6, c6, o6', c6', rfl, f6, f6', hb6⟩
  have bal6 := (Below.refl w6.heap.size w6).alloc (Nat.le_refl _) (.cells #[.slice o6 x.nodes.length c6, .slice o6' x.rules.length c6'] 31)
  have O6 : Hid (RowC 5 SNodeE (w6.alloc (.cells #[.slice o6 x.nodes.length c6, .slice o6' x.rules.length c6'] 31)) (.slice o6 x.nodes.length c6) x.nodes ∧ RowC 3 SRuleE (w6.alloc (.cells #[.slice o6 x.nodes.length c6, .slice o6' x.rules.length c6'] 31)) (.slice o6' x.rules.length c6') x.rules) := ⟨RowC.below SNodeE_stable f6.here bal6, RowC.below SRuleE_stable f6'.here bal6⟩
  have B6 : Hid (Below w.heap.size w (w6.alloc (.cells #[.slice o6 x.nodes.length c6, .slice o6' x.rules.length c6'] 31))) := by
    have h6 := B5.out.trans (hb6.mono B5.out.size)
    exact h6.trans (bal6.mono h6.size)
  have l0 := cell_keep (cell_keep k0 hb6) bal6
  have l1 := cell_keep (cell_keep k1 hb6) bal6
  have l2 := cell_keep (cell_keep k2 hb6) bal6
  have l3 := cell_keep (cell_keep k3 hb6) bal6
  have l4 : (w6.alloc (.cells #[.slice o6 x.nodes.length c6, .slice o6' x.rules.length c6'] 31)).cell? ⟨w6.heap.size, 0, none⟩ = some (.slice o6 x.nodes.length c6) := box_at _ _ _ 0 _ rfl
  have l5 : (w6.alloc (.cells #[.slice o6 x.nodes.length c6, .slice o6' x.rules.length c6'] 31)).cell? ⟨w6.heap.size, 1, none⟩ = some (.slice o6' x.rules.length c6') := box_at _ _ _ 1 _ rfl
  clear hb6 f6 f6' bal6 k0 k1 k2 k3 B5
  go_wp2_with fail
  generalize w6.alloc (.cells #[.slice o6 x.nodes.length c6, .slice o6' x.rules.length c6'] 31) = W6 at *
  generalize w6.heap.size = b6 at *
  refine (HTy.out _ B6.out).mono ?_
  rintro e w7 ⟨o7, c7, o7', c7', rfl, f7, f7', hb7⟩
  have bal7 := (Below.refl w7.heap.size w7).alloc (Nat.le_refl _) (.cells #[.slice o7 y.nodes.length c7, .slice o7' y.rules.length c7'] 31)
  have O7 : Hid (RowC 5 SNodeE (w7.alloc (.cells #[.slice o7 y.nodes.length c7, .slice o7' y.rules.length c7'] 31)) (.slice o7 y.nodes.length c7) y.nodes ∧ RowC 3 SRuleE (w7.alloc (.cells #[.slice o7 y.nodes.length c7, .slice o7' y.rules.length c7'] 31)) (.slice o7' y.rules.length c7') y.rules) := ⟨RowC.below SNodeE_stable f7.here bal7, RowC.below SRuleE_stable f7'.here bal7⟩
  have O6' : Hid (RowC 5 SNodeE (w7.alloc (.cells #[.slice o7 y.nodes.length c7, .slice o7' y.rules.length c7'] 31)) (.slice o6 x.nodes.length c6) x.nodes ∧ RowC 3 SRuleE (w7.alloc (.cells #[.slice o7 y.nodes.length c7, .slice o7' y.rules.length c7'] 31)) (.slice o6' x.rules.length c6') x.rules) := ⟨RowC.below SNodeE_stable (RowC.below SNodeE_stable O6.out.1 hb7) bal7, RowC.below SRuleE_stable (RowC.below SRuleE_stable O6.out.2 hb7) bal7⟩
  have B7 : Hid (Below w.heap.size w (w7.alloc (.cells #[.slice o7 y.nodes.length c7, .slice o7' y.rules.length c7'] 31))) := by
    have h7 := B6.out.trans (hb7.mono B6.out.size)
    exact h7.trans (bal7.mono h7.size)
  have q0 := cell_keep (cell_keep l0 hb7) bal7
  have q1 := cell_keep (cell_keep l1 hb7) bal7
  have q2 := cell_keep (cell_keep l2 hb7) bal7
  have q3 := cell_keep (cell_keep l3 hb7) bal7
  have q4 := cell_keep (cell_keep l4 hb7) bal7
  have q5 := cell_keep (cell_keep l5 hb7) bal7
  have q6 : (w7.alloc (.cells #[.slice o7 y.nodes.length c7, .slice o7' y.rules.length c7'] 31)).cell? ⟨w7.heap.size, 0, none⟩ = some (.slice o7 y.nodes.length c7) := box_at _ _ _ 0 _ rfl
  have q7 : (w7.alloc (.cells #[.slice o7 y.nodes.length c7, .slice o7' y.rules.length c7'] 31)).cell? ⟨w7.heap.size, 1, none⟩ = some (.slice o7' y.rules.length c7') := box_at _ _ _ 1 _ rfl
  clear hb7 f7 f7' bal7 l0 l1 l2 l3 l4 l5 B6 O6
  go_wp2_with fail
  generalize w7.alloc (.cells #[.slice o7 y.nodes.length c7, .slice o7' y.rules.length c7'] 31) = W7 at *
  generalize w7.heap.size = b7 at *
  refine (implSame_any _ _ _ _ x y _ HZx.out HZy.out O6'.out.1 O6'.out.2 O7.out.1 O7.out.2).mono ?_
  rintro e w8 ⟨rfl, hb8⟩
  have B8 : Hid (Below w.heap.size w w8) := B7.out.trans (hb8.mono B7.out.size)
  have P8 : Hid (RowC 5 SNodeE w8 (.slice o7 y.nodes.length c7) y.nodes ∧ RowC 3 SRuleE w8 (.slice o7' y.rules.length c7') y.rules) := ⟨RowC.below SNodeE_stable O7.out.1 hb8, RowC.below SRuleE_stable O7.out.2 hb8⟩
  have G8 : Hid (RowC 5 SNodeE w8 (.slice o6 x.nodes.length c6) x.nodes ∧ RowC 3 SRuleE w8 (.slice o6' x.rules.length c6') x.rules) := ⟨RowC.below SNodeE_stable O6'.out.1 hb8, RowC.below SRuleE_stable O6'.out.2 hb8⟩
  have s0 := cell_keep q0 hb8
  have s1 := cell_keep q1 hb8
  have s2 := cell_keep q2 hb8
  have s3 := cell_keep q3 hb8
  have s4 := cell_keep q4 hb8
  have s5 := cell_keep q5 hb8
  have s6 := cell_keep q6 hb8
  have s7 := cell_keep q7 hb8
  clear hb8 q0 q1 q2 q3 q4 q5 q6 q7 B7 O7 O6'
  generalize same x y = bb at *
  have HQ : Hid (∀ u u' v v' W, RowC 5 SNodeE W u x.nodes → RowC 3 SRuleE W u' x.rules → RowC 5 SNodeE W v x.nodes → RowC 3 SRuleE W v' x.rules → _) := fun u u' v v' W h h2 h3 h4 => geqSurface u u' v v' x W HZx.out h h3 h2 h4
  have HQ' : Hid (∀ u u' v v' W, RowC 5 SNodeE W u y.nodes → RowC 3 SRuleE W u' y.rules → RowC 5 SNodeE W v y.nodes → RowC 3 SRuleE W v' y.rules → _) := fun u u' v v' W h h2 h3 h4 => geqSurface u u' v v' y W HZy.out h h3 h2 h4
  have B9 : Hid (Below w.heap.size w w8.drew) := bel_drewN B8.out 1
  have G9 : Hid (RowC 5 SNodeE w8.drew (.slice o6 x.nodes.length c6) x.nodes ∧ RowC 3 SRuleE w8.drew (.slice o6' x.rules.length c6') x.rules) := ⟨RowC.below SNodeE_stable G8.out.1 (bel_drewN (Below.refl _ _) 1), RowC.below SRuleE_stable G8.out.2 (bel_drewN (Below.refl _ _) 1)⟩
  have hbb : (bb != bb) = false := by cases bb <;> rfl
  go_wp2
  go_region_held3 (fun W => W.cell? ⟨w.heap.size, 0, none⟩ = some (.slice a0 x.nodes.length c0) ∧ W.cell? ⟨w.heap.size, 1, none⟩ = some (.slice a1 x.rules.length c1) ∧ W.cell? ⟨b6, 0, none⟩ = some (.slice o6 x.nodes.length c6) ∧ W.cell? ⟨b6, 1, none⟩ = some (.slice o6' x.rules.length c6'))
    ((first | exact gkeep4 (by assumption) hb10 | exact gkeep4 (by assumption) hb9 | go_keep))
    ((first
      | (go_at_call 8; refine (HQ.out _ _ _ _ _ (RowC.below SNodeE_stable G9.out.1 hb9) (RowC.below SRuleE_stable G9.out.2 hb9) f9.here f9'.here).mono ?_; rintro e w10 ⟨rfl, hb10⟩)
      | (go_at_call 6; refine (HTx.out _ B9.out).mono ?_; rintro e w9 ⟨o9, c9, o9', c9', rfl, f9, f9', hb9⟩)))
  have B10 : Hid (Below w.heap.size w w10) := by
    have h9 := B9.out.trans (hb9.mono B9.out.size)
    exact h9.trans (hb10.mono h9.size)
  have bd := bel_drewN (Below.refl w8.heap.size w8) 1
  have P10 : Hid (RowC 5 SNodeE w10 (.slice o7 y.nodes.length c7) y.nodes ∧ RowC 3 SRuleE w10 (.slice o7' y.rules.length c7') y.rules) := ⟨RowC.below SNodeE_stable (RowC.below SNodeE_stable (RowC.below SNodeE_stable P8.out.1 bd) hb9) hb10, RowC.below SRuleE_stable (RowC.below SRuleE_stable (RowC.below SRuleE_stable P8.out.2 bd) hb9) hb10⟩
  have t2 : w10.cell? ⟨w.heap.size + 1, 0, none⟩ = some (.slice a2 y.nodes.length c2) := cell_keep (cell_keep (W := w8.drew) s2 hb9) hb10
  have t3 : w10.cell? ⟨w.heap.size + 1, 1, none⟩ = some (.slice a3 y.rules.length c3) := cell_keep (cell_keep (W := w8.drew) s3 hb9) hb10
  have t6 : w10.cell? ⟨b7, 0, none⟩ = some (.slice o7 y.nodes.length c7) := cell_keep (cell_keep (W := w8.drew) s6 hb9) hb10
  have t7 : w10.cell? ⟨b7, 1, none⟩ = some (.slice o7' y.rules.length c7') := cell_keep (cell_keep (W := w8.drew) s7 hb9) hb10
  clear bd hb9 hb10 f9 f9' s0 s1 s2 s3 s4 s5 s6 s7 B8 B9 P8 G8 G9
  have B11 : Hid (Below w.heap.size w w10.drew) := bel_drewN B10.out 1
  have P11 : Hid (RowC 5 SNodeE w10.drew (.slice o7 y.nodes.length c7) y.nodes ∧ RowC 3 SRuleE w10.drew (.slice o7' y.rules.length c7') y.rules) := ⟨RowC.below SNodeE_stable P10.out.1 (bel_drewN (Below.refl _ _) 1), RowC.below SRuleE_stable P10.out.2 (bel_drewN (Below.refl _ _) 1)⟩
  go_wp2
  go_region_held3 (fun W => W.cell? ⟨w.heap.size + 1, 0, none⟩ = some (.slice a2 y.nodes.length c2) ∧ W.cell? ⟨w.heap.size + 1, 1, none⟩ = some (.slice a3 y.rules.length c3) ∧ W.cell? ⟨b7, 0, none⟩ = some (.slice o7 y.nodes.length c7) ∧ W.cell? ⟨b7, 1, none⟩ = some (.slice o7' y.rules.length c7'))
    ((first | exact gkeep4 (by assumption) hb12 | exact gkeep4 (by assumption) hb11 | go_keep))
    ((first
      | (go_at_call 8; refine (HQ'.out _ _ _ _ _ (RowC.below SNodeE_stable P11.out.1 hb11) (RowC.below SRuleE_stable P11.out.2 hb11) f11.here f11'.here).mono ?_; rintro e w12 ⟨rfl, hb12⟩)
      | (go_at_call 6; refine (HTy.out _ B11.out).mono ?_; rintro e w11 ⟨o11, c11, o11', c11', rfl, f11, f11', hb11⟩)))
  have B12 : Hid (Below w.heap.size w w12) := by
    have h9 := B11.out.trans (hb11.mono B11.out.size)
    exact h9.trans (hb12.mono h9.size)
  clear hb11 hb12 f11 f11'
  go_wp2
  go_ret
  exact ⟨rfl, B12.out⟩

end Go.Proofs.Ytpiajljmjhkdoaa
