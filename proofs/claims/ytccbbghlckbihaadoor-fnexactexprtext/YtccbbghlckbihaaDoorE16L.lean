/- The exact law on ExprText, walked. -/
import Derived.Test.YtccbbghlckbihaaDoorE16S
import Derived.Test.YtccbbghlckbihaaDoorE16I
import Derived.Test.YtccbbghlckbihaaDoorXLaw
namespace Go.Proofs.YtccbbghlckbihaaDoor
open Go.RowKit
set_option linter.unusedVariables false

set_option maxHeartbeats 1600000 in
theorem fnExactExprText_walk (v : Value) (ns : List NodeD) (w : World) (h : NArg w v ns) (hg : errTy w) :
    Calls Tryd.prog 3 #[.agg #[v]] w fun e w' => e = .returned (.bool true) ∧ Below w.heap.size w w' := by
  have HA : Hid (NArg w v ns) := h
  have HI : Hid (∀ (v : Value) (W : World), Below w.heap.size w W → NIn ns → NRow W v ns → Calls Tryd.prog 7 #[.agg #[v]] W fun e w' => e = .returned (.tuple #[.string (str (exprT ns)), .bool (exprB ns)]) ∧ Below W.heap.size W w') := fun v W hb hz hv => implExprText_any v ns W (hg.below hb) hz hv
  obtain ⟨a, cap, rfl⟩ := h.1.slice
  clear h hg
  have B0 : Hid (Below w.heap.size w (w.alloc (.cells #[.slice a ns.length cap] 24))) := (Below.refl _ _).alloc (Nat.le_refl _) _
  have E0 : Hid ((w.alloc (.cells #[.slice a ns.length cap] 24)).cell? ⟨w.heap.size, 0, none⟩ = some (.slice a ns.length cap)) := lit_one _ _ _
  go_enter Tryd.func3, Tryd.ntmps3
  go_wp2_with fail
  refine (szExpr_any _ ns 1048576 _ (by omega) (by omega) ⟨HA.out.1.below B0.out, HA.out.2⟩).mono ?_
  rintro e w1 ⟨r, rfl, hr, hb1⟩
  have B1 : Hid (Below w.heap.size w w1) := B0.out.trans (hb1.mono B0.out.size)
  have hE1 := cell_keep E0.out hb1
  clear hb1 E0 B0
  rcases hr with rfl | hr
  · go_wp2
    go_ret
    exact ⟨rfl, B1.out⟩
  · have HV : Hid (NIn ns) := nIn_of (by omega) hr HA.out.2.2
    have hr2 : ¬ r < 0 := by omega
    have hxl : ns.length ≤ 1048576 := HV.out.1
    clear hr
    go_wp2_with fail
    refine (toExpr_any _ ns _ hxl HV.out.kids (HA.out.1.below B1.out)).mono ?_
    rintro e w2 ⟨o2, rfl, ho2, hb2⟩
    have O2 : Hid (NRow w2 o2 ns) := ho2.row
    have B2 : Hid (Below w.heap.size w w2) := B1.out.trans (hb2.mono B1.out.size)
    have hE2 := cell_keep hE1 hb2
    clear hb2 ho2 hE1
    go_wp2_with fail
    refine (specExprText_any _ ns _ HV.out O2.out).mono ?_
    rintro e w3 ⟨rfl, hb3⟩
    have B3 : Hid (Below w.heap.size w w3) := B2.out.trans (hb3.mono B2.out.size)
    have hE3 := cell_keep hE2 hb3
    clear hb3 hE2
    generalize HSt : str (exprT ns) = st at *
    generalize HBb : exprB ns = bb at *
    have HI2 : Hid (∀ (v : Value) (W : World), Below w.heap.size w W → NIn ns → NRow W v ns → Calls Tryd.prog 7 #[.agg #[v]] W fun e w' => e = .returned (.tuple #[.string st, .bool bb]) ∧ Below W.heap.size W w') := HI.out
    clear HI HSt HBb
    go_wp2_with fail
    refine (toExpr_any _ ns _ hxl HV.out.kids (HA.out.1.below B3.out)).mono ?_
    rintro e w4 ⟨o4, rfl, ho4, hb4⟩
    obtain ⟨a4, c4, rfl⟩ := ho4.row.slice
    have bal := (Below.refl w4.heap.size w4).alloc (Nat.le_refl _) (.cells #[.slice a4 ns.length c4] 30)
    have O5 : Hid (NRow (w4.alloc (.cells #[.slice a4 ns.length c4] 30)) (.slice a4 ns.length c4) ns) := ho4.row.below bal
    have B4 : Hid (Below w.heap.size w w4) := B3.out.trans (hb4.mono B3.out.size)
    have B5 : Hid (Below w.heap.size w (w4.alloc (.cells #[.slice a4 ns.length c4] 30))) := B4.out.trans (bal.mono B4.out.size)
    have hE5 := cell_keep (cell_keep hE3 hb4) bal
    have hX5 := lit_one w4 (.slice a4 ns.length c4) 30
    clear hb4 ho4 bal hE3
    go_wp2_with fail
    generalize w4.alloc (.cells #[.slice a4 ns.length c4] 30) = w5 at *
    generalize w4.heap.size = H4 at *
    refine (HI2.out _ _ B5.out HV.out O5.out).mono ?_
    rintro e w6 ⟨rfl, hb6⟩
    have O6 : Hid (NRow w6 (.slice a4 ns.length c4) ns) := O5.out.below hb6
    have B6 : Hid (Below w.heap.size w w6) := B5.out.trans (hb6.mono B5.out.size)
    have hE6 := cell_keep hE5 hb6
    have hX6 := cell_keep hX5 hb6
    clear hb6 hE5 hX5
    have HT : Hid (_) := toExpr_any (.slice a ns.length cap) ns w6.drew hxl HV.out.kids (HA.out.1.below (bel_drewN B6.out 1))
    have O6d : Hid (NRow w6.drew (.slice a4 ns.length c4) ns) := O6.out.below (bel_drewN (Below.refl _ _) 1)
    have hbb : (bb != bb) = false := by cases bb <;> rfl
    go_wp2
    go_region_held3 (fun W => W.cell? ⟨w.heap.size, 0, none⟩ = some (.slice a ns.length cap) ∧ W.cell? ⟨H4, 0, none⟩ = some (.slice a4 ns.length c4))
      ((first | exact keep2 (by assumption) hb8 | exact keep2 (by assumption) hb7 | go_keep))
      ((first
        | (go_at_call 6; refine Calls.mono HT.out ?_; rintro e w7 ⟨o7, rfl, ho7, hb7⟩)
        | (go_at_call 8; refine (eqExpr_same _ _ ns _ hxl HV.out.kids (O6d.out.below hb7) ho7.row).mono ?_; rintro e w8 ⟨rfl, hb8⟩)))
    have B8 : Hid (Below w.heap.size w w8) := by
      have h7 := B6.out.trans ((bel_of_drew hb7).mono B6.out.size)
      exact h7.trans (hb8.mono h7.size)
    clear hb7 hb8 ho7
    go_wp2
    go_ret
    exact ⟨rfl, B8.out⟩

end Go.Proofs.YtccbbghlckbihaaDoor
