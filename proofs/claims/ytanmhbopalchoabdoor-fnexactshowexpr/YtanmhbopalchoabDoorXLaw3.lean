/- ShowExpr of the specification; the exact law on ShowExpr, walked out of contracts, the program's own contract handed in. -/
import Derived.Test.YtanmhbopalchoabDoorXLaw
import Derived.Test.YtanmhbopalchoabDoorXShow
namespace Go.Proofs.YtanmhbopalchoabDoor
open Go.RowKit

set_option maxHeartbeats 1600000 in
set_option maxRecDepth 100000 in
theorem specShowExpr_any (v : Value) (ns : List NodeD) (w : World) (hin : NIn ns) (h : NRow w v ns) :
    Calls Tryd.prog 14 #[.agg #[v]] w fun e w' => e = .returned (.string (showB ns)) ∧ Below w.heap.size w w' := by
  have HR : Hid (NRow w v ns) := h
  have HIn : Hid (NIn ns) := hin
  obtain ⟨a, cap, rfl⟩ := h.slice
  clear h hin
  have B0 : Hid (Below w.heap.size w (w.alloc (.cells #[.slice a ns.length cap] 30))) := (Below.refl _ _).alloc (Nat.le_refl _) _
  have E0 : Hid ((w.alloc (.cells #[.slice a ns.length cap] 30)).cell? ⟨w.heap.size, 0, none⟩ = some (.slice a ns.length cap)) := lit_one _ _ _
  cases hex : exprB ns with
  | false =>
    have HEx : Hid (∀ W, NRow W (.slice a ns.length cap) ns → _) := fun W => specExprOk_is (.slice a ns.length cap) ns false hex W HIn.out
    have HF : Hid (showB ns = ⟨#[]⟩) := by rw [Hid, showB, hex]; exact if_neg (fun h => by cases h.1)
    rw [HF.out]
    clear hex
    go_enter Tryd.func14, Tryd.ntmps14
    go_wp2_with fail
    refine (HEx.out _ (HR.out.below B0.out)).mono ?_
    rintro e w1 ⟨rfl, hb1⟩
    have B1 : Hid (Below w.heap.size w w1) := B0.out.trans (hb1.mono B0.out.size)
    clear hb1
    go_wp2
    go_ret
    exact ⟨rfl, B1.out⟩
  | true =>
    have HEx : Hid (∀ W, NRow W (.slice a ns.length cap) ns → _) := fun W => specExprOk_is (.slice a ns.length cap) ns true hex W HIn.out
    have HSz : Hid (∀ W, NRow W (.slice a ns.length cap) ns → _) := fun W => l04Size_any (.slice a ns.length cap) ns W hex
    have hl := (exprB_at hex).1
    have HSh : Hid (∀ W, NRow W (.slice a ns.length cap) ns → _) := l04Show_any hex ns.length (ns.length - 1) (by omega) (by omega) (by omega) (.slice a ns.length cap)
    have HF : Hid (sizeB ns ≤ 200 → showB ns = showN ns.length ns (ns.length - 1)) := fun h => by rw [showB, hex]; exact if_pos ⟨rfl, h⟩
    have HF' : Hid (¬ sizeB ns ≤ 200 → showB ns = ⟨#[]⟩) := fun h => by rw [showB, hex]; exact if_neg (fun h' => h h'.2)
    clear hex
    generalize showN ns.length ns (ns.length - 1) = T at *
    generalize showB ns = R at *
    generalize sizeB ns = S at *
    go_enter Tryd.func14, Tryd.ntmps14
    go_wp2_with fail
    refine (HEx.out _ (HR.out.below B0.out)).mono ?_
    rintro e w1 ⟨rfl, hb1⟩
    have B1 : Hid (Below w.heap.size w w1) := B0.out.trans (hb1.mono B0.out.size)
    have hE1 := cell_keep E0.out hb1
    clear hb1 E0 B0
    go_wp2_with fail
    refine (HSz.out _ (HR.out.below B1.out)).mono ?_
    rintro e w2 ⟨rfl, hb2⟩
    have B2 : Hid (Below w.heap.size w w2) := B1.out.trans (hb2.mono B1.out.size)
    have hE2 := cell_keep hE1 hb2
    clear hb2 hE1
    by_cases hs : S ≤ 200
    · obtain rfl := HF.out hs
      have hs2 : ¬ 200 < S := by omega
      have i1 : IntKind.i64.wrap ((ns.length : Int) - 1) = ((ns.length - 1 : Nat) : Int) := by rw [IntKind.wrap_i64]; omega
      clear HF HF'
      go_wp2_with fail
      refine (HSh.out _ (HR.out.below B2.out)).mono ?_
      rintro e w3 ⟨rfl, hb3⟩
      have B3 := B2.out.trans (hb3.mono B2.out.size)
      clear hb3
      go_wp2
      go_ret
      exact ⟨rfl, B3⟩
    · obtain rfl := HF'.out (by omega)
      have hs2 : 200 < S := by omega
      clear HF HF'
      go_wp2
      go_ret
      exact ⟨rfl, B2.out⟩

set_option maxHeartbeats 1600000 in
set_option maxRecDepth 100000 in
theorem fnExactShowExpr_of (v : Value) (ns : List NodeD) (w : World) (hI : ∀ (v : Value) (ns : List NodeD) (W : World), Below w.heap.size w W → NIn ns → NRow W v ns → Calls Tryd.prog 15 #[.agg #[v]] W fun e w' => e = .returned (.string (showB ns)) ∧ Below W.heap.size W w') (h : NArg w v ns) :
    Calls Tryd.prog 4 #[.agg #[v]] w fun e w' => e = .returned (.bool true) ∧ Below w.heap.size w w' := by
  have HA : Hid (NArg w v ns) := h
  have HI : Hid (∀ (v : Value) (ns : List NodeD) (W : World), Below w.heap.size w W → NIn ns → NRow W v ns → Calls Tryd.prog 15 #[.agg #[v]] W fun e w' => e = .returned (.string (showB ns)) ∧ Below W.heap.size W w') := hI
  obtain ⟨a, cap, rfl⟩ := h.1.slice
  clear h hI
  have B0 : Hid (Below w.heap.size w (w.alloc (.cells #[.slice a ns.length cap] 24))) := (Below.refl _ _).alloc (Nat.le_refl _) _
  have E0 : Hid ((w.alloc (.cells #[.slice a ns.length cap] 24)).cell? ⟨w.heap.size, 0, none⟩ = some (.slice a ns.length cap)) := lit_one _ _ _
  go_enter Tryd.func4, Tryd.ntmps4
  go_wp2_with fail
  refine (szExpr_any _ ns 1048576 _ (by omega) (by omega) ⟨HA.out.1.below B0.out, HA.out.2⟩).mono ?_
  rintro e w1 ⟨r, rfl, hr, hb1⟩
  have B1 : Hid (Below w.heap.size w w1) := B0.out.trans (hb1.mono B0.out.size)
  have hE1 := cell_keep E0.out hb1
  clear hb1 E0 B0
  rcases hr with rfl | hr
  · go_wp2
    go_ret
    exact ⟨rfl, B1.out⟩
  · have HV : Hid (NIn ns) := nIn_of (by omega) hr HA.out.2.2
    have hr2 : ¬ r < 0 := by omega
    have hxl : ns.length ≤ 1048576 := HV.out.1
    clear hr
    go_wp2_with fail
    refine (toExpr_any _ ns _ hxl HV.out.kids (HA.out.1.below B1.out)).mono ?_
    rintro e w2 ⟨o2, rfl, ho2, hb2⟩
    have O2 : Hid (NRow w2 o2 ns) := ho2.row
    have B2 : Hid (Below w.heap.size w w2) := B1.out.trans (hb2.mono B1.out.size)
    have hE2 := cell_keep hE1 hb2
    clear hb2 ho2 hE1
    go_wp2_with fail
    refine (specShowExpr_any _ ns _ HV.out O2.out).mono ?_
    rintro e w3 ⟨rfl, hb3⟩
    have B3 : Hid (Below w.heap.size w w3) := B2.out.trans (hb3.mono B2.out.size)
    have hE3 := cell_keep hE2 hb3
    clear hb3 hE2
    go_wp2_with fail
    refine (toExpr_any _ ns _ hxl HV.out.kids (HA.out.1.below B3.out)).mono ?_
    rintro e w4 ⟨o4, rfl, ho4, hb4⟩
    obtain ⟨a4, c4, rfl⟩ := ho4.row.slice
    have bal := (Below.refl w4.heap.size w4).alloc (Nat.le_refl _) (.cells #[.slice a4 ns.length c4] 30)
    have O5 : Hid (NRow (w4.alloc (.cells #[.slice a4 ns.length c4] 30)) (.slice a4 ns.length c4) ns) := ho4.row.below bal
    have B4 : Hid (Below w.heap.size w w4) := B3.out.trans (hb4.mono B3.out.size)
    have B5 : Hid (Below w.heap.size w (w4.alloc (.cells #[.slice a4 ns.length c4] 30))) := B4.out.trans (bal.mono B4.out.size)
    have hE5 := cell_keep (cell_keep hE3 hb4) bal
    have hX5 := lit_one w4 (.slice a4 ns.length c4) 30
    clear hb4 ho4 bal hE3
    go_wp2_with fail
    generalize w4.alloc (.cells #[.slice a4 ns.length c4] 30) = w5 at *
    generalize w4.heap.size = H4 at *
    refine (HI.out _ ns _ B5.out HV.out O5.out).mono ?_
    rintro e w6 ⟨rfl, hb6⟩
    have O6 : Hid (NRow w6 (.slice a4 ns.length c4) ns) := O5.out.below hb6
    have B6 : Hid (Below w.heap.size w w6) := B5.out.trans (hb6.mono B5.out.size)
    have hE6 := cell_keep hE5 hb6
    have hX6 := cell_keep hX5 hb6
    clear hb6 hE5 hX5
    generalize showB ns = bb at *
    have HT : Hid (_) := toExpr_any (.slice a ns.length cap) ns w6.drew hxl HV.out.kids (HA.out.1.below (bel_drewN B6.out 1))
    have O6d : Hid (NRow w6.drew (.slice a4 ns.length c4) ns) := O6.out.below (bel_drewN (Below.refl _ _) 1)
    go_wp2
    go_region_held3 (fun W => W.cell? ⟨w.heap.size, 0, none⟩ = some (.slice a ns.length cap) ∧ W.cell? ⟨H4, 0, none⟩ = some (.slice a4 ns.length c4))
      ((first | exact keep2 (by assumption) hb8 | exact keep2 (by assumption) hb7 | go_keep))
      ((first
        | (go_at_call 7; refine Calls.mono HT.out ?_; rintro e w7 ⟨o7, rfl, ho7, hb7⟩)
        | (go_at_call 10; refine (eqExpr_same _ _ ns _ hxl HV.out.kids (O6d.out.below hb7) ho7.row).mono ?_; rintro e w8 ⟨rfl, hb8⟩)))
    have B8 : Hid (Below w.heap.size w w8) := by
      have h7 := B6.out.trans ((bel_of_drew hb7).mono B6.out.size)
      exact h7.trans (hb8.mono h7.size)
    clear hb7 hb8 ho7
    go_wp2
    go_ret
    exact ⟨rfl, B8.out⟩

end Go.Proofs.YtanmhbopalchoabDoor
