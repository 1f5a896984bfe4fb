/- The exact law on EnvOnly, walked out of contracts, the program's own contract handed in. -/
import Derived.Test.YtneobgikailhjabVLaw2
import Derived.Test.YtneobgikailhjabEnvOnly
namespace Go.Proofs.Ytneobgikailhjab
open Go.RowKit

def SIn (ss : List ByteArray) : Prop := ss.length ≤ 1048576 ∧ ∀ s ∈ ss, s.size ≤ 1048576
theorem sIn_of {ss : List ByteArray} {r left : Int} (hl : left ≤ 1048576) (h : 0 ≤ r ∧ r + ss.length + totB ss = left) : SIn ss :=
  ⟨by omega, fun s hs => by have := totB_mem hs; omega⟩

set_option maxHeartbeats 1600000 in
theorem fnExactEnvOnly_of (hI : ∀ (v u : Value) (xs : List VarD) (ss : List ByteArray) (w : World), VIn xs → SIn ss → VRow w v xs → SRow w u ss → Calls Try.prog 13 #[v, u] w fun e w' => ∃ o, e = .returned o ∧ OwnV w.heap.size o (onlyB xs ss) w' ∧ Below w.heap.size w w')
    (v : Value) (xs : List VarD) (u : Value) (ss : List ByteArray) (w : World) (h : VArg w v xs) (h' : SArg w u ss) :
    Calls Try.prog 4 #[v, u] w fun e w' => e = .returned (.bool true) ∧ Below w.heap.size w w' := by
  have HA : Hid (VArg w v xs) := h
  have HN : Hid (SArg w u ss) := h'
  have HI0 : Hid (∀ (v u : Value) (xs : List VarD) (ss : List ByteArray) (w : World), VIn xs → SIn ss → VRow w v xs → SRow w u ss → Calls Try.prog 13 #[v, u] w fun e w' => ∃ o, e = .returned o ∧ OwnV w.heap.size o (onlyB xs ss) w' ∧ Below w.heap.size w w') := hI
  obtain ⟨a, cap, rfl⟩ := h.1.slice
  obtain ⟨a', cap', rfl⟩ := h'.1.slice
  clear h h' hI
  go_enter Try.func4, Try.ntmps4
  go_wp2_with fail
  refine (szVarS_any _ xs 1048576 _ (by omega) (by omega) HA.out.2.1 (fun x hx => (HA.out.2.2 x hx).1) HA.out.1).mono ?_
  rintro e w1 ⟨r, rfl, hr, hb1⟩
  have B1 : Hid (Below w.heap.size w w1) := hb1
  clear hb1
  rcases hr with rfl | hr
  · go_wp2
    go_ret
    exact ⟨rfl, B1.out⟩
  have HV : Hid (VIn xs) := vIn_of hr HA.out.2.2
  obtain ⟨hr0, hr1⟩ := hr
  have hxl : xs.length ≤ 1048576 := HV.out.1
  go_wp2_with fail
  refine (szStringS_any _ ss r _ hr0 (by omega) HN.out.2.1 HN.out.2.2 (HN.out.1.below B1.out)).mono ?_
  rintro e wq ⟨r2, rfl, hr2, hw⟩
  rw [hw]
  clear hw
  rcases hr2 with rfl | hr2
  · go_wp2
    go_ret
    exact ⟨rfl, B1.out⟩
  have HSi : Hid (SIn ss) := sIn_of (by omega) hr2
  obtain ⟨hr20, hr21⟩ := hr2
  have hsl : ss.length ≤ 1048576 := HSi.out.1
  have hLl : (onlyB xs ss).length ≤ 2097153 := by
    have h1 := List.length_filter_le (fun x : VarD => inB ss x.1) xs
    rw [onlyB]; omega
  have HI : Hid (∀ (v u : Value) (w : World), VRow w v xs → SRow w u ss → Calls Try.prog 13 #[v, u] w fun e w' => ∃ o, e = .returned o ∧ OwnV w.heap.size o (onlyB xs ss) w' ∧ Below w.heap.size w w') :=
    fun v u w hv hu => HI0.out v u xs ss w HV.out HSi.out hv hu
  have HSp : Hid (∀ (v u : Value) (w : World), VRow w v xs → SRow w u ss → Calls Try.prog 11 #[v, u] w fun e w' => ∃ o, e = .returned o ∧ OwnV w.heap.size o (onlyB xs ss) w' ∧ Below w.heap.size w w') :=
    fun v u w hv hu => specEnvOnly_any v u xs ss w hxl hsl hv hu
  clear HI0
  generalize onlyB xs ss = L at *
  go_wp2_with fail
  refine (toVarS_any _ xs _ hxl (HA.out.1.below B1.out)).mono ?_
  rintro e w2 ⟨t1, rfl, ho, hb⟩
  have B2 : Hid (Below w.heap.size w w2) := B1.out.trans (hb.mono B1.out.size)
  have TA2 : Hid (VRow w2 t1 xs) := ho.row
  clear hb ho
  go_wp2_with fail
  refine (toStringS_any _ ss _ hsl (HN.out.1.below B2.out)).mono ?_
  rintro e w3 ⟨t2, rfl, ho, hb⟩
  have TA3 : Hid (VRow w3 t1 xs) := TA2.out.below hb
  have B3 : Hid (Below w.heap.size w w3) := B2.out.trans (hb.mono B2.out.size)
  have TB3 : Hid (SRow w3 t2 ss) := ho.row
  clear hb ho
  go_wp2_with fail
  refine (HSp.out _ _ _ TA3.out TB3.out).mono ?_
  rintro e w4 ⟨s0, rfl, ho, hb⟩
  have TA4 : Hid (VRow w4 t1 xs) := TA3.out.below hb
  have TB4 : Hid (SRow w4 t2 ss) := TB3.out.below hb
  have B4 : Hid (Below w.heap.size w w4) := B3.out.trans (hb.mono B3.out.size)
  have S4 : Hid (OwnV w3.heap.size s0 L w4) := ho
  clear hb ho
  go_wp2_with fail
  refine (toVarS_any _ xs _ hxl (HA.out.1.below B4.out)).mono ?_
  rintro e w5 ⟨x0, rfl, ho, hb⟩
  have S5 : Hid (OwnV w3.heap.size s0 L w5) := S4.out.below hb
  have B5 : Hid (Below w.heap.size w w5) := B4.out.trans (hb.mono B4.out.size)
  have ZA : Hid (w4.heap.size ≤ w5.heap.size) := hb.size
  have X5 : Hid (OwnV w4.heap.size x0 xs w5) := ho
  clear hb ho
  go_wp2_with fail
  refine (toStringS_any _ ss _ hsl (HN.out.1.below B5.out)).mono ?_
  rintro e w6 ⟨x1, rfl, ho, hb⟩
  have S6 : Hid (OwnV w3.heap.size s0 L w6) := S5.out.below hb
  have X6 : Hid (OwnV w4.heap.size x0 xs w6) := X5.out.below hb
  have B6 : Hid (Below w.heap.size w w6) := B5.out.trans (hb.mono B5.out.size)
  have ZB : Hid (w5.heap.size ≤ w6.heap.size) := hb.size
  have Y6 : Hid (OwnB w5.heap.size x1 ss w6) := ho
  clear hb ho
  go_wp2_with fail
  refine (HI.out _ _ _ X6.out.row Y6.out.row).mono ?_
  rintro e w7 ⟨g0, rfl, ho, hb⟩
  have S7 : Hid (OwnV w3.heap.size s0 L w7) := S6.out.below hb
  have X7 : Hid (OwnV w4.heap.size x0 xs w7) := X6.out.below hb
  have Y7 : Hid (OwnB w5.heap.size x1 ss w7) := Y6.out.below hb
  have B7 : Hid (Below w.heap.size w w7) := B6.out.trans (hb.mono B6.out.size)
  have G7 : Hid (OwnV w6.heap.size g0 L w7) := ho
  clear hb ho
  go_wp2_with fail
  refine (eqVarS_same _ _ L _ hLl G7.out.row S7.out.row).mono ?_
  rintro e w8 ⟨rfl, hb⟩
  have S8 : Hid (OwnV w3.heap.size s0 L w8) := S7.out.below hb
  have X8 : Hid (OwnV w4.heap.size x0 xs w8) := X7.out.below hb
  have Y8 : Hid (OwnB w5.heap.size x1 ss w8) := Y7.out.below hb
  have G8 : Hid (OwnV w6.heap.size g0 L w8) := G7.out.below hb
  have B8 : Hid (Below w.heap.size w w8) := B7.out.trans (hb.mono B7.out.size)
  clear hb
  go_wp2_with fail
  refine (toVarS_any _ xs _ hxl (HA.out.1.below B8.out)).mono ?_
  rintro e w9 ⟨t3, rfl, ho, hb⟩
  have S9 : Hid (OwnV w3.heap.size s0 L w9) := S8.out.below hb
  have X9 : Hid (OwnV w4.heap.size x0 xs w9) := X8.out.below hb
  have Y9 : Hid (OwnB w5.heap.size x1 ss w9) := Y8.out.below hb
  have G9 : Hid (OwnV w6.heap.size g0 L w9) := G8.out.below hb
  have B9 : Hid (Below w.heap.size w w9) := B8.out.trans (hb.mono B8.out.size)
  have TA9 : Hid (VRow w9 t3 xs) := ho.row
  clear hb ho
  go_wp2_with fail
  refine (eqVarS_same _ _ xs _ (by omega) X9.out.row TA9.out).mono ?_
  rintro e w10 ⟨rfl, hb⟩
  have S10 : Hid (OwnV w3.heap.size s0 L w10) := S9.out.below hb
  have X10 : Hid (OwnV w4.heap.size x0 xs w10) := X9.out.below hb
  have Y10 : Hid (OwnB w5.heap.size x1 ss w10) := Y9.out.below hb
  have G10 : Hid (OwnV w6.heap.size g0 L w10) := G9.out.below hb
  have TA10 : Hid (VRow w10 t3 xs) := TA9.out.below hb
  have B10 : Hid (Below w.heap.size w w10) := B9.out.trans (hb.mono B9.out.size)
  clear hb
  go_wp2_with fail
  refine (toStringS_any _ ss _ hsl (HN.out.1.below B10.out)).mono ?_
  rintro e w11 ⟨t4, rfl, ho, hb⟩
  have S11 : Hid (OwnV w3.heap.size s0 L w11) := S10.out.below hb
  have X11 : Hid (OwnV w4.heap.size x0 xs w11) := X10.out.below hb
  have Y11 : Hid (OwnB w5.heap.size x1 ss w11) := Y10.out.below hb
  have G11 : Hid (OwnV w6.heap.size g0 L w11) := G10.out.below hb
  have B11 : Hid (Below w.heap.size w w11) := B10.out.trans (hb.mono B10.out.size)
  have TB11 : Hid (SRow w11 t4 ss) := ho.row
  clear hb ho
  go_wp2_with fail
  refine (eqStringS_same _ _ ss _ (by omega) Y11.out.row TB11.out).mono ?_
  rintro e w12 ⟨rfl, q, hq⟩
  have hb : Below w11.heap.size w11 w12 := by rw [hq]; exact bel_drewN (Below.refl _ _) q
  have S12 : Hid (OwnV w3.heap.size s0 L w12) := S11.out.below hb
  have X12 : Hid (OwnV w4.heap.size x0 xs w12) := X11.out.below hb
  have Y12 : Hid (OwnB w5.heap.size x1 ss w12) := Y11.out.below hb
  have G12 : Hid (OwnV w6.heap.size g0 L w12) := G11.out.below hb
  have B12 : Hid (Below w.heap.size w w12) := B11.out.trans (hb.mono B11.out.size)
  clear hb hq
  have Z0 : Hid (w4.heap.size ≤ w5.heap.size) := ZA.out
  have Z1 : Hid (w5.heap.size ≤ w6.heap.size) := ZB.out
  have HX : Hid (∀ k, x0.ownBlock = some k → w4.heap.size ≤ k ∧ k < w5.heap.size) := fun k hk => ⟨(X5.out.lt k hk).1, (X5.out.lt k hk).2⟩
  have HY : Hid (∀ k, x1.ownBlock = some k → w5.heap.size ≤ k ∧ k < w6.heap.size) := fun k hk => ⟨(Y6.out.lt k hk).1, (Y6.out.lt k hk).2⟩
  have HS : Hid (∀ k, s0.ownBlock = some k → k < w4.heap.size) := fun k hk => (S4.out.lt k hk).2
  have HG : Hid (∀ k, g0.ownBlock = some k → w6.heap.size ≤ k) := fun k hk => (G7.out.lt k hk).1
  go_wp2_with fail
  refine (markVarS_any _ _ xs 1 _ (by omega) (by omega) (by omega) X12.out).mono ?_
  rintro e w13 ⟨rfl, -, hgr⟩
  have G13 : Hid (OwnV w6.heap.size g0 L w13) := G12.out.kept hgr (fun k hk e => by have h2 := HX.out k e; have h1 := HG.out k hk; have h3 := Z1.out; omega)
  have S13 : Hid (OwnV w3.heap.size s0 L w13) := S12.out.kept hgr (fun k hk e => by have h2 := HX.out k e; have h1 := HS.out k hk; omega)
  have Y13 : Hid (OwnB w5.heap.size x1 ss w13) := Y12.out.kept hgr (fun k hk e => by have h2 := HX.out k e; have h1 := HY.out k hk; omega)
  have B13 : Hid (Below w.heap.size w w13) := B12.out.grown hgr B12.out.size (fun k hk => Nat.le_trans B4.out.size ((HX.out k hk).1))
  clear hgr
  go_wp2_with fail
  refine (markStringS_any _ _ ss (1 + 2 * xs.length) _ (by omega) (by omega) (by omega) Y13.out).mono ?_
  rintro e w14 ⟨rfl, hgr⟩
  have G14 : Hid (OwnV w6.heap.size g0 L w14) := G13.out.kept hgr (fun k hk e => by have h2 := HY.out k e; have h1 := HG.out k hk; omega)
  have S14 : Hid (OwnV w3.heap.size s0 L w14) := S13.out.kept hgr (fun k hk e => by have h2 := HY.out k e; have h1 := HS.out k hk; have h3 := Z0.out; omega)
  have B14 : Hid (Below w.heap.size w w14) := B13.out.grown hgr B13.out.size (fun k hk => Nat.le_trans B5.out.size ((HY.out k hk).1))
  clear hgr
  go_wp2_with fail
  refine (eqVarS_same _ _ L _ hLl G14.out.row S14.out.row).mono ?_
  rintro e w15 ⟨rfl, hb⟩
  have S15 : Hid (OwnV w3.heap.size s0 L w15) := S14.out.below hb
  have G15 : Hid (OwnV w6.heap.size g0 L w15) := G14.out.below hb
  have B15 : Hid (Below w.heap.size w w15) := B14.out.trans (hb.mono B14.out.size)
  clear hb
  go_wp2_with fail
  refine (markVarS_any _ _ L 1 _ (by omega) (by omega) (by omega) G15.out).mono ?_
  rintro e w16 ⟨rfl, hg, hgr⟩
  have S16 : Hid (OwnV w3.heap.size s0 L w16) := S15.out.kept hgr (fun k hk e => by have h2 := HG.out k e; have h1 := HS.out k hk; have h3 := Z0.out; have h4 := Z1.out; omega)
  have B16 : Hid (Below w.heap.size w w16) := B15.out.grown hgr B15.out.size (fun k hk => Nat.le_trans B6.out.size (HG.out k hk))
  have G16 : Hid (OwnV w6.heap.size g0 (vmarks 1 L.length) w16) := hg
  clear hgr hg
  go_wp2_with fail
  refine (heldVarS_any _ L.length 1 _ (by omega) (by omega) (by omega) G16.out.row).mono ?_
  rintro e w17 ⟨rfl, hb⟩
  have S17 : Hid (OwnV w3.heap.size s0 L w17) := S16.out.below hb
  have G17 : Hid (OwnV w6.heap.size g0 (vmarks 1 L.length) w17) := G16.out.below hb
  have B17 : Hid (Below w.heap.size w w17) := B16.out.trans (hb.mono B16.out.size)
  clear hb
  go_wp2_with fail
  refine (toVarS_any _ xs _ hxl (HA.out.1.below B17.out)).mono ?_
  rintro e w18 ⟨t5, rfl, ho, hb⟩
  have S18 : Hid (OwnV w3.heap.size s0 L w18) := S17.out.below hb
  have G18 : Hid (OwnV w6.heap.size g0 (vmarks 1 L.length) w18) := G17.out.below hb
  have B18 : Hid (Below w.heap.size w w18) := B17.out.trans (hb.mono B17.out.size)
  have TA18 : Hid (VRow w18 t5 xs) := ho.row
  clear hb ho
  go_wp2_with fail
  refine (toStringS_any _ ss _ hsl (HN.out.1.below B18.out)).mono ?_
  rintro e w19 ⟨t6, rfl, ho, hb⟩
  have S19 : Hid (OwnV w3.heap.size s0 L w19) := S18.out.below hb
  have G19 : Hid (OwnV w6.heap.size g0 (vmarks 1 L.length) w19) := G18.out.below hb
  have TA19 : Hid (VRow w19 t5 xs) := TA18.out.below hb
  have B19 : Hid (Below w.heap.size w w19) := B18.out.trans (hb.mono B18.out.size)
  have TB19 : Hid (SRow w19 t6 ss) := ho.row
  clear hb ho
  go_wp2_with fail
  refine (HI.out _ _ _ TA19.out TB19.out).mono ?_
  rintro e w20 ⟨q0, rfl, ho, hb⟩
  have S20 : Hid (OwnV w3.heap.size s0 L w20) := S19.out.below hb
  have G20 : Hid (OwnV w6.heap.size g0 (vmarks 1 L.length) w20) := G19.out.below hb
  have TA20 : Hid (VRow w20 t5 xs) := TA19.out.below hb
  have TB20 : Hid (SRow w20 t6 ss) := TB19.out.below hb
  have B20 : Hid (Below w.heap.size w w20) := B19.out.trans (hb.mono B19.out.size)
  have Q20 : Hid (VRow w20 q0 L) := ho.row
  clear hb ho
  go_wp2_with fail
  refine (eqVarS_same _ _ L _ hLl Q20.out S20.out.row).mono ?_
  rintro e w21 ⟨rfl, hb⟩
  have S21 : Hid (OwnV w3.heap.size s0 L w21) := S20.out.below hb
  have G21 : Hid (OwnV w6.heap.size g0 (vmarks 1 L.length) w21) := G20.out.below hb
  have Q21 : Hid (VRow w21 q0 L) := Q20.out.below hb
  have B21 : Hid (Below w.heap.size w w21) := B20.out.trans (hb.mono B20.out.size)
  clear hb
  go_wp2_with fail
  refine (heldVarS_any _ L.length 1 _ (by omega) (by omega) (by omega) G21.out.row).mono ?_
  rintro e w22 ⟨rfl, hb⟩
  have G22 : Hid (OwnV w6.heap.size g0 (vmarks 1 L.length) w22) := G21.out.below hb
  have B22 : Hid (Below w.heap.size w w22) := B21.out.trans (hb.mono B21.out.size)
  clear hb
  go_wp2
  go_ret
  exact ⟨rfl, B22.out⟩

end Go.Proofs.Ytneobgikailhjab
