/- The exact law on EnvText, walked out of contracts, the program's own contract handed in; T is what the program's tables hold. -/
import Derived.Test.YtneobgikailhjabDoorVLaw
import Derived.Test.YtneobgikailhjabDoorEnvText
namespace Go.Proofs.YtneobgikailhjabDoor
open Go.RowKit

set_option maxHeartbeats 800000 in
theorem fnExactEnvText_of (T : World → Prop) (hT : ∀ w w', T w → Below w.heap.size w w' → T w')
    (hI : ∀ (v : Value) (xs : List VarD) (w : World), VIn xs → totS xs ≤ 1048576 → VRow w v xs → T w → Calls Tryd.prog 7 #[v] w fun e w' => e = .returned (.string (textB xs)) ∧ Below w.heap.size w w')
    (v : Value) (xs : List VarD) (w : World) (h : VArg w v xs) (h0 : T w) :
    Calls Tryd.prog 3 #[v] w fun e w' => e = .returned (.bool true) ∧ Below w.heap.size w w' := by
  have HA : Hid (VArg w v xs) := h
  have HTw : Hid (∀ w', Below w.heap.size w w' → T w') := fun w' hb => hT w w' h0 hb
  have HI : Hid (∀ (v : Value) (xs : List VarD) (w : World), VIn xs → totS xs ≤ 1048576 → VRow w v xs → T w → Calls Tryd.prog 7 #[v] w fun e w' => e = .returned (.string (textB xs)) ∧ Below w.heap.size w w') := hI
  obtain ⟨a, cap, rfl⟩ := h.1.slice
  clear h hI h0 hT
  go_enter Tryd.func3, Tryd.ntmps3
  go_wp2_with fail
  refine (szVarS_any _ xs 1048576 _ (by omega) (by omega) HA.out.2.1 (fun x hx => (HA.out.2.2 x hx).1) HA.out.1).mono ?_
  rintro e w1 ⟨r, rfl, hr, hb1⟩
  have B1 : Hid (Below w.heap.size w w1) := hb1
  clear hb1
  rcases hr with rfl | hr
  · go_wp2
    go_ret
    exact ⟨rfl, B1.out⟩
  · have HV : Hid (VIn xs) := vIn_of hr HA.out.2.2
    obtain ⟨hr0, hr1⟩ := hr
    have hxl : xs.length ≤ 1048576 := HV.out.1
    have HTot : Hid (totS xs ≤ 1048576) := by rw [Hid]; omega
    go_wp2_with fail
    refine (toVarS_any _ xs _ hxl (HA.out.1.below B1.out)).mono ?_
    rintro e w2 ⟨o2, rfl, ho2, hb2⟩
    have O2 : Hid (VRow w2 o2 xs) := ho2.row
    have B2 : Hid (Below w.heap.size w w2) := B1.out.trans (hb2.mono B1.out.size)
    clear hb2 ho2
    go_wp2_with fail
    refine (specEnvText_any _ xs _ hxl HTot.out HV.out.2.2 O2.out).mono ?_
    rintro e w3 ⟨rfl, hb3⟩
    have B3 : Hid (Below w.heap.size w w3) := B2.out.trans (hb3.mono B2.out.size)
    clear hb3
    go_wp2_with fail
    refine (toVarS_any _ xs _ hxl (HA.out.1.below B3.out)).mono ?_
    rintro e w4 ⟨o4, rfl, ho4, hb4⟩
    have O4 : Hid (VRow w4 o4 xs) := ho4.row
    have B4 : Hid (Below w.heap.size w w4) := B3.out.trans (hb4.mono B3.out.size)
    clear hb4 ho4
    go_wp2_with fail
    refine (HI.out _ xs _ HV.out HTot.out O4.out (HTw.out _ B4.out)).mono ?_
    rintro e w5 ⟨rfl, hb5⟩
    have O5 : Hid (VRow w5 o4 xs) := O4.out.below hb5
    have B5 : Hid (Below w.heap.size w w5) := B4.out.trans (hb5.mono B4.out.size)
    clear hb5
    generalize textB xs = bb
    go_wp2_with fail
    refine (toVarS_any _ xs _ hxl (HA.out.1.below B5.out)).mono ?_
    rintro e w6 ⟨o6, rfl, ho6, hb6⟩
    have O6 : Hid (VRow w6 o6 xs) := ho6.row
    have O56 : Hid (VRow w6 o4 xs) := O5.out.below hb6
    have B6 : Hid (Below w.heap.size w w6) := B5.out.trans (hb6.mono B5.out.size)
    clear hb6 ho6
    go_wp2_with fail
    refine (eqVarS_any _ _ xs xs _ (by omega) O56.out O6.out).mono ?_
    rw [decide_eq_true (rfl : xs = xs)]
    rintro e w7 ⟨rfl, hb7⟩
    have B7 : Hid (Below w.heap.size w w7) := B6.out.trans (hb7.mono B6.out.size)
    clear hb7
    go_wp2
    go_ret
    exact ⟨rfl, B7.out⟩

end Go.Proofs.YtneobgikailhjabDoor
