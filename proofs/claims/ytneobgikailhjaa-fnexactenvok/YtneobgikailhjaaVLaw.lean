/- The exact laws on names and numbers, walked out of contracts, the program's own contracts handed in. -/
import Derived.Test.YtneobgikailhjaaVOpen
import Derived.Test.YtneobgikailhjaaVKit
import Derived.Test.YtneobgikailhjaaEnvSet
namespace Go.Proofs.Ytneobgikailhjaa
open Go.RowKit

/-- A list within the laws' bounds. -/
def VIn (xs : List VarD) : Prop := xs.length ≤ 1048576 ∧ (∀ x ∈ xs, x.1.size ≤ 1048576) ∧ (∀ x ∈ xs, -9223372036854775808 ≤ x.2 ∧ x.2 ≤ 9223372036854775807)

theorem vIn_of {xs : List VarD} {r : Int} (h : 0 ≤ r ∧ r + xs.length + totS xs = 1048576) (hb : ∀ x ∈ xs, x.1.size ≤ maxLen ∧ (-9223372036854775808 ≤ x.2 ∧ x.2 ≤ 9223372036854775807)) : VIn xs :=
  ⟨by omega, fun x hx => by have := totS_mem hx; omega, fun x hx => (hb x hx).2⟩

set_option maxHeartbeats 800000 in
theorem fnExactEnvOk_of (hI : ∀ (v : Value) (xs : List VarD) (w : World), VIn xs → VRow w v xs → Calls Try.prog 13 #[v] w fun e w' => e = .returned (.bool (envB xs)) ∧ Below w.heap.size w w')
    (v : Value) (xs : List VarD) (w : World) (h : VArg w v xs) :
    Calls Try.prog 7 #[v] w fun e w' => e = .returned (.bool true) ∧ Below w.heap.size w w' := by
  have HA : Hid (VArg w v xs) := h
  have HI : Hid (∀ (v : Value) (xs : List VarD) (w : World), VIn xs → VRow w v xs → Calls Try.prog 13 #[v] w fun e w' => e = .returned (.bool (envB xs)) ∧ Below w.heap.size w w') := hI
  obtain ⟨a, cap, rfl⟩ := h.1.slice
  clear h hI
  go_enter Try.func7, Try.ntmps7
  go_wp2_with fail
  refine (szVarS_any _ xs 1048576 _ (by omega) (by omega) HA.out.2.1 (fun x hx => (HA.out.2.2 x hx).1) HA.out.1).mono ?_
  rintro e w1 ⟨r, rfl, hr, hb1⟩
  have B1 : Hid (Below w.heap.size w w1) := hb1
  clear hb1
  rcases hr with rfl | hr
  · go_wp2
    go_ret
    exact ⟨rfl, B1.out⟩
  · have HV : Hid (VIn xs) := vIn_of hr HA.out.2.2
    obtain ⟨hr0, hr1⟩ := hr
    have hxl : xs.length ≤ 1048576 := HV.out.1
    go_wp2_with fail
    refine (toVarS_any _ xs _ hxl (HA.out.1.below B1.out)).mono ?_
    rintro e w2 ⟨o2, rfl, ho2, hb2⟩
    have O2 : Hid (VRow w2 o2 xs) := ho2.row
    have B2 : Hid (Below w.heap.size w w2) := B1.out.trans (hb2.mono B1.out.size)
    clear hb2 ho2
    go_wp2_with fail
    refine (specEnvOk_any _ xs _ (by omega) HV.out.2.1 O2.out).mono ?_
    rintro e w3 ⟨rfl, q, hq⟩
    have B3 : Hid (Below w.heap.size w w3) := by rw [hq]; exact bel_drewN B2.out q
    clear hq
    go_wp2_with fail
    refine (toVarS_any _ xs _ hxl (HA.out.1.below B3.out)).mono ?_
    rintro e w4 ⟨o4, rfl, ho4, hb4⟩
    have O4 : Hid (VRow w4 o4 xs) := ho4.row
    have B4 : Hid (Below w.heap.size w w4) := B3.out.trans (hb4.mono B3.out.size)
    clear hb4 ho4
    go_wp2_with fail
    refine (HI.out _ xs _ HV.out O4.out).mono ?_
    rintro e w5 ⟨rfl, hb5⟩
    have O5 : Hid (VRow w5 o4 xs) := O4.out.below hb5
    have B5 : Hid (Below w.heap.size w w5) := B4.out.trans (hb5.mono B4.out.size)
    clear hb5
    generalize envB xs = bb
    go_wp2_with fail
    refine (toVarS_any _ xs _ hxl (HA.out.1.below B5.out)).mono ?_
    rintro e w6 ⟨o6, rfl, ho6, hb6⟩
    have O6 : Hid (VRow w6 o6 xs) := ho6.row
    have O56 : Hid (VRow w6 o4 xs) := O5.out.below hb6
    have B6 : Hid (Below w.heap.size w w6) := B5.out.trans (hb6.mono B5.out.size)
    clear hb6 ho6
    go_wp2_with fail
    refine (eqVarS_any _ _ xs xs _ (by omega) O56.out O6.out).mono ?_
    rw [decide_eq_true (rfl : xs = xs)]
    rintro e w7 ⟨rfl, hb7⟩
    have B7 : Hid (Below w.heap.size w w7) := B6.out.trans (hb7.mono B6.out.size)
    clear hb7
    go_wp2
    go_ret
    exact ⟨rfl, B7.out⟩

end Go.Proofs.Ytneobgikailhjaa
