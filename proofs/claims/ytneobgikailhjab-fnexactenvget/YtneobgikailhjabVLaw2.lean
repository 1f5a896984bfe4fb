/- The exact laws on EnvGet and EnvSet, walked out of contracts, the program's own contracts handed in. -/
import Derived.Test.YtneobgikailhjabVLaw
import Derived.Test.YtneobgikailhjabVMark
namespace Go.Proofs.Ytneobgikailhjab
open Go.RowKit

theorem eqVarS_same (u v : Value) (xs : List VarD) (w : World) (hx : xs.length ≤ 2097153) (h : VRow w u xs) (h' : VRow w v xs) :
    Calls Try.prog 9 #[u, v] w fun e w' => e = .returned (.bool true) ∧ Below w.heap.size w w' := by
  refine (eqVarS_any u v xs xs w hx h h').mono ?_
  rintro e w' ⟨rfl, hb⟩
  exact ⟨by rw [decide_eq_true (rfl : xs = xs)], hb⟩

theorem OwnV.kept {B : Nat} {v : Value} {xs : List VarD} {w w' : World} {row : Option Nat} (h : OwnV B v xs w) (hg : w.grownBy w' row) (hne : ∀ k, v.ownBlock = some k → row ≠ some k) : OwnV B v xs w' :=
  World.ownsRow.kept h hg (by
    cases hv : v.ownBlock with
    | none => exact .inl rfl
    | some k => exact .inr (fun e => hne k hv e.symm))

theorem getVal_some (xs : List VarD) (name : ByteArray) : ∃ (z : Int) (b : Bool), getVal xs name = .tuple #[.int .i64 z, .bool b] := by
  unfold getVal
  split
  · exact ⟨_, _, rfl⟩
  · exact ⟨_, _, rfl⟩

set_option maxHeartbeats 800000 in
theorem fnExactEnvGet_of (hI : ∀ (v : Value) (xs : List VarD) (name : ByteArray) (w : World), VIn xs → name.size ≤ 1048576 → VRow w v xs → Calls Try.prog 8 #[v, .string name] w fun e w' => e = .returned (getVal xs name) ∧ Below w.heap.size w w')
    (v : Value) (xs : List VarD) (name : ByteArray) (_hs : name.size ≤ maxLen) (w : World) (h : VArg w v xs) :
    Calls Try.prog 3 #[v, .string name] w fun e w' => e = .returned (.bool true) ∧ Below w.heap.size w w' := by
  have HA : Hid (VArg w v xs) := h
  have HI : Hid (∀ (v : Value) (xs : List VarD) (name : ByteArray) (w : World), VIn xs → name.size ≤ 1048576 → VRow w v xs → Calls Try.prog 8 #[v, .string name] w fun e w' => e = .returned (getVal xs name) ∧ Below w.heap.size w w') := hI
  obtain ⟨a, cap, rfl⟩ := h.1.slice
  clear h hI
  by_cases hnz : name.size ≤ 1048576
  · go_enter Try.func3, Try.ntmps3
    go_wp2_with fail
    refine (szVarS_any _ xs 1048576 _ (by omega) (by omega) HA.out.2.1 (fun x hx => (HA.out.2.2 x hx).1) HA.out.1).mono ?_
    rintro e w1 ⟨r, rfl, hr, hb1⟩
    have B1 : Hid (Below w.heap.size w w1) := hb1
    clear hb1
    rcases hr with rfl | hr
    · go_wp2
      go_ret
      exact ⟨rfl, B1.out⟩
    · have HV : Hid (VIn xs) := vIn_of hr HA.out.2.2
      obtain ⟨hr0, hr1⟩ := hr
      have hxl : xs.length ≤ 1048576 := HV.out.1
      obtain ⟨z, bb, hgv⟩ := getVal_some xs name
      have HGV : Hid (getVal xs name = .tuple #[.int .i64 z, .bool bb]) := hgv
      clear hgv
      go_wp2_with fail
      refine (toVarS_any _ xs _ hxl (HA.out.1.below B1.out)).mono ?_
      rintro e w2 ⟨o2, rfl, ho2, hb2⟩
      have O2 : Hid (VRow w2 o2 xs) := ho2.row
      have B2 : Hid (Below w.heap.size w w2) := B1.out.trans (hb2.mono B1.out.size)
      clear hb2 ho2
      go_wp2_with fail
      refine (specEnvGet_any _ xs name _ hxl O2.out).mono ?_
      rw [HGV.out]
      rintro e w3 ⟨rfl, hw⟩
      rw [hw]
      clear hw
      go_wp2_with fail
      refine (toVarS_any _ xs _ hxl (HA.out.1.below B2.out)).mono ?_
      rintro e w4 ⟨o4, rfl, ho4, hb4⟩
      have O4 : Hid (VRow w4 o4 xs) := ho4.row
      have B4 : Hid (Below w.heap.size w w4) := B2.out.trans (hb4.mono B2.out.size)
      clear hb4 ho4
      go_wp2_with fail
      refine (HI.out _ xs name _ HV.out hnz O4.out).mono ?_
      rw [HGV.out]
      rintro e w5 ⟨rfl, hb5⟩
      have O5 : Hid (VRow w5 o4 xs) := O4.out.below hb5
      have B5 : Hid (Below w.heap.size w w5) := B4.out.trans (hb5.mono B4.out.size)
      clear hb5
      go_wp2_with fail
      refine (toVarS_any _ xs _ hxl (HA.out.1.below B5.out)).mono ?_
      rintro e w6 ⟨o6, rfl, ho6, hb6⟩
      have O6 : Hid (VRow w6 o6 xs) := ho6.row
      have O56 : Hid (VRow w6 o4 xs) := O5.out.below hb6
      have B6 : Hid (Below w.heap.size w w6) := B5.out.trans (hb6.mono B5.out.size)
      clear hb6 ho6
      go_wp2_with fail
      refine (eqVarS_same _ _ xs _ (by omega) O56.out O6.out).mono ?_
      rintro e w7 ⟨rfl, hb7⟩
      have B7 : Hid (Below w.heap.size w w7) := B6.out.trans (hb7.mono B6.out.size)
      clear hb7
      go_wp2
      go_ret
      exact ⟨rfl, B7.out⟩
  · have h2 : (1048576 : Int) < name.size := by omega
    go_enter Try.func3, Try.ntmps3
    go_wp2
    go_ret
    exact ⟨rfl, Below.refl _ _⟩


end Go.Proofs.Ytneobgikailhjab
