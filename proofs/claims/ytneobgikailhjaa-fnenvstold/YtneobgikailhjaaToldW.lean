/- The law on what is told of drawn names, walked. -/
import Derived.Test.YtneobgikailhjaaEnvsW
import Derived.Test.YtneobgikailhjaaSameV
namespace Go.Proofs.Ytneobgikailhjaa
open Go.RowKit

/-- Where a drawn list does not ascend, what is set is refused. -/
theorem ascOr_set {xs : List VarD} (name : ByteArray) (num : Int) (h : AscOr xs) : ascB xs = true ∨ setOk xs name num = false := by
  rcases h with h | ⟨x, hx, hn⟩
  · exact .inl h
  · right
    have key : ∀ y ∈ putB xs name num, nameB y.1 = false → setOk xs name num = false := fun y hy h => by
      obtain ⟨k, hk, e⟩ := List.getElem_of_mem hy
      exact envB_one hk (by rw [e, oneOk, h, Bool.false_and])
    by_cases e : x.1 = name
    · exact key (name, num) ((mem_put _ _ _ _).2 (.inr rfl)) (by rw [← e]; exact hn)
    · exact key x ((mem_put _ _ _ _).2 (.inl ⟨hx, e⟩)) hn

theorem abcd_name : nameB ⟨#[97, 98, 99, 100]⟩ = true := by decide
theorem none_name : nameB ⟨#[]⟩ = false := by decide

set_option maxHeartbeats 3200000 in
set_option maxRecDepth 100000 in
theorem fnEnvsTold_walk (a : Option Addr) (n cap : Nat) (w : World) (hcode : CodeRow w (.slice a n cap) n) :
    Calls Try.prog 4 #[.slice a n cap] w fun e w' => e = .returned (.bool true) ∧ Below w.heap.size w w' := by
  have HC : Hid (CodeRow w (.slice a n cap) n) := hcode
  clear hcode
  by_cases hn : n ≤ 1048576
  · have hd : decide (1048576 < (n : Int)) = false := by simp; omega
    go_enter Try.func4, Try.ntmps4
    go_wp2_with fail
    refine (big_env a n cap _).mono ?_
    rintro e wq ⟨rfl, hw⟩
    rw [hw, hd]
    clear hw wq
    go_wp2_with fail
    refine (drawEnvSet_any w _ n _ (by omega) HC.out (Below.refl _ _)).mono ?_
    rintro e w1 ⟨o, xs, name, num, rfl, hany, hnm, hnum, ho, hb1⟩
    have B1 : Hid (Below w.heap.size w w1) := hb1
    have O1 : Hid (VRow w1 o xs) := ho.row
    have HV : Hid (VInD xs) := vInD_any hany (by omega)
    have HI : Hid (∀ (v : Value) (W : World), VRow W v xs → Calls Try.prog 11 #[v, .string name, .int .i64 num] W fun e w' => ∃ o, e = .returned (.tuple #[o, .bool (setOk xs name num)]) ∧ OwnV W.heap.size o (setL xs name num) w' ∧ Below W.heap.size W w') :=
      fun v W hv => iEnvSet v xs name num W HV.out (ascOr_set name num hany.2.2) (by omega) (by omega) (by omega) hv
    have HSp : Hid (∀ (v : Value) (W : World), VRow W v xs → Calls Try.prog 15 #[v, .string name, .int .i64 num] W fun e w' => ∃ o, e = .returned (.tuple #[o, .bool (setOk xs name num)]) ∧ OwnV W.heap.size o (setL xs name num) w' ∧ Below W.heap.size W w') :=
      fun v W hv => specEnvSet_any v xs name num W HV.out.1 HV.out.2.1 (by omega) hv
    have hxl : xs.length ≤ 8 := hany.1
    have hLl : (setL xs name num).length ≤ 2097153 := by
      have h1 := List.length_filter_le (fun x : VarD => ltS x.1 name) xs
      have h2 := List.length_filter_le (fun x : VarD => gtS x.1 name) xs
      unfold setL
      split
      · rw [putB, List.length_append, List.length_append, List.length_singleton]; omega
      · omega
    have HLn : Hid (setOk xs name num = false → setL xs name num = xs) := fun h => setL_no h
    obtain ⟨ao, capo, rfl⟩ := ho.row.slice
    clear hb1 ho hany hnm hnum
    generalize setL xs name num = L at *
    generalize setOk xs name num = bb at *
    go_wp2_with fail
    refine (HI.out _ _ O1.out).mono ?_
    rintro e w2 ⟨g0, rfl, hg, hb2⟩
    have B2 : Hid (Below w.heap.size w w2) := B1.out.trans (hb2.mono B1.out.size)
    have O2 : Hid (VRow w2 (.slice ao xs.length capo) xs) := O1.out.below hb2
    have G2 : Hid (VRow w2 g0 L) := hg.row
    clear hb2 hg
    go_wp2_with fail
    refine (HSp.out _ _ O2.out).mono ?_
    rintro e w3 ⟨s0, rfl, hs, hb3⟩
    have B3 : Hid (Below w.heap.size w w3) := B2.out.trans (hb3.mono B2.out.size)
    have O3 : Hid (VRow w3 (.slice ao xs.length capo) xs) := O2.out.below hb3
    have G3 : Hid (VRow w3 g0 L) := G2.out.below hb3
    have S3 : Hid (VRow w3 s0 L) := hs.row
    clear hb3 hs HI HSp
    go_wp2_with fail
    refine (drawEnvGet_any w _ n _ (by omega) HC.out B3.out).mono ?_
    rintro e w4 ⟨x, ys, key, rfl, hany, hkz, hx, hb4⟩
    have B4 : Hid (Below w.heap.size w w4) := B3.out.trans (hb4.mono B3.out.size)
    have O4 : Hid (VRow w4 (.slice ao xs.length capo) xs) := O3.out.below hb4
    have G4 : Hid (VRow w4 g0 L) := G3.out.below hb4
    have S4 : Hid (VRow w4 s0 L) := S3.out.below hb4
    have X4 : Hid (VRow w4 x ys) := hx.row
    have HVy : Hid (VInD ys) := vInD_any hany (by omega)
    have hyl : ys.length ≤ 8 := hany.1
    obtain ⟨z, bz, hgv⟩ : ∃ (z : Int) (b : Bool), getVal ys key = .tuple #[.int .i64 z, .bool b] := by
      unfold getVal
      split
      · exact ⟨_, _, rfl⟩
      · exact ⟨_, _, rfl⟩
    have HGV : Hid (getVal ys key = .tuple #[.int .i64 z, .bool bz]) := hgv
    have hkz2 : key.size ≤ 1048576 := by omega
    obtain ⟨ax, capx, rfl⟩ := hx.row.slice
    clear hb4 hx hany hgv hkz
    go_wp2_with fail
    refine (iEnvGet _ ys key _ HVy.out hkz2 X4.out).mono ?_
    rw [HGV.out]
    rintro e w5 ⟨rfl, hb5⟩
    have B5 : Hid (Below w.heap.size w w5) := B4.out.trans (hb5.mono B4.out.size)
    have O5 : Hid (VRow w5 (.slice ao xs.length capo) xs) := O4.out.below hb5
    have G5 : Hid (VRow w5 g0 L) := G4.out.below hb5
    have S5 : Hid (VRow w5 s0 L) := S4.out.below hb5
    have X5 : Hid (VRow w5 (.slice ax ys.length capx) ys) := X4.out.below hb5
    clear hb5
    go_wp2_with fail
    refine (specEnvGet_any _ ys key _ (by omega) X5.out).mono ?_
    rw [HGV.out]
    rintro e wq ⟨rfl, hw⟩
    rw [hw]
    clear hw wq
    go_wp2_with fail
    refine (drawVarName_any w _ n _ (by omega) HC.out B5.out).mono ?_
    rintro e w6 ⟨s, rfl, hsz, hb6⟩
    have B6 : Hid (Below w.heap.size w w6) := B5.out.trans (hb6.mono B5.out.size)
    have O6 : Hid (VRow w6 (.slice ao xs.length capo) xs) := O5.out.below hb6
    have G6 : Hid (VRow w6 g0 L) := G5.out.below hb6
    have S6 : Hid (VRow w6 s0 L) := S5.out.below hb6
    have X6 : Hid (VRow w6 (.slice ax ys.length capx) ys) := X5.out.below hb6
    clear hb6
    go_wp2_with fail
    refine (sameVars_same _ _ L _ hLl G6.out S6.out).mono ?_
    rintro e w7 ⟨rfl, hb7⟩
    have B7 : Hid (Below w.heap.size w w7) := B6.out.trans (hb7.mono B6.out.size)
    have O7 : Hid (VRow w7 (.slice ao xs.length capo) xs) := O6.out.below hb7
    have G7 : Hid (VRow w7 g0 L) := G6.out.below hb7
    have X7 : Hid (VRow w7 (.slice ax ys.length capx) ys) := X6.out.below hb7
    clear hb7
    cases bb with
    | true =>
      have B8 : Hid (Below w.heap.size w w7) := B7.out
      have X8 : Hid (VRow w7 (.slice ax ys.length capx) ys) := X7.out
      go_wp2_with fail
      refine (iEnvOk _ ys _ HVy.out X8.out).mono ?_
      rintro e w9 ⟨rfl, hb9⟩
      have B9 : Hid (Below w.heap.size w w9) := B8.out.trans (hb9.mono B8.out.size)
      have X9 : Hid (VRow w9 (.slice ax ys.length capx) ys) := X8.out.below hb9
      clear hb9
      go_wp2_with fail
      refine (specEnvOk_any _ ys _ (by omega) HVy.out.2.1 X9.out).mono ?_
      rintro e w10 ⟨rfl, q, hq⟩
      have B10 : Hid (Below w.heap.size w w10) := by rw [hq]; exact bel_drewN B9.out q
      clear hq
      generalize envB ys = eb
      go_wp2_with fail
      refine (implVarName_any s _).mono ?_
      rintro e wq ⟨rfl, hw⟩
      rw [hw]
      clear hw wq
      go_wp2_with fail
      refine (specVarName_any s _ (by omega)).mono ?_
      rintro e wq ⟨rfl, hw⟩
      rw [hw]
      clear hw wq
      generalize nameB s = nb
      go_wp2_with fail
      refine (implVarName_is _ true abcd_name _).mono ?_
      rintro e wq ⟨rfl, hw⟩
      rw [hw]
      clear hw wq
      go_wp2_with fail
      refine (implVarName_is _ false none_name _).mono ?_
      rintro e wq ⟨rfl, hw⟩
      rw [hw]
      clear hw wq
      go_wp2
      go_ret
      exact ⟨rfl, B10.out⟩
    | false =>
      obtain rfl : L = xs := HLn.out rfl
      go_wp2_with fail
      refine (sameVars_same _ _ L _ hLl G7.out O7.out).mono ?_
      rintro e w8 ⟨rfl, hb8⟩
      have B8 : Hid (Below w.heap.size w w8) := B7.out.trans (hb8.mono B7.out.size)
      have X8 : Hid (VRow w8 (.slice ax ys.length capx) ys) := X7.out.below hb8
      clear hb8
      go_wp2_with fail
      refine (iEnvOk _ ys _ HVy.out X8.out).mono ?_
      rintro e w9 ⟨rfl, hb9⟩
      have B9 : Hid (Below w.heap.size w w9) := B8.out.trans (hb9.mono B8.out.size)
      have X9 : Hid (VRow w9 (.slice ax ys.length capx) ys) := X8.out.below hb9
      clear hb9
      go_wp2_with fail
      refine (specEnvOk_any _ ys _ (by omega) HVy.out.2.1 X9.out).mono ?_
      rintro e w10 ⟨rfl, q, hq⟩
      have B10 : Hid (Below w.heap.size w w10) := by rw [hq]; exact bel_drewN B9.out q
      clear hq
      generalize envB ys = eb
      go_wp2_with fail
      refine (implVarName_any s _).mono ?_
      rintro e wq ⟨rfl, hw⟩
      rw [hw]
      clear hw wq
      go_wp2_with fail
      refine (specVarName_any s _ (by omega)).mono ?_
      rintro e wq ⟨rfl, hw⟩
      rw [hw]
      clear hw wq
      generalize nameB s = nb
      go_wp2_with fail
      refine (implVarName_is _ true abcd_name _).mono ?_
      rintro e wq ⟨rfl, hw⟩
      rw [hw]
      clear hw wq
      go_wp2_with fail
      refine (implVarName_is _ false none_name _).mono ?_
      rintro e wq ⟨rfl, hw⟩
      rw [hw]
      clear hw wq
      go_wp2
      go_ret
      exact ⟨rfl, B10.out⟩
  · have h2 : (1048576 : Int) < n := by omega
    have hd : decide (1048576 < (n : Int)) = true := by simp; omega
    go_enter Try.func4, Try.ntmps4
    go_wp2_with fail
    refine (big_env a n cap _).mono ?_
    rintro e wq ⟨rfl, hw⟩
    rw [hw, hd]
    clear hw wq
    go_wp2
    go_ret
    exact ⟨rfl, Below.refl _ _⟩

end Go.Proofs.Ytneobgikailhjaa
