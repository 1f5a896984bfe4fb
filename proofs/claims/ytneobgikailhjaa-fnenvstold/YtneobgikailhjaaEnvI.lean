/- What is asked of the program's functions on names and numbers: their contracts, to be shown at the landed code; and the laws on drawn names out of them. -/
import Derived.Test.YtneobgikailhjaaEnvTop
import Derived.Test.YtneobgikailhjaaEnvAsc
namespace Go.Proofs.Ytneobgikailhjaa
open Go.RowKit

/-- A list within the laws' bounds. -/
def VInD (xs : List VarD) : Prop := xs.length ≤ 1048576 ∧ (∀ x ∈ xs, x.1.size ≤ 1048576) ∧ (∀ x ∈ xs, -9223372036854775808 ≤ x.2 ∧ x.2 ≤ 9223372036854775807)
theorem vInD_any {xs : List VarD} {k : Nat} (h : AnyV xs k) (hk : k ≤ 1000) : VInD xs :=
  ⟨by have := h.1; omega, fun x hx => by have := (h.2.1 x hx).1; omega, fun x hx => by have := (h.2.1 x hx).2; omega⟩

def IEnvOk : Prop := ∀ (v : Value) (xs : List VarD) (w : World), VInD xs → VRow w v xs → Calls Try.prog 13 #[v] w fun e w' => e = .returned (.bool (envB xs)) ∧ Below w.heap.size w w'
def IEnvGet : Prop := ∀ (v : Value) (xs : List VarD) (name : ByteArray) (w : World), VInD xs → name.size ≤ 1048576 → VRow w v xs → Calls Try.prog 12 #[v, .string name] w fun e w' => e = .returned (getVal xs name) ∧ Below w.heap.size w w'
/-- (At lists that ascend, or where the answer is no: elsewhere the program and the specification may part.) -/
def IEnvSet : Prop := ∀ (v : Value) (xs : List VarD) (name : ByteArray) (num : Int) (w : World), VInD xs → (ascB xs = true ∨ setOk xs name num = false) → name.size ≤ 1048576 → -9223372036854775808 ≤ num → num ≤ 9223372036854775807 → VRow w v xs → Calls Try.prog 11 #[v, .string name, .int .i64 num] w fun e w' => ∃ o, e = .returned (.tuple #[o, .bool (setOk xs name num)]) ∧ OwnV w.heap.size o (setL xs name num) w' ∧ Below w.heap.size w w'

theorem asc_chain {xs : List VarD} (h : chainB none xs = true) : ascB xs = true := by
  rw [chain_parts, Bool.and_eq_true] at h
  exact h.1

theorem getVal_of {xs : List VarD} {name : ByteArray} {z : Int} (h : getB xs name = some z) : getVal xs name = .tuple #[.int .i64 z, .bool true] := by unfold getVal; rw [h]
theorem getVal_none {xs : List VarD} {name : ByteArray} (h : getB xs name = none) : getVal xs name = .tuple #[.int .i64 0, .bool false] := by unfold getVal; rw [h]

def names3 : List ByteArray := [⟨#[97]⟩, ⟨#[110]⟩, ⟨#[110, 101, 119]⟩]
theorem names3_ok : ∀ s ∈ names3, nameB s = true ∧ s.size ≤ 3 := by
  intro s hs
  simp only [names3, List.mem_cons, List.not_mem_nil, or_false] at hs
  rcases hs with rfl | rfl | rfl <;> decide

/-- What is needed of a drawn right list with a name put into it. -/
theorem good_put {xs : List VarD} {name : ByteArray} {num : Int} (h : EnvGood xs 4) (hn : nameB name = true) (hr : -9999 ≤ num ∧ num ≤ 9999) :
    envB (putB xs name num) = true ∧ envB xs = true ∧ (putB xs name num).length ≤ xs.length + 1 ∧ getB (putB xs name num) name = some num ∧ (∀ x ∈ xs, x.1 ≠ name → getB (putB xs name num) x.1 = some x.2) := by
  have h1 := chain_put xs none name num h.1 hn hr trivial
  have h2 := put_len xs none name num h.1
  have h3 := h.2.1
  refine ⟨by rw [envB, h1, Bool.true_and, decide_eq_true_eq]; omega, by rw [envB, h.1, Bool.true_and, decide_eq_true_eq]; omega, h2, get_put xs none name num h.1, fun x hx hne => ?_⟩
  rw [get_other xs none name num x.1 h.1 hne]
  exact get_mem xs none h.1 x hx

theorem big_env (a : Option Addr) (n cap : Nat) (w : World) :
    Calls Try.prog 8 #[.slice a n cap] w fun e w' => e = .returned (.bool (decide (1048576 < (n : Int)))) ∧ w' = w := by
  go_enter Try.func8, Try.ntmps8
  go_wp2
  go_ret
  exact ⟨rfl, rfl⟩

set_option maxHeartbeats 3200000 in
set_option maxRecDepth 100000 in
theorem fnEnvs_of (iOk : IEnvOk) (iGet : IEnvGet) (iSet : IEnvSet) (a : Option Addr) (n cap : Nat) (w : World) (hcode : CodeRow w (.slice a n cap) n) :
    Calls Try.prog 3 #[.slice a n cap] w fun e w' => e = .returned (.bool true) ∧ Below w.heap.size w w' := by
  have HC : Hid (CodeRow w (.slice a n cap) n) := hcode
  have HIO : Hid IEnvOk := iOk
  have HIG : Hid IEnvGet := iGet
  have HIS : Hid IEnvSet := iSet
  clear hcode iOk iGet iSet
  by_cases hn : n ≤ 1048576
  · have hd : decide (1048576 < (n : Int)) = false := by simp; omega
    go_enter Try.func3, Try.ntmps3
    go_wp2_with fail
    refine (big_env a n cap _).mono ?_
    rintro e wq ⟨rfl, hw⟩
    rw [hw, hd]
    clear hw wq
    go_wp2_with fail
    refine (drawEnv_any w _ n _ (by omega) HC.out (Below.refl _ _)).mono ?_
    rintro e w1 ⟨o, xs, rfl, hgood, ho, hb1⟩
    have B1 : Hid (Below w.heap.size w w1) := hb1
    have HE : Hid (EnvGood xs 4) := hgood
    have O1 : Hid (VRow w1 o xs) := ho.row
    have hxl : xs.length ≤ 4 := hgood.2.1
    obtain ⟨ae, cape, rfl⟩ := ho.row.slice
    clear hb1 hgood ho
    go_wp2_with fail
    refine (drawPlaces_any w _ n _ (by omega) HC.out B1.out).mono ?_
    rintro e w2 ⟨p, rfl, hp, hb2⟩
    have B2 : Hid (Below w.heap.size w w2) := B1.out.trans (hb2.mono B1.out.size)
    have O2 : Hid (VRow w2 (.slice ae xs.length cape) xs) := O1.out.below hb2
    obtain ⟨gp, capp, f, rfl, hgp, hcp, hf⟩ := hp.at
    obtain ⟨f00, f01, hc0⟩ := hf 0 (by omega)
    obtain ⟨f10, f11, hc1⟩ := hf 1 (by omega)
    clear hb2 hp hf
    generalize f 0 = f0 at *
    generalize f 1 = f1 at *
    obtain ⟨i, hi, hil⟩ : ∃ i : Nat, f0 % 3 = (i : Int) ∧ i < 3 := ⟨(f0 % 3).toNat, by omega, by omega⟩
    have bal : Below w2.heap.size w2 (w2.alloc (.cells #[.string ⟨#[97]⟩, .string ⟨#[110]⟩, .string ⟨#[110, 101, 119]⟩] 9)) := (Below.refl _ _).alloc (Nat.le_refl _) _
    have hp0 := cell_keep hc0 bal
    have hp1 := cell_keep hc1 bal
    have hnm : names3[i]'(by simpa [names3] using hil) ∈ names3 := List.getElem_mem _
    have hl : (w2.alloc (.cells #[.string ⟨#[97]⟩, .string ⟨#[110]⟩, .string ⟨#[110, 101, 119]⟩] 9)).cell? ⟨w2.heap.size, i, none⟩ = some (.string (names3[i]'(by simpa [names3] using hil))) := by
      have := lit_row w2 (names3.map Value.string) 9 i (by simpa [names3] using hil)
      simp only [List.getElem_map] at this
      exact this
    have B3 : Hid (Below w.heap.size w (w2.alloc (.cells #[.string ⟨#[97]⟩, .string ⟨#[110]⟩, .string ⟨#[110, 101, 119]⟩] 9))) := B2.out.trans (bal.mono B2.out.size)
    have O3 : Hid (VRow (w2.alloc (.cells #[.string ⟨#[97]⟩, .string ⟨#[110]⟩, .string ⟨#[110, 101, 119]⟩] 9)) (.slice ae xs.length cape) xs) := O2.out.below bal
    generalize names3[i]'(by simpa [names3] using hil) = name at *
    have hnk := names3_ok name hnm
    have HG : Hid (envB (putB xs name (f1 - 5000)) = true ∧ envB xs = true ∧ (putB xs name (f1 - 5000)).length ≤ xs.length + 1 ∧ getB (putB xs name (f1 - 5000)) name = some (f1 - 5000) ∧ (∀ x ∈ xs, x.1 ≠ name → getB (putB xs name (f1 - 5000)) x.1 = some x.2)) := good_put HE.out hnk.1 (by omega)
    have HVx : Hid (VInD xs) := vInD_any (anyV_good HE.out) (by omega)
    have HVp : Hid (VInD (putB xs name (f1 - 5000))) := by
      refine vInD_any (k := 5) ⟨by have := HG.out.2.2.1; omega, fun x hx => ?_, .inl (by have := HG.out.1; rw [envB_parts, Bool.and_eq_true, Bool.and_eq_true] at this; exact this.1.2)⟩ (by omega)
      rcases put_mem hx with hx | rfl
      · exact (anyV_good HE.out).2.1 x hx
      · exact ⟨by show name.size ≤ 5; have := hnk.2; omega, by show -10000 ≤ f1 - 5000; omega, by show f1 - 5000 ≤ 10000; omega⟩
    have HNK : Hid (nameB name = true ∧ name.size ≤ 3) := hnk
    clear hc0 hc1 bal hnm hnk
    generalize hw3 : w2.alloc (.cells #[.string ⟨#[97]⟩, .string ⟨#[110]⟩, .string ⟨#[110, 101, 119]⟩] 9) = w3 at *
    go_wp2_with fail
    refine (HIS.out _ xs name (f1 - 5000) _ HVx.out (.inl (asc_chain HE.out.1)) (by have := HNK.out.2; omega) (by omega) (by omega) O3.out).mono ?_
    have HL0 : Hid (setL xs name (f1 - 5000) = putB xs name (f1 - 5000)) := setL_yes HG.out.1
    have HK0 : Hid (setOk xs name (f1 - 5000) = true) := HG.out.1
    rw [HL0.out, HK0.out]
    clear HL0 HK0
    rintro e w4 ⟨x, rfl, hx4, hb4⟩
    have B4 : Hid (Below w.heap.size w w4) := B3.out.trans (hb4.mono B3.out.size)
    have O4 : Hid (VRow w4 (.slice ae xs.length cape) xs) := O3.out.below hb4
    have X4 : Hid (VRow w4 x (putB xs name (f1 - 5000))) := hx4.row
    have hq1 := cell_keep hp1 hb4
    have hpl := HG.out.2.2.1
    obtain ⟨ax, capx, rfl⟩ := hx4.row.slice
    clear hx4 hb4 hp0 hp1 hl hw3
    generalize hPS : putB xs name (f1 - 5000) = ps at *
    clear hPS
    go_wp2_with fail
    refine (HIG.out _ ps name _ HVp.out (by have := HNK.out.2; omega) X4.out).mono ?_
    rw [getVal_of HG.out.2.2.2.1]
    rintro e w5 ⟨rfl, hb5⟩
    have B5 : Hid (Below w.heap.size w w5) := B4.out.trans (hb5.mono B4.out.size)
    have O5 : Hid (VRow w5 (.slice ae xs.length cape) xs) := O4.out.below hb5
    have X5 : Hid (VRow w5 (.slice ax ps.length capx) ps) := X4.out.below hb5
    have hq2 := cell_keep hq1 hb5
    have HQ : Hid (w5.cell? ⟨gp, 1, none⟩ = some (.int .i64 f1)) := hq2
    clear hb5 hq1 hq2
    go_wp2
    go_loopw [10] (fun iv wr => ∃ k : Nat, iv = .int .i64 k ∧ k ≤ xs.length ∧ Below w5.heap.size w5 wr) (fun iv _ => xs.length - (intOf iv).toNat)
    case atStart => exact ⟨0, rfl, Nat.zero_le _, Below.refl _ _⟩
    case round =>
      obtain ⟨k, rfl, hk, hbw⟩ := hrel
      have HBw : Hid (Below w5.heap.size w5 wr) := hbw
      have Or : Hid (VRow wr (.slice ae xs.length cape) xs) := O5.out.below hbw
      have Xr : Hid (VRow wr (.slice ax ps.length capx) ps) := X5.out.below hbw
      have hqr := cell_keep HQ.out hbw
      clear hbw
      by_cases hlt : k < xs.length
      · obtain ⟨b, off, rfl, hc1, hc2⟩ := Or.out.at hlt
        have hsz : xs[k].1.size ≤ 1048576 := HVx.out.2.1 _ (List.getElem_mem _)
        have HI : Hid (∀ W, VRow W (.slice ax ps.length capx) ps → _) := fun W hv => HIG.out (.slice ax ps.length capx) ps xs[k].1 W HVp.out hsz hv
        clear hsz
        by_cases hnm : xs[k].1 = name
        · have ht := beq_yes hnm
          have hg : getVal ps xs[k].1 = .tuple #[.int .i64 (f1 - 5000), .bool true] := getVal_of (by rw [hnm]; exact HG.out.2.2.2.1)
          rw [hg] at HI
          clear hg hnm
          go_wp2_with fail
          refine (HI.out _ Xr.out).mono ?_
          rintro e w6 ⟨rfl, hb6⟩
          have HB6 : Hid (Below w5.heap.size w5 w6) := HBw.out.trans (hb6.mono HBw.out.size)
          have hc1' := cell_keep hc1 hb6
          have hc2' := cell_keep hc2 hb6
          clear hb6 hc1 hc2
          go_wp2
          go_roundw
          case rel => exact ⟨k + 1, by go_num, by omega, HB6.out⟩
          case measure => simp [intOf]; omega
        · have ht := beq_no hnm
          have hg : getVal ps xs[k].1 = .tuple #[.int .i64 xs[k].2, .bool true] := getVal_of (HG.out.2.2.2.2 _ (List.getElem_mem _) hnm)
          rw [hg] at HI
          clear hg hnm
          go_wp2_with fail
          refine (HI.out _ Xr.out).mono ?_
          rintro e w6 ⟨rfl, hb6⟩
          have HB6 : Hid (Below w5.heap.size w5 w6) := HBw.out.trans (hb6.mono HBw.out.size)
          have hc1' := cell_keep hc1 hb6
          have hc2' := cell_keep hc2 hb6
          clear hb6 hc1 hc2
          go_wp2
          go_roundw
          case rel => exact ⟨k + 1, by go_num, by omega, HB6.out⟩
          case measure => simp [intOf]; omega
      · obtain rfl : k = xs.length := by omega
        have HNo : Hid (getB xs ⟨#[110, 111, 110, 101]⟩ = none) := getB_none.2 (fun x hx => by
          have := HE.out.2.2 x hx
          simp only [names5, List.mem_cons, List.not_mem_nil, or_false] at this
          rcases this with h | h | h | h | h <;> rw [h] <;> decide)
        go_wp2_with fail
        refine (HIG.out _ xs ⟨#[110, 111, 110, 101]⟩ _ HVx.out (by decide) Or.out).mono ?_
        rw [getVal_none HNo.out]
        rintro e w6 ⟨rfl, hb6⟩
        have B6 : Hid (Below w.heap.size w w6) := B5.out.trans ((HBw.out.trans (hb6.mono HBw.out.size)).mono B5.out.size)
        have O6 : Hid (VRow w6 (.slice ae xs.length cape) xs) := Or.out.below hb6
        have X6 : Hid (VRow w6 (.slice ax ps.length capx) ps) := Xr.out.below hb6
        have hq6 := cell_keep hqr hb6
        clear hb6 hqr
        go_wp2_with fail
        refine (HIO.out _ xs _ HVx.out O6.out).mono ?_
        rw [HG.out.2.1]
        rintro e w7 ⟨rfl, hb7⟩
        have B7 : Hid (Below w.heap.size w w7) := B6.out.trans (hb7.mono B6.out.size)
        have X7 : Hid (VRow w7 (.slice ax ps.length capx) ps) := X6.out.below hb7
        have hq7 := cell_keep hq6 hb7
        clear hb7 hq6
        go_wp2_with fail
        refine (HIO.out _ ps _ HVp.out X7.out).mono ?_
        rw [HG.out.1]
        rintro e w8 ⟨rfl, hb8⟩
        have B8 : Hid (Below w.heap.size w w8) := B7.out.trans (hb8.mono B7.out.size)
        have hq8 := cell_keep hq7 hb8
        clear hb8 hq7
        have hpl2 : (ps.length : Int) ≤ (xs.length : Int) + 1 := by omega
        go_wp2
        go_ret
        exact ⟨rfl, B8.out⟩
  · have h2 : (1048576 : Int) < n := by omega
    have hd : decide (1048576 < (n : Int)) = true := by simp; omega
    go_enter Try.func3, Try.ntmps3
    go_wp2_with fail
    refine (big_env a n cap _).mono ?_
    rintro e wq ⟨rfl, hw⟩
    rw [hw, hd]
    clear hw wq
    go_wp2
    go_ret
    exact ⟨rfl, Below.refl _ _⟩

end Go.Proofs.Ytneobgikailhjaa
