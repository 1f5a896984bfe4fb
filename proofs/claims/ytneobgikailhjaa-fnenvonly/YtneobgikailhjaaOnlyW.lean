/- The law on drawn names that are asked for, walked. -/
import Derived.Test.YtneobgikailhjaaEnvsW
import Derived.Test.YtneobgikailhjaaSameV
import Derived.Test.YtneobgikailhjaaOnlyI
import Derived.Test.YtneobgikailhjaaDrawOnly
namespace Go.Proofs.Ytneobgikailhjaa
open Go.RowKit

theorem get_filter (q : ByteArray → Bool) (k : ByteArray) : ∀ xs : List VarD, getB (xs.filter (fun x => q x.1)) k = if q k = true then getB xs k else none
  | [] => by simp [getB]
  | x :: xs => by
    have ih := get_filter q k xs
    by_cases h : q x.1 = true
    · rw [List.filter_cons, if_pos h, getB, getB, ih]
      by_cases e : x.1 = k
      · subst e; simp [h]
      · simp [e]
    · rw [List.filter_cons, if_neg h, ih, getB]
      by_cases e : x.1 = k
      · subst e; simp [h]
      · simp [e]
theorem get_only {xs : List VarD} (ss : List ByteArray) (h : chainB none xs = true) {x : VarD} (hx : x ∈ xs) : getB (onlyB xs ss) x.1 = if inB ss x.1 = true then some x.2 else none := by
  rw [onlyB, get_filter (fun s => inB ss s), get_mem xs none h x hx]
theorem only_ok {xs : List VarD} (ss : List ByteArray) (h : EnvGood xs 4) : envB (onlyB xs ss) = true := by
  have h1 := h.1
  rw [chain_parts, Bool.and_eq_true] at h1
  rw [envB_parts, Bool.and_eq_true, Bool.and_eq_true]
  refine ⟨⟨?_, ?_⟩, ?_⟩
  · rw [decide_eq_true_eq, onlyB]
    have := List.length_filter_le (fun x : VarD => inB ss x.1) xs
    have := h.2.1
    omega
  · rw [ascB_iff, onlyB]
    exact List.Pairwise.filter _ ((ascB_iff xs).1 h1.1)
  · rw [List.all_eq_true]
    intro x hx
    exact List.all_eq_true.1 h1.2 x (List.mem_filter.1 hx).1
theorem only_all (xs : List VarD) : onlyB xs (xs.map (·.1)) = xs := by
  rw [onlyB]
  exact filter_all (fun x hx => (inB_iff _ _).2 (List.mem_map.2 ⟨x, hx, rfl⟩))
theorem only_none (xs : List VarD) : onlyB xs [] = [] := by
  rw [onlyB]
  exact filter_no (fun x _ => rfl)

theorem srow_nil (w : World) (a : Addr) : SRow w (.slice (some a) 0 0) [] := ⟨some a, 0, rfl, (fun h => by cases h), (fun h => absurd h (by simp))⟩
theorem only_le (xs : List VarD) (ss : List ByteArray) : (onlyB xs ss).length ≤ xs.length := List.length_filter_le _ _

set_option maxHeartbeats 3200000 in
set_option maxRecDepth 100000 in
theorem fnEnvOnly_walk (a : Option Addr) (n cap : Nat) (w : World) (hcode : CodeRow w (.slice a n cap) n) :
    Calls Try.prog 5 #[.slice a n cap] w fun e w' => e = .returned (.bool true) ∧ Below w.heap.size w w' := by
  obtain ⟨j0, hj, hz0, hz1, hz2⟩ := info_parts Try.infoStr
  have HC : Hid (CodeRow w (.slice a n cap) n) := hcode
  clear hcode
  by_cases hn : n ≤ 1048576
  · have hd : decide (1048576 < (n : Int)) = false := by simp; omega
    go_enter Try.func5, Try.ntmps5
    go_wp2_with fail
    refine (big_env a n cap _).mono ?_
    rintro e wq ⟨rfl, hw⟩
    rw [hw, hd]
    clear hw wq
    go_wp2_with fail
    refine (drawEnv_any w _ n _ (by omega) HC.out (Below.refl _ _)).mono ?_
    rintro e w1 ⟨o, xs, rfl, hgood, ho, hb1⟩
    have B1 : Hid (Below w.heap.size w w1) := hb1
    have HE : Hid (EnvGood xs 4) := hgood
    have HVx : Hid (VInD xs) := vInD_any (anyV_good hgood) (by omega)
    have O1 : Hid (VRow w1 o xs) := ho.row
    have hxl : xs.length ≤ 4 := hgood.2.1
    obtain ⟨ae, cape, rfl⟩ := ho.row.slice
    clear hb1 hgood ho
    go_wp2_with fail
    refine (drawEnvOnly_any w _ n _ (by omega) HC.out B1.out).mono ?_
    rintro e w2 ⟨x, ys, u, ss, rfl, hany, hsl, hsz, hx, hu, hb2⟩
    have B2 : Hid (Below w.heap.size w w2) := B1.out.trans (hb2.mono B1.out.size)
    have O2 : Hid (VRow w2 (.slice ae xs.length cape) xs) := O1.out.below hb2
    have X2 : Hid (VRow w2 x ys) := hx.row
    have U2 : Hid (SRow w2 u ss) := hu
    have HVy : Hid (VInD ys) := vInD_any hany (by omega)
    have HSz : Hid (∀ s ∈ ss, s.size ≤ 1048576) := fun s hs => by have := hsz s hs; omega
    have hyl : ys.length ≤ 8 := hany.1
    obtain ⟨ax, capx, rfl⟩ := hx.row.slice
    obtain ⟨au, capu, rfl⟩ := hu.slice
    clear hb2 hx hu hany hsz
    have hol := only_le xs ss
    have HOk : Hid (envB (onlyB xs ss) = true) := only_ok ss HE.out
    have HGet : Hid (∀ x ∈ xs, getB (onlyB xs ss) x.1 = if inB ss x.1 = true then some x.2 else none) := fun x hx => get_only ss HE.out.1 hx
    have HVl : Hid (VInD (onlyB xs ss)) := ⟨by omega, fun x hx => HVx.out.2.1 x (List.mem_filter.1 hx).1, fun x hx => HVx.out.2.2 x (List.mem_filter.1 hx).1⟩
    have HIx : Hid (∀ (v u : Value) (W : World), VRow W v xs → SRow W u ss → _) := fun v u W hv hu => implEnvOnly_any v u xs ss W (by omega) HVx.out.2.1 (by omega) HSz.out hv hu
    generalize onlyB xs ss = L at *
    go_wp2_with fail
    refine (HIx.out _ _ _ O2.out U2.out).mono ?_
    rintro e w3 ⟨l, rfl, hl, hb3⟩
    have B3 : Hid (Below w.heap.size w w3) := B2.out.trans (hb3.mono B2.out.size)
    have O3 : Hid (VRow w3 (.slice ae xs.length cape) xs) := O2.out.below hb3
    have X3 : Hid (VRow w3 (.slice ax ys.length capx) ys) := X2.out.below hb3
    have U3 : Hid (SRow w3 (.slice au ss.length capu) ss) := U2.out.below hb3
    have L3 : Hid (VRow w3 l L) := hl.row
    obtain ⟨al, capl, rfl⟩ := hl.row.slice
    clear hb3 hl HIx
    go_wp2
    go_loopw [7] (fun iv wr => ∃ k : Nat, iv = .int .i64 k ∧ k ≤ xs.length ∧ Below w3.heap.size w3 wr) (fun iv _ => xs.length - (intOf iv).toNat)
    case atStart => exact ⟨0, rfl, Nat.zero_le _, Below.refl _ _⟩
    case round =>
      obtain ⟨k, rfl, hk, hbw⟩ := hrel
      have HBw : Hid (Below w3.heap.size w3 wr) := hbw
      have Or : Hid (VRow wr (.slice ae xs.length cape) xs) := O3.out.below hbw
      have Lr : Hid (VRow wr (.slice al L.length capl) L) := L3.out.below hbw
      have Ur : Hid (SRow wr (.slice au ss.length capu) ss) := U3.out.below hbw
      clear hbw
      by_cases hlt : k < xs.length
      · obtain ⟨b, off, rfl, hc1, hc2⟩ := Or.out.at hlt
        have hsz : xs[k].1.size ≤ 1048576 := HVx.out.2.1 _ (List.getElem_mem _)
        have hget := HGet.out xs[k] (List.getElem_mem _)
        have HI : Hid (∀ W, VRow W (.slice al L.length capl) L → _) := fun W hv => iEnvGet (.slice al L.length capl) L xs[k].1 W HVl.out hsz hv
        have i4 : (k : Int) < (xs.length : Int) := by omega
        cases hin : inB ss xs[k].1 with
        | true =>
          rw [hin, if_pos rfl] at hget
          rw [getVal_of hget] at HI
          have HH : Hid (∀ W, SRow W (.slice au ss.length capu) ss → _) := fun W hv => has_is (.slice au ss.length capu) ss xs[k].1 true hin W (by omega) hv
          clear hget hin hsz
          go_wp2_with fail
          refine (HI.out _ Lr.out).mono ?_
          rintro e w6 ⟨rfl, hb6⟩
          have HB6 : Hid (Below w3.heap.size w3 w6) := HBw.out.trans (hb6.mono HBw.out.size)
          have hc1' := cell_keep hc1 hb6
          have hc2' := cell_keep hc2 hb6
          have U6 : Hid (SRow w6 (.slice au ss.length capu) ss) := Ur.out.below hb6
          clear hb6 hc1 hc2
          go_wp2_with fail
          refine (HH.out _ U6.out).mono ?_
          rintro e wq ⟨rfl, hw⟩
          rw [hw]
          clear hw wq
          go_wp2
          go_roundw
          case rel => exact ⟨k + 1, by go_num, by omega, HB6.out⟩
          case measure => simp [intOf]; omega
        | false =>
          rw [hin, if_neg (by simp)] at hget
          rw [getVal_none hget] at HI
          have HH : Hid (∀ W, SRow W (.slice au ss.length capu) ss → _) := fun W hv => has_is (.slice au ss.length capu) ss xs[k].1 false hin W (by omega) hv
          clear hget hin hsz
          go_wp2_with fail
          refine (HI.out _ Lr.out).mono ?_
          rintro e w6 ⟨rfl, hb6⟩
          have HB6 : Hid (Below w3.heap.size w3 w6) := HBw.out.trans (hb6.mono HBw.out.size)
          have hc1' := cell_keep hc1 hb6
          have hc2' := cell_keep hc2 hb6
          have U6 : Hid (SRow w6 (.slice au ss.length capu) ss) := Ur.out.below hb6
          clear hb6 hc1 hc2
          go_wp2_with fail
          refine (HH.out _ U6.out).mono ?_
          rintro e wq ⟨rfl, hw⟩
          rw [hw]
          clear hw wq
          go_wp2
          go_roundw
          case rel => exact ⟨k + 1, by go_num, by omega, HB6.out⟩
          case measure => simp [intOf]; omega
      · obtain rfl : k = xs.length := by omega
        have B4 : Hid (Below w.heap.size w wr) := B3.out.trans (HBw.out.mono B3.out.size)
        have X4 : Hid (VRow wr (.slice ax ys.length capx) ys) := X3.out.below HBw.out
        generalize wr = wb at *
        go_wp2
        go_loopw [10, 11] (fun ov iv ww => ∃ j : Nat, iv = .int .i64 j ∧ j ≤ xs.length ∧ OwnB wb.heap.size ov ((xs.take j).map (·.1)) ww ∧ Below wb.heap.size wb ww) (fun _ iv _ => xs.length - (intOf iv).toNat)
        case atStart => exact ⟨0, rfl, Nat.zero_le _, World.ownsRow_made _ _ _ (Nat.le_refl _) (by decide) rfl, (Below.refl _ _).alloc (Nat.le_refl _) _⟩
        case round =>
          obtain ⟨j, rfl, hjl, hown, hbw⟩ := hrel
          have HO : Hid (OwnB wb.heap.size u10 ((xs.take j).map (·.1)) wr) := hown
          have HBr : Hid (Below wb.heap.size wb wr) := hbw
          have O5 : Hid (VRow wr (.slice ae xs.length cape) xs) := Or.out.below hbw
          clear hown hbw
          by_cases hlt : j < xs.length
          · obtain ⟨b, off, rfl, hc1, hc2⟩ := O5.out.at hlt
            have hml : ((xs.take j).map (·.1)).length ≤ j := by rw [List.length_map, List.length_take]; omega
            have HF : Hid ((xs.take (j + 1)).map (·.1) = (xs.take j).map (·.1) ++ [xs[j].1]) := by
              rw [Hid, List.take_succ_eq_append_getElem hlt, List.map_append]
              rfl
            generalize (xs.take j).map (·.1) = zs at *
            go_wp2_with (at_builtin; refine wpList_append_own _ rfl _ _ 28 rfl wb.heap.size 9 j0 _ 1 16 Try.underlying28 hj hz0 hz1 hz2 rfl (by decide) _ _ _ rfl (World.ownsRow.alloc HO.out _) ⟨wr.heap.size, 0, none⟩ 1 1 [.string xs[j].1] rfl rfl (one_row _ _ _) (one_cell1 _) (by unfold maxLen; omega) (by omega) (by have h8 := HBr.out.size; simp; omega) ?_)
            intro v' w5 hown5 hgrow _
            have HO5 : Hid (OwnB wb.heap.size v' (zs ++ [xs[j].1]) w5) := by
              rw [Hid, OwnB, List.length_append, sb, List.map_append]
              exact hown5
            have HB5 : Hid (Below wb.heap.size wb w5) := (HBr.out.alloc HBr.out.size _).grown hgrow (by have := HBr.out.size; simp; omega) (fun g hg => (HO.out.lt g hg).1)
            clear hown5 hgrow
            go_wp2
            go_roundw
            case rel => exact ⟨j + 1, by go_num, by omega, by rw [HF.out]; exact HO5.out, HB5.out⟩
            case measure => simp [intOf]; omega
          · obtain rfl : j = xs.length := by omega
            rw [List.take_of_length_le (Nat.le_refl _)] at HO
            have B5 : Hid (Below w.heap.size w wr) := B4.out.trans (HBr.out.mono B4.out.size)
            have X5 : Hid (VRow wr (.slice ax ys.length capx) ys) := X4.out.below HBr.out
            have L5 : Hid (VRow wr (.slice al L.length capl) L) := Lr.out.below HBr.out
            have U5 : Hid (SRow wr (.slice au ss.length capu) ss) := Ur.out.below HBr.out
            have A5 : Hid (SRow wr u10 (xs.map (·.1))) := HO.out.row
            have HAz : Hid (∀ s ∈ xs.map (·.1), s.size ≤ 1048576) := fun s hs => by
              obtain ⟨x, hx, rfl⟩ := List.mem_map.1 hs
              exact HVx.out.2.1 x hx
            have hal : (xs.map (·.1)).length ≤ 1048576 := by rw [List.length_map]; omega
            have HIa : Hid (∀ (v u : Value) (W : World), VRow W v xs → SRow W u (xs.map (·.1)) → Calls Try.prog 24 #[v, u] W fun e w' => ∃ o, e = .returned o ∧ OwnV W.heap.size o xs w' ∧ Below W.heap.size W w') := fun v u W hv hu => by
              have := implEnvOnly_any v u xs (xs.map (·.1)) W (by omega) HVx.out.2.1 hal HAz.out hv hu
              rwa [only_all] at this
            have HIn : Hid (∀ (v u : Value) (W : World), VRow W v xs → SRow W u [] → Calls Try.prog 24 #[v, u] W fun e w' => ∃ o, e = .returned o ∧ OwnV W.heap.size o [] w' ∧ Below W.heap.size W w') := fun v u W hv hu => by
              have := implEnvOnly_any v u xs [] W (by omega) HVx.out.2.1 (by simp) (fun s hs => by cases hs) hv hu
              rwa [only_none] at this
            have HIy : Hid (∀ (v u : Value) (W : World), VRow W v ys → SRow W u ss → _) := fun v u W hv hu => implEnvOnly_any v u ys ss W (by omega) HVy.out.2.1 (by omega) HSz.out hv hu
            have HSy : Hid (∀ (v u : Value) (W : World), VRow W v ys → SRow W u ss → _) := fun v u W hv hu => specEnvOnly_any v u ys ss W (by omega) (by omega) hv hu
            have hMl := only_le ys ss
            generalize onlyB ys ss = M at *
            clear HO HBr hal
            go_wp2_with fail
            refine (HIa.out _ _ _ O5.out A5.out).mono ?_
            rintro e w6 ⟨o6, rfl, ho6, hb6⟩
            have B6 : Hid (Below w.heap.size w w6) := B5.out.trans (hb6.mono B5.out.size)
            have O6 : Hid (VRow w6 (.slice ae xs.length cape) xs) := O5.out.below hb6
            have X6 : Hid (VRow w6 (.slice ax ys.length capx) ys) := X5.out.below hb6
            have L6 : Hid (VRow w6 (.slice al L.length capl) L) := L5.out.below hb6
            have U6 : Hid (SRow w6 (.slice au ss.length capu) ss) := U5.out.below hb6
            have R6 : Hid (VRow w6 o6 xs) := ho6.row
            clear ho6 hb6
            go_wp2_with fail
            refine (sameVars_same _ _ xs _ (by omega) R6.out O6.out).mono ?_
            rintro e w7 ⟨rfl, hb7⟩
            have B7 : Hid (Below w.heap.size w w7) := B6.out.trans (hb7.mono B6.out.size)
            have hb8 := (Below.refl w7.heap.size w7).alloc (Nat.le_refl _) (.cells #[] 9)
            have O8 : Hid (VRow (w7.alloc (.cells #[] 9)) (.slice ae xs.length cape) xs) := (O6.out.below hb7).below hb8
            have X8 : Hid (VRow (w7.alloc (.cells #[] 9)) (.slice ax ys.length capx) ys) := (X6.out.below hb7).below hb8
            have L8 : Hid (VRow (w7.alloc (.cells #[] 9)) (.slice al L.length capl) L) := (L6.out.below hb7).below hb8
            have U8 : Hid (SRow (w7.alloc (.cells #[] 9)) (.slice au ss.length capu) ss) := (U6.out.below hb7).below hb8
            have B8 : Hid (Below w.heap.size w (w7.alloc (.cells #[] 9))) := B7.out.trans (hb8.mono B7.out.size)
            clear hb7 hb8
            go_wp2_with fail
            refine (HIn.out _ _ _ O8.out (srow_nil _ _)).mono ?_
            rintro e w9 ⟨o9, rfl, ho9, hb9⟩
            have B9 : Hid (Below w.heap.size w w9) := B8.out.trans (hb9.mono B8.out.size)
            have X9 : Hid (VRow w9 (.slice ax ys.length capx) ys) := X8.out.below hb9
            have L9 : Hid (VRow w9 (.slice al L.length capl) L) := L8.out.below hb9
            have U9 : Hid (SRow w9 (.slice au ss.length capu) ss) := U8.out.below hb9
            obtain ⟨a9, cap9, rfl⟩ := ho9.row.slice
            clear hb9 ho9
            go_wp2_with fail
            refine (iEnvOk _ L _ HVl.out L9.out).mono ?_
            rw [HOk.out]
            rintro e w10 ⟨rfl, hb10⟩
            have B10 : Hid (Below w.heap.size w w10) := B9.out.trans (hb10.mono B9.out.size)
            have X10 : Hid (VRow w10 (.slice ax ys.length capx) ys) := X9.out.below hb10
            have U10 : Hid (SRow w10 (.slice au ss.length capu) ss) := U9.out.below hb10
            clear hb10
            go_wp2_with fail
            refine (HIy.out _ _ _ X10.out U10.out).mono ?_
            rintro e w11 ⟨o11, rfl, ho11, hb11⟩
            have B11 : Hid (Below w.heap.size w w11) := B10.out.trans (hb11.mono B10.out.size)
            have X11 : Hid (VRow w11 (.slice ax ys.length capx) ys) := X10.out.below hb11
            have U11 : Hid (SRow w11 (.slice au ss.length capu) ss) := U10.out.below hb11
            have M11 : Hid (VRow w11 o11 M) := ho11.row
            clear hb11 ho11
            go_wp2_with fail
            refine (HSy.out _ _ _ X11.out U11.out).mono ?_
            rintro e w12 ⟨o12, rfl, ho12, hb12⟩
            have B12 : Hid (Below w.heap.size w w12) := B11.out.trans (hb12.mono B11.out.size)
            have M12 : Hid (VRow w12 o11 M) := M11.out.below hb12
            have N12 : Hid (VRow w12 o12 M) := ho12.row
            clear hb12 ho12
            go_wp2_with fail
            refine (sameVars_same _ _ M _ (by omega) M12.out N12.out).mono ?_
            rintro e w13 ⟨rfl, hb13⟩
            have B13 : Hid (Below w.heap.size w w13) := B12.out.trans (hb13.mono B12.out.size)
            clear hb13
            go_wp2
            go_ret
            exact ⟨rfl, B13.out⟩
  · have h2 : (1048576 : Int) < n := by omega
    have hd : decide (1048576 < (n : Int)) = true := by simp; omega
    go_enter Try.func5, Try.ntmps5
    go_wp2_with fail
    refine (big_env a n cap _).mono ?_
    rintro e wq ⟨rfl, hw⟩
    rw [hw, hd]
    clear hw wq
    go_wp2
    go_ret
    exact ⟨rfl, Below.refl _ _⟩

end Go.Proofs.Ytneobgikailhjaa
