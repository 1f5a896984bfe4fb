/- The program's varsInOrder and EnvSet: names kept in a map, told in order. -/
import Derived.Test.YtneobgikailhjaaEnvClone
import Derived.Test.YtneobgikailhjaaSKit
import Derived.Test.YtneobgikailhjaaIter
import Derived.Maps.OwnSet
import Derived.Maps.AppendAt
namespace Go.Proofs.Ytneobgikailhjaa
open Go.RowKit Go.Maps

theorem encStr_bytes (s : ByteArray) : encStr s.data.toList = .string s := by simp [encStr]

/-- The names of a list, as a row of texts. -/
theorem names_row {ys : List VarD} {B : Nat} {v : Value} {ss : List (List UInt8)} {w : World} (h : ss.mergeSort (fun x y => decide (x ≤ y)) = ys.map (fun y => y.1.data.toList)) (hrow : w.ownsRow B 9 1 v ss.length ((ss.mergeSort (fun x y => decide (x ≤ y))).map encStr)) : OwnB B v (ys.map (·.1)) w := by
  have hl : ss.length = (ys.map (·.1)).length := by
    rw [← List.length_mergeSort (le := fun x y => decide (x ≤ y)) ss, h]
    simp
  rw [h, hl] at hrow
  have e : (ys.map (fun y => y.1.data.toList)).map encStr = sb (ys.map (·.1)) := by
    rw [sb, List.map_map, List.map_map]
    apply List.map_congr_left
    intro y _
    exact encStr_bytes y.1
  rw [e] at hrow
  exact hrow

set_option maxHeartbeats 1600000 in
set_option maxRecDepth 100000 in
theorem varsInOrder_any (b nn : Nat) (D : DataW Unit) (ys : List VarD) (w : World) (hown : OwnM b nn D w) (hD : MapIs D ys) (ha : Asc ys) (hn : ys.length ≤ 2097153) (hz : ∀ x ∈ ys, x.1.size ≤ 1048576) :
    Calls Try.prog 37 #[.map (some b)] w fun e w' => ∃ o, e = .returned o ∧ OwnV w.heap.size o ys w' ∧ Below w.heap.size w w' := by
  obtain ⟨i0, hi, hz0, hz1, hz2⟩ := info_parts Try.infoVar
  have HM : Hid (OwnM b nn D w) := hown
  have HD : Hid (MapIs D ys) := hD
  have HZ : Hid (∀ x ∈ ys, x.1.size ≤ 1048576) := hz
  have HS : Hid (Maps.size D = ys.length) := size_map hown Try.law Try.underlying9 ha hD
  have HK : Hid (∀ ss : List (List UInt8), ss.Perm (strKeys D) → ss.mergeSort (fun x y => decide (x ≤ y)) = ys.map (fun y => y.1.data.toList)) := fun ss hp => keys_sorted hown Try.law Try.underlying9 ha hD hp
  clear hown hD ha hz
  go_enter Try.func37, Try.ntmps37
  go_wp2_with (first
    | (at_len; refine wpList_len_own _ rfl _ 57 rfl 9 3 Try.underlying57 _ b nn D rfl HM.out ?_)
    | (at_make; refine wpList_make_own _ rfl _ _ 24 rfl w.heap.size 34 i0 _ 2 Try.underlying24 hi hz0 hz1 .i64 .i64 _ ys.length rfl rfl (congrArg Int.ofNat HS.out) (by rw [hz2]; omega) (by unfold maxLen; omega) (Nat.le_refl _) ?_; intro w1 hown1 hg1))
  have HO1 : Hid (OwnV w.heap.size (.slice (some ⟨w.heap.size, 0, none⟩) 0 ys.length) [] w1) := hown1
  have HB1 : Hid (Below w.heap.size w w1) := (Below.refl _ _).grown hg1 (Nat.le_refl _) (fun k h => by cases h)
  have HM1 : Hid (OwnM b nn D w1) := OwnM.below HM.out HB1.out
  clear hown1 hg1
  go_wp2_with fail
  refine (callsIn_wide.1 (Try.maps_Keys_49 (some b) w1)).mono ?_
  rintro e wq ⟨rfl, hw⟩
  rw [hw]
  clear hw wq
  go_wp2_with fail
  refine (callsIn_wide.1 (Try.slices_Sorted_keys_48_49 b nn D _ w1 HM1.out (by rw [HS.out]; unfold maxLen; omega) (by rw [HS.out]; omega))).mono ?_
  rintro e w2 ⟨v, ss, rfl, hp, hrow, hnil, hb2⟩
  have hss := names_row (HK.out ss hp) hrow
  have hw1 := HB1.out.alloc HB1.out.size (.cells #[.map (some b)] 57)
  have HB2 : Hid (Below w.heap.size w w2) := hw1.trans (hb2.mono (by have := HB1.out.size; simp; omega))
  have HO2 : Hid (OwnV w.heap.size (.slice (some ⟨w.heap.size, 0, none⟩) 0 ys.length) [] w2) := (OwnV.alloc HO1.out _).below hb2
  have HS2 : Hid (OwnB (w1.alloc (.cells #[.map (some b)] 57)).heap.size v (ys.map (·.1)) w2) := hss
  have HG : Hid (∀ g, v.ownBlock = some g → w1.heap.size < g ∧ g < w2.heap.size) := fun g hg => by
    have := hss.lt g hg
    simp only [World.size_alloc] at this
    omega
  have HW1 : Hid (w.heap.size < w1.heap.size) := (HO1.out.lt w.heap.size rfl).2
  obtain ⟨av, capv, rfl⟩ := hss.row.slice
  have hml : (ys.map (·.1)).length = ys.length := by simp
  rw [hml] at HS2 HG ⊢
  clear hb2 hw1 hrow hnil hp hss hml
  go_wp2
  go_loopw [3, 13] (fun ov iv wr => ∃ k : Nat, iv = .int .i64 k ∧ k ≤ ys.length ∧ OwnV w.heap.size ov (ys.take k) wr ∧ Below w.heap.size w wr ∧ OwnB (w1.alloc (.cells #[.map (some b)] 57)).heap.size (.slice av ys.length capv) (ys.map (·.1)) wr ∧ ∀ g, ov.ownBlock = some g → ∀ g', (Value.slice av ys.length capv).ownBlock = some g' → g ≠ g') (fun _ iv _ => ys.length - (intOf iv).toNat)
  case atStart =>
    refine ⟨0, rfl, Nat.zero_le _, HO2.out, HB2.out, HS2.out, fun g hg g' hg' => ?_⟩
    have h1 := HG.out g' hg'
    have h2 := HW1.out
    have h3 : w.heap.size = g := Option.some.inj hg
    omega
  case round =>
    obtain ⟨k, rfl, hk, hown, hb, hs, hne⟩ := hrel
    have HO : Hid (OwnV w.heap.size u3 (ys.take k) wr) := hown
    have HB : Hid (Below w.heap.size w wr) := hb
    have HSo : Hid (OwnB (w1.alloc (.cells #[.map (some b)] 57)).heap.size (.slice av ys.length capv) (ys.map (·.1)) wr) := hs
    have HNe : Hid (∀ g, u3.ownBlock = some g → ∀ g', (Value.slice av ys.length capv).ownBlock = some g' → g ≠ g') := hne
    have HMr : Hid (OwnM b nn D wr) := OwnM.below HM.out hb
    clear hb hown hs hne
    by_cases hlt : k < ys.length
    · obtain ⟨bs, offs, rfl, hc0⟩ := HSo.out.row.at (k := k) (by simpa using hlt)
      have hc1 : wr.cell? ⟨bs, offs + k, none⟩ = some (.string ys[k].1) := by rw [hc0]; simp
      have hx := HZ.out _ (List.getElem_mem hlt)
      have hkey : keyOf Try.prog 9 (.string ys[k].1) = some (.string ys[k].1.data.toList) := Go.WideMaps.keyOf_string_mk Try.underlying9 (by unfold maxLen; omega)
      obtain ⟨c, hrun, hat, _⟩ := World.ownsMap.lookup_int HMr.out Try.law Try.underlying57 Try.underlying3 (Try.zeroInt _) hkey
      have hcv : c = ys[k].2 := by
        rw [HD.out.2.2 _ (List.getElem_mem hlt)] at hat
        simpa using hat.symm
      rw [hcv] at hrun
      have HC : Hid (∀ W, _) := fun W => clonedVar_any ys[k].1 ys[k].2 W hx
      have htl : (ys.take k).length ≤ k := by rw [List.length_take]; omega
      have HF2 : Hid (ys.take (k + 1) = ys.take k ++ [ys[k]]) := List.take_succ_eq_append_getElem hlt
      clear hx hkey hat hcv hc0
      generalize ys.take k = zs at *
      go_wp2_with fail
      refine (HC.out _).mono ?_
      rintro e w3 ⟨rfl, hb3⟩
      have HB3 : Hid (Below w.heap.size w w3) := HB.out.trans (hb3.mono HB.out.size)
      have HS3 : Hid (OwnB (w1.alloc (.cells #[.map (some b)] 57)).heap.size (.slice (some ⟨bs, offs, none⟩) ys.length capv) (ys.map (·.1)) w3) := HSo.out.below hb3
      have HO3 : Hid (OwnV w.heap.size u3 zs w3) := HO.out.below hb3
      clear hb3 HO hrun hc1
      go_wp2_with (at_builtin; refine wpList_append_own_at _ rfl _ _ 24 rfl w.heap.size 34 i0 _ 2 24 Try.underlying24 hi hz0 hz1 hz2 rfl (by decide) _ _ _ rfl (World.ownsRow.alloc HO3.out _) ⟨w3.heap.size, 0, none⟩ 1 1 [.string ys[k].1, .int .i64 ys[k].2] rfl rfl (two_at _ _ _ _) (two_cell _ _) (by unfold maxLen; omega) (by omega) (by have h8 := HB3.out.size; simp; omega) ?_)
      intro v' w4 hown4 hgrow _ hloc
      have R := ownV_snoc hown4 HO3.out hgrow rfl HB3.out
      have HS4 : Hid (OwnB (w1.alloc (.cells #[.map (some b)] 57)).heap.size (.slice (some ⟨bs, offs, none⟩) ys.length capv) (ys.map (·.1)) w4) :=
        OwnB.kept (World.ownsRow.alloc HS3.out _) hgrow (fun g' hg' e => HNe.out g' e g' hg' rfl)
      have HN4 : Hid (∀ g, v'.ownBlock = some g → ∀ g', (Value.slice (some ⟨bs, offs, none⟩) ys.length capv).ownBlock = some g' → g ≠ g') := fun g hg g' hg' => by
        rcases hloc with h | h
        · exact HNe.out g (h ▸ hg) g' hg'
        · have h1 : (w3.alloc (.cells #[.string ys[k].1, .int .i64 ys[k].2] 34)).heap.size = g := by rw [h] at hg; simpa using hg
          have h2 := (HS3.out.lt g' hg').2
          simp only [World.size_alloc] at h1
          omega
      clear hown4 hgrow hloc
      go_wp2
      go_roundw
      case rel => exact ⟨k + 1, by go_num, by omega, by rw [HF2.out]; exact R.1, R.2, HS4.out, HN4.out⟩
      case measure => simp [intOf]; omega
    · obtain rfl : k = ys.length := by omega
      rw [List.take_of_length_le (Nat.le_refl _)] at HO
      go_wp2
      go_ret
      exact ⟨_, rfl, HO.out, HB.out⟩

set_option maxHeartbeats 1600000 in
set_option maxRecDepth 100000 in
theorem implEnvSet_any (v : Value) (xs : List VarD) (name : ByteArray) (num : Int) (w : World) (hn : xs.length ≤ 1048576) (hz : ∀ x ∈ xs, x.1.size ≤ 1048576 ∧ -9223372036854775808 ≤ x.2 ∧ x.2 ≤ 9223372036854775807) (hnm : name.size ≤ 1048576) (hm0 : -9223372036854775808 ≤ num) (hm1 : num ≤ 9223372036854775807) (h : VRow w v xs) :
    Calls Try.prog 11 #[v, .string name, .int .i64 num] w fun e w' => ∃ o, e = .returned (.tuple #[o, .bool (setOkI xs name num)]) ∧ OwnV w.heap.size o (setLI xs name num) w' ∧ Below w.heap.size w w' := by
  have HR : Hid (VRow w v xs) := h
  have HZ : Hid (∀ x ∈ xs, x.1.size ≤ 1048576 ∧ -9223372036854775808 ≤ x.2 ∧ x.2 ≤ 9223372036854775807) := hz
  have HZ1 : Hid (∀ x ∈ xs, x.1.size ≤ 1048576) := fun x hx => (hz x hx).1
  obtain ⟨a, cap, rfl⟩ := h.slice
  clear h hz
  cases has : ascB xs with
  | false =>
    have HV : Hid (setOkI xs name num = false) := by rw [Hid, setOkI, has]; rfl
    have HL : Hid (setLI xs name num = xs) := by rw [Hid, setLI, HV.out]; rfl
    have HA : Hid (∀ W, VRow W (.slice a xs.length cap) xs → _) := fun W => implAscend_is (.slice a xs.length cap) xs false has W (by omega)
    clear has
    rw [HV.out, HL.out]
    go_enter Try.func11, Try.ntmps11
    go_wp2_with fail
    refine (HA.out _ HR.out).mono ?_
    rintro e w1 ⟨rfl, q, hq⟩
    have HB1 : Hid (Below w.heap.size w w1) := by rw [hq]; exact bel_drewN (Below.refl _ _) q
    clear hq HA
    go_wp2_with fail
    refine (clonedVars_any _ xs _ hn HZ1.out (HR.out.below HB1.out)).mono ?_
    rintro e w2 ⟨o, rfl, ho, hb2⟩
    have HO : Hid (OwnV w.heap.size o xs w2) := ho.base HB1.out.size
    have HB2 : Hid (Below w.heap.size w w2) := HB1.out.trans (hb2.mono HB1.out.size)
    clear ho hb2
    go_wp2
    go_ret2
    exact ⟨_, rfl, HO.out, HB2.out⟩
  | true =>
    have HAs : Hid (Asc xs) := (ascB_iff xs).1 has
    have HV : Hid (setOkI xs name num = envB (putB xs name num)) := by rw [Hid, setOkI, has]; rfl
    have HA : Hid (∀ W, VRow W (.slice a xs.length cap) xs → _) := fun W => implAscend_is (.slice a xs.length cap) xs true has W (by omega)
    have hpl : (putB xs name num).length ≤ 2097153 := by
      have h1 := List.length_filter_le (fun x : VarD => ltS x.1 name) xs
      have h2 := List.length_filter_le (fun x : VarD => gtS x.1 name) xs
      rw [putB, List.length_append, List.length_append, List.length_singleton]
      omega
    have HPz : Hid (∀ x ∈ putB xs name num, x.1.size ≤ 1048576) := fun x hx => by
      rcases (mem_put _ _ _ _).1 hx with h | h
      · exact HZ1.out x h.1
      · rw [h]; exact hnm
    have HPa : Hid (Asc (putB xs name num)) := asc_put HAs.out
    have HPs : Hid (∀ D : DataW Unit, MapIs D xs → MapIs ((D.del (.string name.data.toList)).put (.string name.data.toList) (.lit (.int .i64 num))) (putB xs name num)) := fun D hD => mapIs_set hD name num
    have HKey : Hid (keyOf Try.prog 9 (.string name) = some (.string name.data.toList)) := Go.WideMaps.keyOf_string_mk Try.underlying9 (by unfold maxLen; omega)
    have HWf : Hid ((Lit.int .i64 num).wf = true) := WalkArith.wf_i64 (by omega)
    have HLy : Hid (envB (putB xs name num) = true → setLI xs name num = putB xs name num) := fun h => by rw [setLI, HV.out, h]; rfl
    have HLn : Hid (envB (putB xs name num) = false → setLI xs name num = xs) := fun h => by rw [setLI, HV.out, h]; rfl
    rw [HV.out]
    clear has hnm hm0 hm1 HV
    generalize setLI xs name num = L at *
    generalize putB xs name num = ps at *
    go_enter Try.func11, Try.ntmps11
    go_wp2_with fail
    refine (HA.out _ HR.out).mono ?_
    rintro e w1 ⟨rfl, q, hq⟩
    have HB1 : Hid (Below w.heap.size w w1) := by rw [hq]; exact bel_drewN (Below.refl _ _) q
    clear hq HA
    go_wp2_with fail
    refine (numsOf_any _ xs _ hn HZ.out HAs.out (HR.out.below HB1.out)).mono ?_
    rintro e w2 ⟨D, rfl, hM, hD, hb2⟩
    have HM2 : Hid (OwnM w1.heap.size xs.length D w2) := hM
    have HD2 : Hid (MapIs D xs) := hD
    have HB2 : Hid (Below w.heap.size w w2) := HB1.out.trans (hb2.mono HB1.out.size)
    clear hM hD hb2
    go_wp2_with (first
      | (at_delete; refine wpList_delete_own _ rfl _ _ 57 9 rfl 3 Try.law Try.underlying57 _ w1.heap.size xs.length D rfl HM2.out _ _ rfl HKey.out ?_; intro w3 hown3 hturn3)
      | (at_mapUpdate; refine wpList_mapUpdate_own _ rfl _ _ _ 57 rfl 9 3 Try.law Try.underlying57 _ w1.heap.size xs.length _ rfl hown3 (by unfold maxLen; omega) _ _ _ rfl rfl HKey.out _ [] (plainElem_int Try.underlying3 HWf.out) ?_; intro w4 hown4 hgrow4))
    have HM4 : Hid (OwnM w1.heap.size (xs.length + 1) ((D.del (.string name.data.toList)).put (.string name.data.toList) (.lit (.int .i64 num))) w4) := hown4
    have HD4 : Hid (_) := HPs.out D HD2.out
    have HB4 : Hid (Below w.heap.size w w4) := by
      have h3 : Below w.heap.size w w3 := HB2.out.grown hturn3.grown HB2.out.size (fun k hk => by cases hk; exact HB1.out.size)
      exact h3.grown hgrow4 h3.size (fun k hk => by cases hk; exact HB1.out.size)
    clear hown3 hturn3 hown4 hgrow4
    go_wp2_with fail
    refine (varsInOrder_any _ _ _ ps _ HM4.out HD4.out HPa.out hpl HPz.out).mono ?_
    rintro e w5 ⟨o5, rfl, ho5, hb5⟩
    have HO5 : Hid (OwnV w.heap.size o5 ps w5) := ho5.base HB4.out.size
    have HB5 : Hid (Below w.heap.size w w5) := HB4.out.trans (hb5.mono HB4.out.size)
    clear ho5 hb5
    cases hev : envB ps with
    | true =>
      have HLy2 : Hid (L = ps) := HLy.out hev
      have HEv : Hid (envB ps = true) := hev
      have HE : Hid (∀ W, VRow W o5 ps → _) := fun W => implEnvOk_is o5 ps true hev W hpl
      clear hev
      go_wp2_with fail
      refine (HE.out _ HO5.out.row).mono ?_
      rintro e w6 ⟨rfl, hb6⟩
      have HO6 : Hid (OwnV w.heap.size o5 ps w6) := HO5.out.below hb6
      have HB6 : Hid (Below w.heap.size w w6) := HB5.out.trans (hb6.mono HB5.out.size)
      clear hb6 HE
      go_wp2
      go_ret2
      rw [HLy2.out, HEv.out]
      exact ⟨_, rfl, HO6.out, HB6.out⟩
    | false =>
      have HLn2 : Hid (L = xs) := HLn.out hev
      have HEv : Hid (envB ps = false) := hev
      have HE : Hid (∀ W, VRow W o5 ps → _) := fun W => implEnvOk_is o5 ps false hev W hpl
      clear hev
      go_wp2_with fail
      refine (HE.out _ HO5.out.row).mono ?_
      rintro e w6 ⟨rfl, hb6⟩
      have HB6 : Hid (Below w.heap.size w w6) := HB5.out.trans (hb6.mono HB5.out.size)
      clear hb6 HE
      go_wp2_with fail
      refine (clonedVars_any _ xs _ hn HZ1.out (HR.out.below HB6.out)).mono ?_
      rintro e w7 ⟨o7, rfl, ho7, hb7⟩
      have HO7 : Hid (OwnV w.heap.size o7 xs w7) := ho7.base HB6.out.size
      have HB7 : Hid (Below w.heap.size w w7) := HB6.out.trans (hb7.mono HB6.out.size)
      clear ho7 hb7
      go_wp2
      go_ret2
      rw [HLn2.out, HEv.out]
      exact ⟨_, rfl, HO7.out, HB7.out⟩

end Go.Proofs.Ytneobgikailhjaa
