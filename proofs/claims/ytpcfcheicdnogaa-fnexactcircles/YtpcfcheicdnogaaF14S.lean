/- The specification's CountForest. -/
import Derived.Test.YtpcfcheicdnogaaF14R
namespace Go.Proofs.Ytpcfcheicdnogaa
open Go.RowKit
set_option linter.unusedVariables false

theorem place14_at {xs : List PartD} (h : right14 xs = true) {i j t : Nat} (hi : i < xs.length) (hj : j < xs[i].ways.length) (ht : t < xs[i].ways[j].kids.length) : ∃ q : Nat, xs[i].ways[j].kids[t] = (q : Int) ∧ q < xs.length := by
  rw [right14, Bool.and_eq_true] at h
  have h1 := List.all_eq_true.1 h.2 _ (List.getElem_mem hi)
  have h2 := List.all_eq_true.1 h1 _ (List.getElem_mem hj)
  have h3 := List.all_eq_true.1 h2 _ (List.getElem_mem ht)
  have h4 := of_decide_eq_true h3
  exact ⟨xs[i].ways[j].kids[t].toNat, by omega, by omega⟩
theorem right14_pos {xs : List PartD} (h : right14 xs = true) : 0 < xs.length := by
  rw [right14, Bool.and_eq_true] at h
  exact of_decide_eq_true h.1
theorem set14_same {ts : List Int} {i : Nat} (h : ts.getD i 0 = 0) (hi : i < ts.length) : ts.set i 0 = ts := by
  rw [List.getD_eq_getElem?_getD, List.getElem?_eq_getElem hi] at h
  have e : ts[i] = 0 := h
  apply List.ext_getElem?
  intro q
  by_cases hq : i = q
  · subst hq
    rw [List.getElem?_set_self hi, List.getElem?_eq_getElem hi, e]
  · rw [List.getElem?_set_ne hq]
theorem set14_take {ts : List Int} {i : Nat} (hi : i < ts.length) (s : Int) : (ts.set i s).take (i + 1) = ts.take i ++ [s] := by
  rw [List.take_succ_eq_append_getElem (by rw [List.length_set]; exact hi), List.take_set_of_le (Nat.le_refl _), List.getElem_set_self]
theorem set14_rest {ts : List Int} {i q : Nat} (h : i + 1 ≤ q) (s : Int) : (ts.set i s).getD q 0 = ts.getD q 0 := by
  rw [List.getD_eq_getElem?_getD, List.getD_eq_getElem?_getD, List.getElem?_set_ne (by omega)]
theorem set14_at {ts : List Int} {i : Nat} (hi : i < ts.length) (s : Int) : (ts.set i s).getD i 0 = s := by
  rw [List.getD_eq_getElem?_getD, List.getElem?_set_self hi]
  rfl
theorem zeros14_get (n q : Nat) : (List.replicate n (0 : Int)).getD q 0 = 0 := by
  rw [List.getD_eq_getElem?_getD, List.getElem?_replicate]
  split <;> rfl

set_option maxHeartbeats 6400000 in
set_option maxRecDepth 100000 in
theorem specCount14 (v : Value) (xs : List PartD) (hgt : Int) (w : World) (hn : forestTot xs ≤ 1048576) (h : RowC 5 PartE w v xs) :
    Calls Try.prog 7 #[.agg #[v], .int .i64 hgt] w fun e w' => e = .returned (.int .i64 (count14 xs hgt)) ∧ Below w.heap.size w w' := by
  obtain ⟨i0, hi, hz0, hz1, hz2⟩ := info_parts Try.infoInt5
  have hnl : xs.length ≤ 1048576 := Nat.le_trans (rowTot_len partTot xs) hn
  have HLn : Hid (∀ i (hi : i < xs.length), _) := fun i hi => ways_len hn i hi
  obtain ⟨a, cap, rfl⟩ := h.slice
  have B0 : Hid (Below w.heap.size w (w.alloc (.cells #[.slice a xs.length cap] 29))) := (Below.refl _ _).alloc (Nat.le_refl _) _
  have HR : Hid (RowC 5 PartE (w.alloc (.cells #[.slice a xs.length cap] 29)) (.slice a xs.length cap) xs) := RowC.below PartE_stable h B0.out
  have hE0 : (w.alloc (.cells #[.slice a xs.length cap] 29)).cell? ⟨w.heap.size, 0, none⟩ = some (.slice a xs.length cap) := box_at _ _ _ 0 _ rfl
  clear h
  go_enter Try.func7, Try.ntmps7
  go_wp2_with fail
  generalize w.alloc (.cells #[.slice a xs.length cap] 29) = w0 at *
  go_wp2_with fail
  refine (specRight14 _ xs _ hn HR.out).mono ?_
  rintro e w1 ⟨rfl, hb1⟩
  have B1 : Hid (Below w.heap.size w w1) := B0.out.trans (hb1.mono B0.out.size)
  have HR1 : Hid (RowC 5 PartE w1 (.slice a xs.length cap) xs) := RowC.below PartE_stable HR.out hb1
  have hE1 := cell_keep hE0 hb1
  clear hb1 hE0 HR B0 hn
  cases hr : right14 xs with
  | false =>
    have HV : Hid (count14 xs hgt = 0) := by rw [Hid, count14, hr]; rfl
    go_wp2
    go_ret
    rw [HV.out]
    exact ⟨rfl, B1.out⟩
  | true =>
    have HV : Hid (count14 xs hgt = (floors14 xs (min hgt 8).toNat (List.replicate xs.length 0)).getD 0 0) := by rw [Hid, count14, if_pos hr]
    have HRt : Hid (right14 xs = true) := hr
    have hpos := right14_pos hr
    clear hr
    go_wp2_with (at_make; refine wpList_make_full _ rfl _ _ 36 rfl w1.heap.size 3 i0 _ 1 Try.underlying36 hi hz0 hz1 .i64 .i64 _ _ xs.length rfl rfl rfl rfl (by rw [hz2]; omega) (by unfold maxLen; omega) (Nat.le_refl _) ?_; intro w2 hown hg1; rw [zeros_cells] at hown; have HB2 : Hid (Below w1.heap.size w1 w2) := (Below.refl _ _).grown hg1 (Nat.le_refl _) (fun k h => by cases h))
    have HO2 : Hid (OwnZ w1.heap.size (.slice (some ⟨w1.heap.size, 0, none⟩) xs.length xs.length) (List.replicate xs.length 0) w2) := own14_of hown (by simp)
    clear hown hg1
    go_loopw [5, 6] (fun nv iv wr => ∃ (k g : Nat) (cs : List Int), nv = .slice (some ⟨g, 0, none⟩) xs.length xs.length ∧ iv = .int .i64 k ∧ k ≤ (min hgt 8).toNat ∧ cs.length = xs.length ∧ (∀ x ∈ cs, In14 x) ∧ floors14 xs ((min hgt 8).toNat - k) cs = floors14 xs (min hgt 8).toNat (List.replicate xs.length 0) ∧ OwnZ w1.heap.size (.slice (some ⟨g, 0, none⟩) xs.length xs.length) cs wr ∧ Below w1.heap.size w1 wr) (fun _ iv _ => 8 - (intOf iv).toNat)
    case atStart => exact ⟨0, _, _, rfl, rfl, Nat.zero_le _, by simp, in14_zeros _, rfl, HO2.out, HB2.out⟩
    case round =>
      obtain ⟨k, g, cs, rfl, rfl, hk, hcl, hci, hF, hown, hbw⟩ := hrel
      obtain ⟨wa, rfl⟩ : ∃ W, W = wr := ⟨wr, rfl⟩
      have HCl : Hid (cs.length = xs.length) := hcl
      have HCi : Hid (∀ x ∈ cs, In14 x) := hci
      have HF : Hid (floors14 xs ((min hgt 8).toNat - k) cs = floors14 xs (min hgt 8).toNat (List.replicate xs.length 0)) := hF
      have HO : Hid (OwnZ w1.heap.size (.slice (some ⟨g, 0, none⟩) xs.length xs.length) cs wa) := hown
      have HB : Hid (Below w1.heap.size w1 wa) := hbw
      have hE := cell_keep hE1 hbw
      clear hcl hci hF hown hbw
      have HH : Hid (∀ W, _) := fun W => high14 hgt W
      by_cases hlt : (k : Int) < min hgt 8
      · have HFs : Hid (floors14 xs ((min hgt 8).toNat - (k + 1)) (higher14 cs xs) = floors14 xs (min hgt 8).toNat (List.replicate xs.length 0)) := by
          rw [Hid, ← HF.out, show (min hgt 8).toNat - k = ((min hgt 8).toNat - (k + 1)) + 1 by omega]
          rfl
        have hk1 : k + 1 ≤ (min hgt 8).toNat := by omega
        have hk8 : (k : Int) < 8 := by omega
        go_wp2_with (first
          | (go_at_call 17; refine (HH.out _).mono ?_; rintro e wq ⟨rfl, hw⟩; rw [hw]; clear hw)
          | (at_make; refine wpList_make_full _ rfl _ _ 36 rfl wa.heap.size 3 i0 _ 1 Try.underlying36 hi hz0 hz1 .i64 .i64 _ _ xs.length rfl rfl rfl rfl (by rw [hz2]; omega) (by unfold maxLen; omega) (Nat.le_refl _) ?_; intro w3 hown hg1; rw [zeros_cells] at hown; have HB3 : Hid (Below wa.heap.size wa w3) := (Below.refl _ _).grown hg1 (Nat.le_refl _) (fun k h => by cases h)))
        have HO3 : Hid (OwnZ wa.heap.size (.slice (some ⟨wa.heap.size, 0, none⟩) xs.length xs.length) (List.replicate xs.length 0) w3) := own14_of hown (by simp)
        clear hown hg1
        go_loopw [8] (fun iv wr => ∃ (i : Nat) (ts : List Int), iv = .int .i64 i ∧ i ≤ xs.length ∧ ts.length = xs.length ∧ ts.take i = higher14 cs (xs.take i) ∧ (∀ q, i ≤ q → ts.getD q 0 = 0) ∧ OwnZ wa.heap.size (.slice (some ⟨wa.heap.size, 0, none⟩) xs.length xs.length) ts wr ∧ Below wa.heap.size wa wr) (fun iv _ => xs.length - (intOf iv).toNat)
        case atStart => exact ⟨0, _, rfl, Nat.zero_le _, by simp, rfl, fun q _ => zeros14_get _ q, HO3.out, HB3.out⟩
        case round =>
          obtain ⟨i, ts, rfl, hil, htl, htk, htz, hown, hbw⟩ := hrel
          obtain ⟨wb, rfl⟩ : ∃ W, W = wr := ⟨wr, rfl⟩
          have HTl : Hid (ts.length = xs.length) := htl
          have HTk : Hid (ts.take i = higher14 cs (xs.take i)) := htk
          have HTz : Hid (∀ q, i ≤ q → ts.getD q 0 = 0) := htz
          have HOb : Hid (OwnZ wa.heap.size (.slice (some ⟨wa.heap.size, 0, none⟩) xs.length xs.length) ts wb) := hown
          have HBb : Hid (Below wa.heap.size wa wb) := hbw
          have hEb := cell_keep hE hbw
          clear htl htk htz hown hbw
          by_cases hix : i < xs.length
          · obtain ⟨b, off, vs, rfl, _, hc, hEl⟩ := (RowC.below PartE_stable HR1.out HB.out).at hix
            obtain ⟨r0, r1, rfl, hA, hI⟩ := hEl
            have n4a : wa.cell? ⟨b, off + i * 5 + 4, none⟩ = some r1 := hc 4 (by simp)
            have hkl := (HLn.out i hix).1
            have HKl : Hid (∀ j (hj : j < xs[i].ways.length), xs[i].ways[j].kids.length ≤ 1048576) := (HLn.out i hix).2.2
            have HPl : Hid (∀ j (hj : j < xs[i].ways.length) t (ht : t < xs[i].ways[j].kids.length), ∃ q : Nat, xs[i].ways[j].kids[t] = (q : Int) ∧ q < xs.length) := fun j hj t ht => place14_at HRt.out hix hj ht
            have HHx : Hid (higher14 cs (xs.take (i + 1)) = higher14 cs (xs.take i) ++ [sum14 cs 0 xs[i].ways]) := higher14_next cs xs i hix
            obtain ⟨aw, cw, rfl⟩ := hI.slice
            have HI : Hid (RowC 2 WayE wa (.slice aw xs[i].ways.length cw) xs[i].ways) := hI
            have i4 : (i : Int) < (xs.length : Int) := by omega
            clear hI hc hA
            generalize xs[i].ways = ys at *
            have HS0 : Hid (OwnZ wa.heap.size (.slice (some ⟨wa.heap.size, 0, none⟩) xs.length xs.length) (ts.set i 0) wb) := by rw [Hid, set14_same (HTz.out i (Nat.le_refl _)) (by rw [HTl.out]; exact hix)]; exact HOb.out
            go_wp2
            go_loopw [9] (fun jv wr => ∃ (j : Nat) (s : Int), jv = .int .i64 j ∧ j ≤ ys.length ∧ In14 s ∧ sum14 cs s (ys.drop j) = sum14 cs 0 ys ∧ OwnZ wa.heap.size (.slice (some ⟨wa.heap.size, 0, none⟩) xs.length xs.length) (ts.set i s) wr ∧ Below wa.heap.size wa wr) (fun jv _ => ys.length - (intOf jv).toNat)
            case atStart => exact ⟨0, 0, rfl, Nat.zero_le _, ⟨by decide, by decide⟩, rfl, HS0.out, HBb.out⟩
            case round =>
              obtain ⟨j, s, rfl, hj, hs, hS, hown, hbw⟩ := hrel
              obtain ⟨wc, rfl⟩ : ∃ W, W = wr := ⟨wr, rfl⟩
              have HSi : Hid (In14 s) := hs
              have HS : Hid (sum14 cs s (ys.drop j) = sum14 cs 0 ys) := hS
              have HOc : Hid (OwnZ wa.heap.size (.slice (some ⟨wa.heap.size, 0, none⟩) xs.length xs.length) (ts.set i s) wc) := hown
              have HBc : Hid (Below wa.heap.size wa wc) := hbw
              have HNw : Hid (OwnZ w1.heap.size (.slice (some ⟨g, 0, none⟩) xs.length xs.length) cs wc) := HO.out.below hbw
              have hEc := cell_keep hE hbw
              have n4c := cell_keep n4a hbw
              clear hs hS hown hbw
              by_cases hjl : j < ys.length
              · obtain ⟨bk, offk, vsk, rfl, _, hck, hEk⟩ := (RowC.below WayE_stable HI.out HBc.out).at hjl
                obtain ⟨rk, rfl, hIk⟩ := hEk
                have m1 : wc.cell? ⟨bk, offk + j * 2 + 1, none⟩ = some rk := hck 1 (by simp)
                have hkk := HKl.out j hjl
                have HPj : Hid (∀ t (ht : t < ys[j].kids.length), ∃ q : Nat, ys[j].kids[t] = (q : Int) ∧ q < xs.length) := fun t ht => HPl.out j hjl t ht
                have HSx : Hid (sum14 cs s (ys.drop j) = sum14 cs (min (s + rows14 cs 1 ys[j].kids) 1000000) (ys.drop (j + 1))) := sum14_drop cs s ys j hjl
                have HRi : Hid (In14 (rows14 cs 1 ys[j].kids)) := in14_rows HCi.out _ 1 ⟨by decide, by decide⟩
                obtain ⟨ak, ck, rfl⟩ := hIk.slice
                have HIk : Hid (IRow wc (.slice ak ys[j].kids.length ck) ys[j].kids) := hIk
                have i5 : (j : Int) < (ys.length : Int) := by omega
                clear hIk hck
                generalize ys[j].kids = ks at *
                go_wp2
                go_loopw [10, 12] (fun nv tv wz => ∃ (t : Nat) (n : Int), nv = .int .i64 n ∧ tv = .int .i64 t ∧ t ≤ ks.length ∧ In14 n ∧ rows14 cs n (ks.drop t) = rows14 cs 1 ks ∧ wz = wc) (fun _ tv _ => ks.length - (intOf tv).toNat)
                case atStart => exact ⟨0, 1, rfl, rfl, Nat.zero_le _, ⟨by decide, by decide⟩, rfl, rfl⟩
                case round =>
                  obtain ⟨t, n, rfl, rfl, ht, hni, hG, hwz⟩ := hrel
                  rw [hwz]
                  clear hwz
                  have HNi : Hid (In14 n) := hni
                  have HG : Hid (rows14 cs n (ks.drop t) = rows14 cs 1 ks) := hG
                  clear hni hG
                  by_cases htl : t < ks.length
                  · obtain ⟨bz, offz, rfl, hcz⟩ := HIk.out.at htl
                    obtain ⟨q, hq, hql⟩ := HPj.out t htl
                    have HGx : Hid (_ = _) := rows14_drop cs n ks t htl
                    rw [hq, Int.toNat_natCast, HG.out] at HGx
                    rw [hq] at hcz
                    have i6 : (t : Int) < (ks.length : Int) := by omega
                    have i7 : (q : Int) < (xs.length : Int) := by omega
                    obtain ⟨c1, _⟩ := own14_cell HNw.out HCl.out q hql
                    have HM : Hid (∀ W, _) := fun W => mul14 n (cs.getD q 0) W HNi.out (in14_getD HCi.out q)
                    have HMi : Hid (In14 (min (n * cs.getD q 0) 1000000)) := in14_min (in14_mul HNi.out (in14_getD HCi.out q)).1
                    clear hq
                    generalize cs.getD q 0 = y at *
                    go_wp2_with (go_at_call 18; refine (HM.out _).mono ?_; rintro e wq ⟨rfl, hw⟩; rw [hw]; clear hw)
                    go_roundw
                    case rel => exact ⟨t + 1, _, rfl, by go_num, by omega, HMi.out, HGx.out.symm, by first | trivial | rfl⟩
                    case measure => simp [intOf]; omega
                  · obtain rfl : t = ks.length := by omega
                    have HGe : Hid (n = rows14 cs 1 ks) := by
                      have := HG.out
                      rwa [List.drop_of_length_le (Nat.le_refl _)] at this
                    have i6 : ¬ (ks.length : Int) < (ks.length : Int) := by omega
                    obtain ⟨c1, c2⟩ := own14_cell HOc.out (by rw [List.length_set]; exact HTl.out) i hix
                    rw [set14_at (by rw [HTl.out]; exact hix)] at c1
                    have HA : Hid (∀ W, _) := fun W => add14 s n W HSi.out HNi.out
                    have HAi : Hid (In14 (min (s + n) 1000000)) := in14_min (by have h1 := HSi.out.1; have h2 := HNi.out.1; omega)
                    have HAs : Hid (sum14 cs (min (s + n) 1000000) (ys.drop (j + 1)) = sum14 cs 0 ys) := by
                      rw [Hid, ← HS.out, HSx.out, ← HGe.out]
                    have HAo : Hid (OwnZ wa.heap.size (.slice (some ⟨wa.heap.size, 0, none⟩) xs.length xs.length) (ts.set i (min (s + n) 1000000)) (wc.setCell ⟨wa.heap.size, i, none⟩ (.int .i64 (min (s + n) 1000000)))) := by
                      have := own14_set HOc.out (by rw [List.length_set]; exact HTl.out) i (min (s + n) 1000000)
                      rwa [List.set_set] at this
                    have HAb : Hid (Below wa.heap.size wa (wc.setCell ⟨wa.heap.size, i, none⟩ (.int .i64 (min (s + n) 1000000)))) := HBc.out.setCell (Nat.le_refl _) _
                    generalize min (s + n) 1000000 = y at *
                    go_wp2_with (go_at_call 19; refine (HA.out _).mono ?_; rintro e wq ⟨rfl, hw⟩; rw [hw]; clear hw)
                    go_roundw
                    case rel => exact ⟨j + 1, y, by go_num, by omega, HAi.out, HAs.out, HAo.out, HAb.out⟩
                    case measure => simp [intOf]; omega
              · obtain rfl : j = ys.length := by omega
                have HSe : Hid (s = sum14 cs 0 ys) := by
                  have := HS.out
                  rwa [List.drop_of_length_le (Nat.le_refl _)] at this
                have HTn : Hid ((ts.set i s).take (i + 1) = higher14 cs (xs.take (i + 1))) := by
                  rw [Hid, set14_take (by rw [HTl.out]; exact hix), HTk.out, HHx.out, HSe.out]
                have i5 : ¬ (ys.length : Int) < (ys.length : Int) := by omega
                go_wp2
                go_roundw
                case rel => exact ⟨i + 1, ts.set i s, by go_num, by omega, by rw [List.length_set]; exact HTl.out, HTn.out, fun q hq => (set14_rest hq s).trans (HTz.out q (by omega)), HOc.out, HBc.out⟩
                case measure => simp [intOf]; omega
          · obtain rfl : i = xs.length := by omega
            have HTe : Hid (ts = higher14 cs xs) := by
              have := HTk.out
              rwa [List.take_length, List.take_of_length_le (by rw [HTl.out]; exact Nat.le_refl _)] at this
            have HBn : Hid (Below w1.heap.size w1 wb) := HB.out.trans (HBb.out.mono HB.out.size)
            have HOn : Hid (OwnZ w1.heap.size (.slice (some ⟨wa.heap.size, 0, none⟩) xs.length xs.length) ts wb) := HOb.out.base HB.out.size
            have HFn : Hid (floors14 xs ((min hgt 8).toNat - (k + 1)) ts = floors14 xs (min hgt 8).toNat (List.replicate xs.length 0)) := by rw [Hid, HTe.out]; exact HFs.out
            have HIn : Hid (∀ x ∈ ts, In14 x) := by rw [HTe.out]; exact in14_higher HCi.out xs
            have i4 : ¬ (xs.length : Int) < (xs.length : Int) := by omega
            go_wp2
            go_roundw
            case rel => exact ⟨k + 1, wa.heap.size, ts, rfl, by go_num, hk1, HTl.out, HIn.out, HFn.out, HOn.out, HBn.out⟩
            case measure => simp [intOf]; omega
      · have HFe : Hid (count14 xs hgt = cs.getD 0 0) := by
          have := HF.out
          rw [show (min hgt 8).toNat - k = 0 by omega] at this
          rw [Hid, HV.out, ← this]
          rfl
        obtain ⟨c1, _⟩ := own14_cell HO.out HCl.out 0 hpos
        have HBf : Hid (Below w.heap.size w wa) := B1.out.trans (HB.out.mono B1.out.size)
        have i7 : (0 : Int) < (xs.length : Int) := by omega
        generalize cs.getD 0 0 = y at *
        go_wp2_with (go_at_call 17; refine (HH.out _).mono ?_; rintro e wq ⟨rfl, hw⟩; rw [hw]; clear hw)
        go_ret
        rw [HFe.out]
        exact ⟨rfl, HBf.out⟩

end Go.Proofs.Ytpcfcheicdnogaa
