/- The specification's TreeText. -/
import Derived.Test.YtdihemolhdjfeaaR8T
import Derived.Test.YtdihemolhdjfeaaXSize
import Derived.Test.YtdihemolhdjfeaaGData
namespace Go.Proofs.Ytdihemolhdjfeaa
open Go.RowKit
set_option linter.unusedVariables false

theorem getD_ltB {ts : List ByteArray} {q : Nat} (h : q < ts.length) : ts.getD q ⟨#[]⟩ = ts[q] := by
  rw [List.getD_eq_getElem?_getD, List.getElem?_eq_getElem h]; rfl
theorem getD_ltR {rs : List RuleD} {q : Nat} (h : q < rs.length) : rs.getD q default = rs[q] := by
  rw [List.getD_eq_getElem?_getD, List.getElem?_eq_getElem h]; rfl
theorem ownB_snoc8 {B : Nat} {o v' : Value} {ys : List ByteArray} {x : ByteArray} {wr w2 : World} {ob : Obj} (hown2 : w2.ownsRow B 9 1 v' (ys.length + 1) (sb ys ++ [.string x])) (hown : OwnB B o ys wr) (hgrow : (wr.alloc ob).grownBy w2 o.ownBlock)
    {w : World} (hw : B = w.heap.size) (hb : Below w.heap.size w wr) : OwnB B v' (ys ++ [x]) w2 ∧ Below w.heap.size w w2 := by
  subst hw
  refine ⟨?_, ?_⟩
  · rw [OwnB, List.length_append, sb, List.map_append]
    exact hown2
  · exact (hb.alloc hb.size ob).grown hgrow (by have := hb.size; simp; omega) (fun k hk => (World.ownsRow.lt hown k hk).1)
theorem one_cellB (s : ByteArray) : ∀ u ∈ [Value.string s], u.oneCell' = true := by
  intro u hu
  obtain rfl : u = .string s := by simpa using hu
  rfl
theorem low8 {w a b : World} {B : Nat} (h0 : Below w.heap.size w a) (h : Below a.heap.size a b) : Below w.heap.size w b := h0.trans (h.mono h0.size)

set_option maxHeartbeats 6400000 in
set_option maxRecDepth 100000 in
theorem specTreeText_any (gv v : Value) (g : List RuleD) (xs : List TNodeD) (w : World) (hg : grammarTot g ≤ 1048576) (hn : treeTot xs ≤ 1048576) (h' : RowC 3 RuleE w gv g) (h : RowC 6 TreeNodeE w v xs) :
    Calls Try.prog 7 #[.agg #[gv], .agg #[v]] w fun e w' => e = .returned (.string (treeTextB g xs)) ∧ Below w.heap.size w w' := by
  obtain ⟨i0, hi, hz0, hz1, hz2⟩ := info_parts Try.infoStr
  have hnl : xs.length ≤ 1048576 := Nat.le_trans (rowTot_len treeNodeTot xs) hn
  have hgl : g.length ≤ 1048576 := Nat.le_trans (rowTot_len ruleTot g) hg
  have HKn : Hid (∀ i (h : i < xs.length), xs[i].kids.length ≤ 1048576) := fun i h => by
    have h1 := rowTot_mem treeNodeTot (List.getElem_mem h)
    have h2 : treeNodeTot xs[i] = xs[i].args.length + xs[i].kids.length := rfl
    have h3 : treeTot xs = rowTot treeNodeTot xs := rfl
    omega
  have HNm : Hid (∀ i (h : i < g.length), g[i].name.size ≤ 1048576) := fun i h => by
    have h1 := rowTot_mem ruleTot (List.getElem_mem h)
    have h2 : ruleTot g[i] = g[i].name.size + rowTot ByteArray.size g[i].params + rowTot altTot g[i].alts := rfl
    have h3 : grammarTot g = rowTot ruleTot g := rfl
    omega
  obtain ⟨a, cap, rfl⟩ := h.slice
  obtain ⟨ag, cg, rfl⟩ := h'.slice
  have B0 : Hid (Below w.heap.size w ((w.alloc (.cells #[.slice ag g.length cg] 33)).alloc (.cells #[.slice a xs.length cap] 37))) := ((Below.refl _ _).alloc (Nat.le_refl _) _).alloc (by simp) _
  have HR : Hid (RowC 6 TreeNodeE ((w.alloc (.cells #[.slice ag g.length cg] 33)).alloc (.cells #[.slice a xs.length cap] 37)) (.slice a xs.length cap) xs) := RowC.below TreeNodeE_stable h B0.out
  have HG : Hid (RowC 3 RuleE ((w.alloc (.cells #[.slice ag g.length cg] 33)).alloc (.cells #[.slice a xs.length cap] 37)) (.slice ag g.length cg) g) := RowC.below RuleE_stable h' B0.out
  have E0 : Hid (((w.alloc (.cells #[.slice ag g.length cg] 33)).alloc (.cells #[.slice a xs.length cap] 37)).cell? ⟨w.heap.size, 0, none⟩ = some (.slice ag g.length cg)) := box_two _ _ _ _ _ 0 _ rfl
  have E1 : Hid (((w.alloc (.cells #[.slice ag g.length cg] 33)).alloc (.cells #[.slice a xs.length cap] 37)).cell? ⟨w.heap.size + 1, 0, none⟩ = some (.slice a xs.length cap)) := box_two' _ _ _ _ _ 0 _ rfl
  have HS0 : Hid (((w.alloc (.cells #[.slice ag g.length cg] 33)).alloc (.cells #[.slice a xs.length cap] 37)).heap.size = w.heap.size + 2) := by rw [Hid]; simp
  clear h h' hn hg
  go_enter Try.func7, Try.ntmps7
  go_wp2
  generalize (w.alloc (.cells #[.slice ag g.length cg] 33)).alloc (.cells #[.slice a xs.length cap] 37) = w0 at *
  go_loopw [5, 6] (fun ov iv wr => ∃ (k : Nat) (ts : List ByteArray), iv = .int .i64 k ∧ k ≤ xs.length ∧ ts.length = k ∧ (∀ y ∈ ts, y.size ≤ 2000) ∧ textsB g ts (xs.drop k) = textsB g [] xs ∧ OwnB w0.heap.size ov ts wr ∧ Below w0.heap.size w0 wr) (fun _ iv _ => xs.length - (intOf iv).toNat)
  case atStart => exact ⟨0, [], rfl, Nat.zero_le _, rfl, by simp, rfl, by rw [← HS0.out]; exact World.ownsRow_made _ _ _ (Nat.le_refl _) (by decide) rfl, (Below.refl _ _).alloc (Nat.le_refl _) _⟩
  case round =>
    obtain ⟨k, ts, rfl, hk, hhl, hin, hF, hown, hbw⟩ := hrel
    have HO : Hid (OwnB w0.heap.size u5 ts wr) := hown
    have HB : Hid (Below w0.heap.size w0 wr) := hbw
    have HIn : Hid (∀ y ∈ ts, y.size ≤ 2000) := hin
    have HF : Hid (textsB g ts (xs.drop k) = textsB g [] xs) := hF
    have hE := cell_keep E0.out hbw
    have hE1 := cell_keep E1.out hbw
    have hBf : Hid (Below w.heap.size w wr) := B0.out.trans (hbw.mono B0.out.size)
    have hfl : ts.length ≤ k := by omega
    have hfm : k ≤ ts.length := by omega
    clear hown hbw hin hF hhl
    by_cases hlt : k < xs.length
    · obtain ⟨b, off, vs, rfl, _, hc, hEl⟩ := (RowC.below TreeNodeE_stable HR.out HB.out).at hlt
      obtain ⟨r0, r1, rfl, hA, hI⟩ := hEl
      have n0 : wr.cell? ⟨b, off + k * 6, none⟩ = some (.int .i64 xs[k].rule) := hc 0 (by simp)
      have n1 : wr.cell? ⟨b, off + k * 6 + 1, none⟩ = some (.int .i64 xs[k].alt) := hc 1 (by simp)
      have n2 : wr.cell? ⟨b, off + k * 6 + 2, none⟩ = some r0 := hc 2 (by simp)
      have n3 : wr.cell? ⟨b, off + k * 6 + 3, none⟩ = some (.int .i64 xs[k].frm) := hc 3 (by simp)
      have n4 : wr.cell? ⟨b, off + k * 6 + 4, none⟩ = some (.int .i64 xs[k].upto) := hc 4 (by simp)
      have n5 : wr.cell? ⟨b, off + k * 6 + 5, none⟩ = some r1 := hc 5 (by simp)
      have HD : Hid (_ = _) := textsB_drop g ts xs k hlt
      have hkl := HKn.out k hlt
      obtain ⟨a2, c2, rfl⟩ := hA.slice
      obtain ⟨ak, ck, rfl⟩ := hI.slice
      have HI : Hid (IRow wr (.slice ak xs[k].kids.length ck) xs[k].kids) := hI
      have i4 : (k : Int) < (xs.length : Int) := by omega
      clear hI hc hA
      obtain ⟨az, cz, rfl⟩ := HO.out.row.slice
      have bal : Hid (Below wr.heap.size wr (wr.alloc (.cells #[.int .i64 xs[k].rule, .int .i64 xs[k].alt, .slice a2 xs[k].args.length c2, .int .i64 xs[k].frm, .int .i64 xs[k].upto, .slice ak xs[k].kids.length ck] 49))) := (Below.refl _ _).alloc (Nat.le_refl _) _
      have hF0 := cell_keep hE bal.out
      have hF1 := cell_keep hE1 bal.out
      have hX0 : (wr.alloc (.cells #[.int .i64 xs[k].rule, .int .i64 xs[k].alt, .slice a2 xs[k].args.length c2, .int .i64 xs[k].frm, .int .i64 xs[k].upto, .slice ak xs[k].kids.length ck] 49)).cell? ⟨wr.heap.size, 0, none⟩ = some (.int .i64 xs[k].rule) := box_at _ _ _ 0 _ rfl
      have hX5 : (wr.alloc (.cells #[.int .i64 xs[k].rule, .int .i64 xs[k].alt, .slice a2 xs[k].args.length c2, .int .i64 xs[k].frm, .int .i64 xs[k].upto, .slice ak xs[k].kids.length ck] 49)).cell? ⟨wr.heap.size, 5, none⟩ = some (.slice ak xs[k].kids.length ck) := box_at _ _ _ 5 _ rfl
      have HB2 : Hid (Below w0.heap.size w0 (wr.alloc (.cells #[.int .i64 xs[k].rule, .int .i64 xs[k].alt, .slice a2 xs[k].args.length c2, .int .i64 xs[k].frm, .int .i64 xs[k].upto, .slice ak xs[k].kids.length ck] 49))) := HB.out.trans (bal.out.mono HB.out.size)
      have HO2 : Hid (OwnB w0.heap.size (.slice az ts.length cz) ts (wr.alloc (.cells #[.int .i64 xs[k].rule, .int .i64 xs[k].alt, .slice a2 xs[k].args.length c2, .int .i64 xs[k].frm, .int .i64 xs[k].upto, .slice ak xs[k].kids.length ck] 49))) := HO.out.below bal.out
      have HI2 : Hid (IRow (wr.alloc (.cells #[.int .i64 xs[k].rule, .int .i64 xs[k].alt, .slice a2 xs[k].args.length c2, .int .i64 xs[k].frm, .int .i64 xs[k].upto, .slice ak xs[k].kids.length ck] 49)) (.slice ak xs[k].kids.length ck) xs[k].kids) := HI.out.below bal.out
      clear bal
      have wg : IntKind.i64.wrap ((g.length : Int) - 1) = (g.length : Int) - 1 := by rw [IntKind.wrap_i64]; omega
      have wk1 : IntKind.i64.wrap ((k : Int) - 1) = (k : Int) - 1 := by rw [IntKind.wrap_i64]; omega
      have HIr : Hid (∀ W, _) := fun W => in_any xs[k].rule 0 ((g.length : Int) - 1) W
      have hin1 : Hid (∀ W x, Calls Try.prog 17 #[.int .i64 x, .int .i64 0, .int .i64 ((k : Int) - 1)] W fun e w' => e = .returned (.bool (decide (0 ≤ x ∧ x ≤ (k : Int) - 1))) ∧ w' = W) := fun W x => in_any x 0 ((k : Int) - 1) W
      go_wp2_with fail
      generalize wr.alloc (.cells #[.int .i64 xs[k].rule, .int .i64 xs[k].alt, .slice a2 xs[k].args.length c2, .int .i64 xs[k].frm, .int .i64 xs[k].upto, .slice ak xs[k].kids.length ck] 49) = W1 at *
      generalize wr.heap.size = bx at *
      clear n0 n1 n2 n3 n4 n5 hE hE1 HO HI HB hBf
      have hBf : Hid (Below w.heap.size w W1) := B0.out.trans (HB2.out.mono B0.out.size)
      generalize xs[k].alt = xal at *
      generalize xs[k].frm = xfr at *
      generalize xs[k].upto = xup at *
      generalize xs[k].kids = ks at *
      generalize xs[k].rule = ru at *
      by_cases hru : 0 ≤ ru ∧ ru ≤ (g.length : Int) - 1
      · rw [decide_eq_true hru] at HIr
        rw [if_pos hru] at HD
        refine (HIr.out _).mono ?_
        rintro e wq ⟨rfl, hw⟩
        rw [hw]
        clear hw wq
        obtain ⟨rn, rfl⟩ := Int.eq_ofNat_of_zero_le hru.1
        have hrl : rn < g.length := by omega
        rw [Int.toNat_natCast, getD_ltR hrl] at HD
        obtain ⟨b3, off3, vs3, rfl, _, hc3, hE3⟩ := (RowC.below RuleE_stable HG.out HB2.out).at hrl
        obtain ⟨q0, q1, rfl, hP, hAl⟩ := hE3
        have m0 : W1.cell? ⟨b3, off3 + rn * 3, none⟩ = some (.string g[rn].name) := hc3 0 (by simp)
        have hnm := HNm.out rn hrl
        have i5 : (rn : Int) < (g.length : Int) := by omega
        clear hc3 hP hAl hru HIr
        generalize g[rn].name = nm at *
        have hadd := fun W => run_string_add_sum (P := Try.prog) (w := W) nm openP (by show nm.size + 1 ≤ _; omega)
        have hso : (nm ++ openP).size ≤ 1048577 := by rw [ByteArray.size_append]; show nm.size + 1 ≤ _; omega
        generalize nm ++ openP = s0 at *
        unfold openP at hadd
        go_wp2
        go_loopw [8, 9] (fun sv jv ww => ∃ (j : Nat) (s : ByteArray), sv = .string s ∧ jv = .int .i64 j ∧ j ≤ ks.length ∧ s.size ≤ 1048577 + 2001 * j ∧ kidT ts j s (ks.drop j) = kidT ts 0 s0 ks ∧ ww = W1) (fun _ jv _ => ks.length - (intOf jv).toNat)
        case atStart => exact ⟨0, s0, rfl, rfl, Nat.zero_le _, by omega, rfl, rfl⟩
        case round =>
          obtain ⟨j, s, rfl, rfl, hj, hss, hGk, hww⟩ := hrel
          rw [hww]
          clear hww
          have HGk : Hid (kidT ts j s (ks.drop j) = kidT ts 0 s0 ks) := hGk
          clear hGk
          by_cases hjl : j < ks.length
          · obtain ⟨bk, offk, rfl, hck⟩ := HI2.out.at hjl
            have HDj : Hid (_ = _) := kidT_drop ts s ks j hjl
            have i6 : (j : Int) < (ks.length : Int) := by omega
            have HI1 : Hid (∀ W, _) := fun W => hin1.out W ks[j]
            generalize ks[j] = z at *
            by_cases hz : 0 ≤ z ∧ z ≤ (k : Int) - 1
            · rw [decide_eq_true hz] at HI1
              have hz' : 0 ≤ z ∧ z ≤ (ts.length : Int) - 1 := by omega
              rw [if_pos hz', HGk.out] at HDj
              obtain ⟨q, rfl⟩ := Int.eq_ofNat_of_zero_le hz.1
              rw [Int.toNat_natCast] at HDj
              have hqz : q < ts.length := by omega
              rw [getD_ltB hqz] at HDj
              obtain ⟨bs, offs, rfl, hcs⟩ := HO2.out.row.at hqz
              have hy := HIn.out _ (List.getElem_mem hqz)
              have i7 : (q : Int) < (ts.length : Int) := by omega
              generalize ts[q] = y at *
              clear hz hz'
              by_cases hj0 : 0 < j
              · rw [if_pos hj0] at HDj
                have hb1 := fun W => run_string_add_sum (P := Try.prog) (w := W) s blankP (by show s.size + 1 ≤ _; omega)
                have hbs : (s ++ blankP).size = s.size + 1 := by rw [ByteArray.size_append]; rfl
                generalize s ++ blankP = sB at *
                have hb2 := fun W => run_string_add_sum (P := Try.prog) (w := W) sB y (by omega)
                have hbz : (sB ++ y).size = sB.size + y.size := ByteArray.size_append
                generalize sB ++ y = sY at *
                unfold blankP at hb1
                go_wp2_with (go_at_call 17; refine (HI1.out _).mono ?_; rintro e wq ⟨rfl, hw⟩; rw [hw]; clear hw)
                go_roundw
                case rel => exact ⟨j + 1, sY, rfl, by go_num, by omega, by omega, HDj.out.symm, by first | trivial | rfl⟩
                case measure => simp [intOf]; omega
              · rw [if_neg hj0] at HDj
                have hb2 := fun W => run_string_add_sum (P := Try.prog) (w := W) s y (by omega)
                have hbz : (s ++ y).size = s.size + y.size := ByteArray.size_append
                generalize s ++ y = sY at *
                have i9 : ¬ (0 : Int) < (j : Int) := by omega
                go_wp2_with (go_at_call 17; refine (HI1.out _).mono ?_; rintro e wq ⟨rfl, hw⟩; rw [hw]; clear hw)
                go_roundw
                case rel => exact ⟨j + 1, sY, rfl, by go_num, by omega, by omega, HDj.out.symm, by first | trivial | rfl⟩
                case measure => simp [intOf]; omega
            · rw [decide_eq_false hz] at HI1
              have hz' : ¬ (0 ≤ z ∧ z ≤ (ts.length : Int) - 1) := by omega
              rw [if_neg hz', HGk.out] at HDj
              have HV : Hid (treeTextB g xs = ⟨#[]⟩) := by
                rw [Hid, treeTextB, ← HF.out, HD.out, HDj.out]
              clear hz hz'
              go_wp2_with (go_at_call 17; refine (HI1.out _).mono ?_; rintro e wq ⟨rfl, hw⟩; rw [hw]; clear hw)
              go_ret
              rw [HV.out]
              exact ⟨rfl, hBf.out⟩
          · obtain rfl : j = ks.length := by omega
            have HK : Hid (kidT ts 0 s0 ks = some s) := by
              rw [Hid, ← HGk.out, List.drop_of_length_le (Nat.le_refl _)]; rfl
            have i6 : ¬ (ks.length : Int) < (ks.length : Int) := by omega
            have hb1 := fun W => run_string_add_sum (P := Try.prog) (w := W) s shutP (by show s.size + 1 ≤ _; omega)
            have hbz : (s ++ shutP).size = s.size + 1 := by rw [ByteArray.size_append]; rfl
            have HDs : Hid (textsB g ts (xs.drop k) = if 2000 < (s ++ shutP).size then none else textsB g (ts ++ [s ++ shutP]) (xs.drop (k + 1))) := by
              rw [Hid, HD.out, HK.out]
            generalize s ++ shutP = sS at *
            unfold shutP at hb1
            by_cases hbig : 2000 < sS.size
            · have HV : Hid (treeTextB g xs = ⟨#[]⟩) := by
                rw [Hid, treeTextB, ← HF.out, HDs.out, if_pos hbig]
              have i8 : (2000 : Int) < (sS.size : Int) := by omega
              go_wp2
              go_ret
              rw [HV.out]
              exact ⟨rfl, hBf.out⟩
            · have HN : Hid (textsB g (ts ++ [sS]) (xs.drop (k + 1)) = textsB g [] xs) := by
                rw [Hid, ← HF.out, HDs.out, if_neg hbig]
              have i8 : ¬ (2000 : Int) < (sS.size : Int) := by omega
              go_wp2_with (at_builtin; refine wpList_append_own _ rfl _ _ 46 rfl w0.heap.size 9 i0 _ 1 16 Try.underlying46 hi hz0 hz1 hz2 rfl (by decide) _ _ _ rfl (World.ownsRow.alloc HO2.out _) ⟨_, 0, none⟩ 1 1 [.string sS] rfl rfl (cell_one_new _ _ _) (one_cellB _) (by unfold maxLen; omega) (by omega) (by have h8 := HB2.out.size; simp; omega) ?_)
              intro v' w2 hown2 hgrow _
              have R := ownB_snoc8 hown2 HO2.out hgrow rfl HB2.out
              clear hown2 hgrow
              go_wp2
              go_roundw
              case rel =>
                refine ⟨k + 1, ts ++ [sS], by go_num, by omega, by simp; omega, fun y hy => ?_, HN.out, R.1, R.2⟩
                rcases List.mem_append.1 hy with hy | hy
                · exact HIn.out y hy
                · rw [List.mem_singleton.1 hy]
                  omega
              case measure => simp [intOf]; omega
      · rw [decide_eq_false hru] at HIr
        rw [if_neg hru] at HD
        have HV : Hid (treeTextB g xs = ⟨#[]⟩) := by
          rw [Hid, treeTextB, ← HF.out, HD.out]
        refine (HIr.out _).mono ?_
        rintro e wq ⟨rfl, hw⟩
        rw [hw]
        clear hw wq hru
        go_wp2
        go_ret
        rw [HV.out]
        exact ⟨rfl, hBf.out⟩
    · obtain rfl : k = xs.length := by omega
      have HV : Hid (treeTextB g xs = lastT ts) := by
        rw [Hid, treeTextB, ← HF.out, List.drop_of_length_le (Nat.le_refl _)]; rfl
      have i4 : ¬ (xs.length : Int) < (xs.length : Int) := by omega
      obtain ⟨az, cz, rfl⟩ := HO.out.row.slice
      by_cases h0 : ts.length = 0
      · have HV0 : Hid (treeTextB g xs = ⟨#[]⟩) := by
          rw [Hid, HV.out, lastT, List.length_eq_zero_iff.1 h0]; rfl
        have i5 : ((ts.length : Int) == 0) = true := by simp [h0]
        go_wp2
        go_ret
        rw [HV0.out]
        exact ⟨rfl, hBf.out⟩
      · have hqz : ts.length - 1 < ts.length := by omega
        obtain ⟨bs, offs, rfl, hcs⟩ := HO.out.row.at hqz
        have HG2 : Hid (treeTextB g xs = ts[ts.length - 1]) := by rw [Hid, HV.out, lastT, getD_ltB hqz]
        have i5 : ((ts.length : Int) == 0) = false := by rw [beq_eq_false_iff_ne]; omega
        have i6 : IntKind.i64.wrap ((ts.length : Int) - 1) = ((ts.length - 1 : Nat) : Int) := by rw [IntKind.wrap_i64]; omega
        have i7 : ((ts.length - 1 : Nat) : Int) < (ts.length : Int) := by omega
        go_wp2
        go_ret
        exact ⟨by rw [HG2.out]; rfl, hBf.out⟩

end Go.Proofs.Ytdihemolhdjfeaa
