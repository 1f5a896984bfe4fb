/- The program's Circles. -/
import Derived.Test.YtpcfcheicdnogaaF14V
namespace Go.Proofs.Ytpcfcheicdnogaa
open Go.RowKit
set_option linter.unusedVariables false

set_option maxHeartbeats 6400000 in
set_option maxRecDepth 100000 in
theorem implCircles14 (v : Value) (xs : List PartD) (w : World) (hn : forestTot xs ≤ 1048576) (h : RowC 5 PartE w v xs) :
    Calls Try.prog 12 #[.agg #[v]] w fun e w' => e = .returned (.bool (circles14 xs)) ∧ Below w.heap.size w w' := by
  obtain ⟨i0, hi, hz0, hz1, hz2⟩ := info_parts Try.infoInt5
  obtain ⟨iz, hiz, hzz0, hzz1, hzz2⟩ := info_parts Try.infoZ14
  have HN : Hid (forestTot xs ≤ 1048576) := hn
  have hnl : xs.length ≤ 1048576 := Nat.le_trans (rowTot_len partTot xs) hn
  have HLn : Hid (∀ i (hi : i < xs.length), _) := fun i hi => ways_len hn i hi
  have HWa : Hid (∀ i (hi : i < xs.length), (go14 xs.length xs[i].ways).length ≤ 1048576) := fun i hi => ways_all hn i hi
  obtain ⟨a, cap, rfl⟩ := h.slice
  have B0 : Hid (Below w.heap.size w (w.alloc (.cells #[.slice a xs.length cap] 29))) := (Below.refl _ _).alloc (Nat.le_refl _) _
  have HR : Hid (RowC 5 PartE (w.alloc (.cells #[.slice a xs.length cap] 29)) (.slice a xs.length cap) xs) := RowC.below PartE_stable h B0.out
  have hE0 : (w.alloc (.cells #[.slice a xs.length cap] 29)).cell? ⟨w.heap.size, 0, none⟩ = some (.slice a xs.length cap) := box_at _ _ _ 0 _ rfl
  have HS0 : Hid ((w.alloc (.cells #[.slice a xs.length cap] 29)).heap.size = w.heap.size + 1) := by rw [Hid]; simp
  clear h hn
  go_enter Try.func12, Try.ntmps12
  go_wp2_with (first
    | (at_make; refine wpList_make_full _ rfl _ _ 49 rfl w1.heap.size 36 iz _ 1 Try.underlying49 hiz hzz0 hzz1 .i64 .i64 _ _ xs.length rfl rfl rfl rfl (by rw [hzz2]; omega) (by unfold maxLen; omega) (Nat.le_refl _) ?_; intro w2 hown hg2; have HA2 : Hid (AbV w1.heap.size (.slice (some ⟨w1.heap.size, 0, none⟩) xs.length xs.length) xs.length (List.replicate xs.length (.slice none 0 0)) (List.replicate xs.length []) w2) := AbV.made hown; have HB2 : Hid (Below w1.heap.size w1 w2) := (Below.refl _ _).grown hg2 (Nat.le_refl _) (fun k h => by cases h); have hE2 := cell_keep hE1 HB2.out; clear hown hg2)
    | (at_make; refine wpList_make_full _ rfl _ _ 36 rfl (w.alloc (.cells #[.slice a xs.length cap] 29)).heap.size 3 i0 _ 1 Try.underlying36 hi hz0 hz1 .i64 .i64 _ _ xs.length rfl rfl rfl rfl (by rw [hz2]; omega) (by unfold maxLen; omega) (Nat.le_refl _) ?_; intro w1 hown hg1; rw [zeros_cells, HS0.out] at hown; have HB1 : Hid (Below (w.alloc (.cells #[.slice a xs.length cap] 29)).heap.size (w.alloc (.cells #[.slice a xs.length cap] 29)) w1) := (Below.refl _ _).grown hg1 (Nat.le_refl _) (fun k h => by cases h); have hlt1 : w.heap.size + 1 < w1.heap.size := (World.ownsRow.lt hown _ rfl).2; have HO1 : Hid (OwnZ (w.alloc (.cells #[.slice a xs.length cap] 29)).heap.size (.slice (some ⟨w.heap.size + 1, 0, none⟩) xs.length xs.length) (List.replicate xs.length 0) w1) := (by rw [HS0.out]; exact own14_of hown (by simp)); have hE1 := cell_keep hE0 HB1.out; clear hown hg1))
  have HO2 : Hid (OwnZ (w.alloc (.cells #[.slice a xs.length cap] 29)).heap.size (.slice (some ⟨w.heap.size + 1, 0, none⟩) xs.length xs.length) (List.replicate xs.length 0) w2) := HO1.out.below HB2.out
  have HB3 : Hid (Below (w.alloc (.cells #[.slice a xs.length cap] 29)).heap.size (w.alloc (.cells #[.slice a xs.length cap] 29)) w2) := HB1.out.trans (HB2.out.mono HB1.out.size)
  generalize (w.alloc (.cells #[.slice a xs.length cap] 29)) = w0 at *
  have hsz1 : w0.heap.size ≤ w1.heap.size := HB1.out.size
  clear HO1 HB1 HB2 hE1 hE2
  go_loopw [26] (fun iv wr => ∃ (k : Nat) (waits : List Int) (vs : List Value) (above : List (List Int)), iv = .int .i64 k ∧ k ≤ xs.length ∧ W1 xs.length (GG xs k 0) waits above ∧ (∀ j, (above.getD j []).length ≤ k * 1048576) ∧ OwnZ w0.heap.size (.slice (some ⟨w.heap.size + 1, 0, none⟩) xs.length xs.length) waits wr ∧ AbV w1.heap.size (.slice (some ⟨w1.heap.size, 0, none⟩) xs.length xs.length) xs.length vs above wr ∧ Below w0.heap.size w0 wr) (fun iv _ => xs.length - (intOf iv).toNat)
  case atStart => exact ⟨0, _, _, _, rfl, Nat.zero_le _, W1.start xs, fun j => by rw [List.getD_eq_getElem?_getD, List.getElem?_replicate]; split <;> simp, HO2.out, HA2.out, HB3.out⟩
  case round =>
    clear HO2 HA2 HB3
    obtain ⟨k, waits, vs, above, rfl, hk, hW, hL, hoz, hab, hbw⟩ := hrel
    obtain ⟨wa, rfl⟩ : ∃ W, W = wr := ⟨wr, rfl⟩
    have HW : Hid (W1 xs.length (GG xs k 0) waits above) := hW
    have HL : Hid (∀ j, (above.getD j []).length ≤ k * 1048576) := hL
    have HOz : Hid (OwnZ w0.heap.size (.slice (some ⟨w.heap.size + 1, 0, none⟩) xs.length xs.length) waits wa) := hoz
    have HAb : Hid (AbV w1.heap.size (.slice (some ⟨w1.heap.size, 0, none⟩) xs.length xs.length) xs.length vs above wa) := hab
    have HB : Hid (Below w0.heap.size w0 wa) := hbw
    have hE := cell_keep hE0 hbw
    clear hW hL hoz hab hbw
    by_cases hlt : k < xs.length
    · obtain ⟨b, off, vs9, rfl, _, hc, hEl⟩ := (RowC.below PartE_stable HR.out HB.out).at hlt
      obtain ⟨r0, r1, rfl, hA, hI⟩ := hEl
      have n0 : wa.cell? ⟨b, off + k * 5, none⟩ = some (.int .i64 xs[k].rule) := hc 0 (by simp)
      have n1 : wa.cell? ⟨b, off + k * 5 + 1, none⟩ = some r0 := hc 1 (by simp)
      have n2 : wa.cell? ⟨b, off + k * 5 + 2, none⟩ = some (.int .i64 xs[k].frm) := hc 2 (by simp)
      have n3 : wa.cell? ⟨b, off + k * 5 + 3, none⟩ = some (.int .i64 xs[k].upto) := hc 3 (by simp)
      have n4 : wa.cell? ⟨b, off + k * 5 + 4, none⟩ = some r1 := hc 4 (by simp)
      have hyt : rowTot wayTot xs[k].ways ≤ 1048576 := by
        have h1 := rowTot_mem partTot (List.getElem_mem hlt)
        have h2 : partTot xs[k] = xs[k].args.length + rowTot wayTot xs[k].ways := rfl
        have h3 : forestTot xs = rowTot partTot xs := rfl
        have h4 := HN.out
        omega
      have hgl : (gs14 xs k).length ≤ 1048576 := by rw [gs14_at hlt]; exact Nat.le_trans (go14_len _ _) hyt
      obtain ⟨a0, c0, rfl⟩ := hA.slice
      obtain ⟨aw, cw, rfl⟩ := hI.slice
      have bal : Hid (Below wa.heap.size wa (wa.alloc (.cells #[.int .i64 xs[k].rule, .slice a0 xs[k].args.length c0, .int .i64 xs[k].frm, .int .i64 xs[k].upto, .slice aw xs[k].ways.length cw] 40))) := (Below.refl _ _).alloc (Nat.le_refl _) _
      have HK : Hid (∀ W, RowC 2 WayE W (.slice aw xs[k].ways.length cw) xs[k].ways → _) := fun W h => kidsOf14 (some ⟨b, off, none⟩) xs.length cap xs[k].rule xs[k].frm xs[k].upto (.slice a0 xs[k].args.length c0) _ xs[k].ways W hyt h
      rw [← gs14_at hlt] at HK
      have HRw : Hid (RowC 2 WayE (wa.alloc (.cells #[.int .i64 xs[k].rule, .slice a0 xs[k].args.length c0, .int .i64 xs[k].frm, .int .i64 xs[k].upto, .slice aw xs[k].ways.length cw] 40)) (.slice aw xs[k].ways.length cw) xs[k].ways) := RowC.below WayE_stable hI bal.out
      have HOz2 : Hid (OwnZ w0.heap.size (.slice (some ⟨w.heap.size + 1, 0, none⟩) xs.length xs.length) waits (wa.alloc (.cells #[.int .i64 xs[k].rule, .slice a0 xs[k].args.length c0, .int .i64 xs[k].frm, .int .i64 xs[k].upto, .slice aw xs[k].ways.length cw] 40))) := HOz.out.below bal.out
      have HAb2 : Hid (AbV w1.heap.size (.slice (some ⟨w1.heap.size, 0, none⟩) xs.length xs.length) xs.length vs above (wa.alloc (.cells #[.int .i64 xs[k].rule, .slice a0 xs[k].args.length c0, .int .i64 xs[k].frm, .int .i64 xs[k].upto, .slice aw xs[k].ways.length cw] 40))) := HAb.out.below bal.out
      have HB2 : Hid (Below w0.heap.size w0 (wa.alloc (.cells #[.int .i64 xs[k].rule, .slice a0 xs[k].args.length c0, .int .i64 xs[k].frm, .int .i64 xs[k].upto, .slice aw xs[k].ways.length cw] 40))) := HB.out.trans (bal.out.mono HB.out.size)
      have i4 : (k : Int) < (xs.length : Int) := by omega
      have hE2 := cell_keep hE bal.out
      have X0 : (wa.alloc (.cells #[.int .i64 xs[k].rule, .slice a0 xs[k].args.length c0, .int .i64 xs[k].frm, .int .i64 xs[k].upto, .slice aw xs[k].ways.length cw] 40)).cell? ⟨wa.heap.size, 0, none⟩ = some (.int .i64 xs[k].rule) := box_at _ _ _ 0 _ rfl
      have X1 : (wa.alloc (.cells #[.int .i64 xs[k].rule, .slice a0 xs[k].args.length c0, .int .i64 xs[k].frm, .int .i64 xs[k].upto, .slice aw xs[k].ways.length cw] 40)).cell? ⟨wa.heap.size, 1, none⟩ = some (.slice a0 xs[k].args.length c0) := box_at _ _ _ 1 _ rfl
      have X2 : (wa.alloc (.cells #[.int .i64 xs[k].rule, .slice a0 xs[k].args.length c0, .int .i64 xs[k].frm, .int .i64 xs[k].upto, .slice aw xs[k].ways.length cw] 40)).cell? ⟨wa.heap.size, 2, none⟩ = some (.int .i64 xs[k].frm) := box_at _ _ _ 2 _ rfl
      have X3 : (wa.alloc (.cells #[.int .i64 xs[k].rule, .slice a0 xs[k].args.length c0, .int .i64 xs[k].frm, .int .i64 xs[k].upto, .slice aw xs[k].ways.length cw] 40)).cell? ⟨wa.heap.size, 3, none⟩ = some (.int .i64 xs[k].upto) := box_at _ _ _ 3 _ rfl
      have X4 : (wa.alloc (.cells #[.int .i64 xs[k].rule, .slice a0 xs[k].args.length c0, .int .i64 xs[k].frm, .int .i64 xs[k].upto, .slice aw xs[k].ways.length cw] 40)).cell? ⟨wa.heap.size, 4, none⟩ = some (.slice aw xs[k].ways.length cw) := box_at _ _ _ 4 _ rfl
      clear hc hA hI hyt HOz HAb HB hE
      go_wp2_with fail
      generalize (wa.alloc (.cells #[.int .i64 xs[k].rule, .slice a0 xs[k].args.length c0, .int .i64 xs[k].frm, .int .i64 xs[k].upto, .slice aw xs[k].ways.length cw] 40)) = W9 at *
      clear n0 n1 n2 n3 n4 bal hE2 X0 X1 X2 X3 X4
      refine (HK.out _ HRw.out).mono ?_
      rintro e w3 ⟨kv, rfl, hok, hb3⟩
      have HOk : Hid (OwnZ W9.heap.size kv (gs14 xs k) w3) := hok
      have HOz3 : Hid (OwnZ w0.heap.size (.slice (some ⟨w.heap.size + 1, 0, none⟩) xs.length xs.length) waits w3) := HOz2.out.below hb3
      have HAb3 : Hid (AbV w1.heap.size (.slice (some ⟨w1.heap.size, 0, none⟩) xs.length xs.length) xs.length vs above w3) := HAb2.out.below hb3
      have HB3 : Hid (Below w0.heap.size w0 w3) := HB2.out.trans (hb3.mono HB2.out.size)
      have HNe : Hid (∀ j (hj : j < vs.length), kv.ownBlock = none ∨ kv.ownBlock ≠ vs[j].ownBlock) := fun j hj => apart14_new (B' := w1.heap.size) (pl := above[j]'(by have h1 := HAb2.out.1; have h2 := HAb2.out.2.1; omega)) HOk.out (HAb2.out.2.2.2.1 j hj _) (Nat.le_refl _)
      have hs9 : w.heap.size + 1 < W9.heap.size := (World.ownsRow.lt HOz2.out _ rfl).2
      obtain ⟨ak, ck, rfl⟩ := HOk.out.row.slice
      have HWk : Hid (W1 xs.length (GG xs k 0) waits above) := HW.out
      clear hok hb3 HOz2 HAb2 HB2 HK HRw HW
      generalize xs[k].rule = xru at *
      generalize xs[k].frm = xfr at *
      generalize xs[k].upto = xup at *
      generalize xs[k].ways.length = xwl at *
      generalize xs[k].args.length = xal at *
      go_wp2
      go_loopw [35] (fun tv wr => ∃ (t : Nat) (waits : List Int) (vs : List Value) (above : List (List Int)), tv = .int .i64 t ∧ t ≤ (gs14 xs k).length ∧ W1 xs.length (GG xs k t) waits above ∧ (∀ j, (above.getD j []).length ≤ k * 1048576 + t) ∧ OwnZ w0.heap.size (.slice (some ⟨w.heap.size + 1, 0, none⟩) xs.length xs.length) waits wr ∧ AbV w1.heap.size (.slice (some ⟨w1.heap.size, 0, none⟩) xs.length xs.length) xs.length vs above wr ∧ OwnZ W9.heap.size (.slice ak (gs14 xs k).length ck) (gs14 xs k) wr ∧ (∀ j (hj : j < vs.length), Value.ownBlock (.slice ak (gs14 xs k).length ck) = none ∨ Value.ownBlock (.slice ak (gs14 xs k).length ck) ≠ vs[j].ownBlock) ∧ Below w0.heap.size w0 wr) (fun tv _ => (gs14 xs k).length - (intOf tv).toNat)
      case atStart => exact ⟨0, waits, vs, above, rfl, Nat.zero_le _, HWk.out, fun j => Nat.le_trans (HL.out j) (by omega), HOz3.out, HAb3.out, HOk.out, HNe.out, HB3.out⟩
      case round =>
        clear HWk HL HOz3 HAb3 HOk HNe HB3
        obtain ⟨t, waits, vs, above, rfl, ht, hW, hL, hoz, hab, hok, hne, hbw⟩ := hrel
        obtain ⟨wb, rfl⟩ : ∃ W, W = wr := ⟨wr, rfl⟩
        have HW : Hid (W1 xs.length (GG xs k t) waits above) := hW
        have HL : Hid (∀ j, (above.getD j []).length ≤ k * 1048576 + t) := hL
        have HOz : Hid (OwnZ w0.heap.size (.slice (some ⟨w.heap.size + 1, 0, none⟩) xs.length xs.length) waits wb) := hoz
        have HAb : Hid (AbV w1.heap.size (.slice (some ⟨w1.heap.size, 0, none⟩) xs.length xs.length) xs.length vs above wb) := hab
        have HOk : Hid (OwnZ W9.heap.size (.slice ak (gs14 xs k).length ck) (gs14 xs k) wb) := hok
        have HNe : Hid (∀ j (hj : j < vs.length), Value.ownBlock (.slice ak (gs14 xs k).length ck) = none ∨ Value.ownBlock (.slice ak (gs14 xs k).length ck) ≠ vs[j].ownBlock) := hne
        have HB : Hid (Below w0.heap.size w0 wb) := hbw
        clear hW hL hoz hab hok hne hbw
        by_cases htl : t < (gs14 xs k).length
        · obtain ⟨y, hy0, hy⟩ := gs14_in _ (List.getElem_mem htl)
          obtain ⟨bk, ok9, rfl, hck0⟩ := HOk.out.row.at htl
          rw [hy0] at hck0
          have hyv : y < vs.length := by rw [HAb.out.1]; exact hy
          have hyr : y < above.length := by rw [HAb.out.2.1]; exact hy
          have hzw : waits.getD k 0 = (t : Int) := by
            rw [HW.out.wt k hlt, GG, if_neg (Nat.lt_irrefl _), if_pos rfl, List.length_take]
            omega
          have hay : above.getD y [] = above[y] := by rw [List.getD_eq_getElem?_getD, List.getElem?_eq_getElem hyr]; rfl
          obtain ⟨c1, c2⟩ := own14_cell HOz.out HW.out.len k hlt
          rw [hzw] at c1
          have HWn : Hid (W1 xs.length (GG xs k (t + 1)) (waits.set k ((t : Int) + 1)) (above.set y (above[y] ++ [(k : Int)]))) := by
            have := HW.out.put hlt htl hy0 hy
            rwa [hzw, hay] at this
          have HLn2 : Hid (∀ j, ((above.set y (above[y] ++ [(k : Int)])).getD j []).length ≤ k * 1048576 + (t + 1)) := fun j => by
            rw [getDL_set _ _ _ _ hyr]
            split
            · have := HL.out y
              rw [hay] at this
              simp only [List.length_append, List.length_singleton]
              omega
            · have := HL.out j
              omega
          have hal : above[y].length ≤ 1099512676352 := by
            have := HL.out y
            rw [hay] at this
            omega
          have HOz2 : Hid (OwnZ w0.heap.size (.slice (some ⟨w.heap.size + 1, 0, none⟩) xs.length xs.length) (waits.set k ((t : Int) + 1)) (wb.setCell ⟨w.heap.size + 1, k, none⟩ (.int .i64 ((t : Int) + 1)))) := own14_set HOz.out HW.out.len k _
          have HAb2 : Hid (AbV w1.heap.size (.slice (some ⟨w1.heap.size, 0, none⟩) xs.length xs.length) xs.length vs above (wb.setCell ⟨w.heap.size + 1, k, none⟩ (.int .i64 ((t : Int) + 1)))) := HAb.out.setOld hlt1 _
          have HOk2 : Hid (OwnZ W9.heap.size (.slice (some ⟨bk, ok9, none⟩) (gs14 xs k).length ck) (gs14 xs k) (wb.setCell ⟨w.heap.size + 1, k, none⟩ (.int .i64 ((t : Int) + 1)))) := keepZ14_at HOk.out k _ (off_block HOk.out hs9)
          have HB2 : Hid (Below w0.heap.size w0 (wb.setCell ⟨w.heap.size + 1, k, none⟩ (.int .i64 ((t : Int) + 1)))) := HB.out.setCell (by rw [HS0.out]; exact Nat.le_refl _) _
          have hs1 : w1.heap.size < wb.heap.size := (World.ownsRow.lt HAb.out.2.2.1 _ rfl).2
          have w8 : IntKind.i64.wrap ((t : Int) + 1) = (t : Int) + 1 := by rw [IntKind.wrap_i64]; omega
          obtain ⟨gc1, gc2⟩ := HAb2.out.cell hyv
          have HIy : Hid (OwnZ w1.heap.size vs[y] above[y] (wb.setCell ⟨w.heap.size + 1, k, none⟩ (.int .i64 ((t : Int) + 1)))) := HAb2.out.2.2.2.1 y hyv hyr
          obtain ⟨ay, cy, hvy⟩ := HIy.out.row.slice
          have HVy : Hid (vs[y] = .slice ay above[y].length cy) := hvy
          have HI2 : Hid (OwnZ w1.heap.size (.slice ay above[y].length cy) above[y] (wb.setCell ⟨w.heap.size + 1, k, none⟩ (.int .i64 ((t : Int) + 1)))) := by rw [Hid, ← hvy]; exact HIy.out
          rw [hvy] at gc1
          have hck : (wb.setCell ⟨w.heap.size + 1, k, none⟩ (.int .i64 ((t : Int) + 1))).cell? ⟨bk, ok9 + t, none⟩ = some (.int .i64 (y : Int)) := by
            obtain ⟨bk', ok', e, h9⟩ := HOk2.out.row.at htl
            cases e
            rw [← hy0]
            exact h9
          have HNy : Hid (Value.ownBlock (.slice (some ⟨bk, ok9, none⟩) (gs14 xs k).length ck) = none ∨ Value.ownBlock (.slice (some ⟨bk, ok9, none⟩) (gs14 xs k).length ck) ≠ Value.ownBlock (.slice ay above[y].length cy)) := by rw [Hid, ← hvy]; exact HNe.out y hyv
          have i5 : (k : Int) < (xs.length : Int) := by omega
          have i6 : (t : Int) < ((gs14 xs k).length : Int) := by omega
          have i7 : (y : Int) < (xs.length : Int) := by omega
          clear HW HL HOz HAb HOk HB HIy hvy hzw hay hy0
          go_wp2_with (at_builtin; refine wpList_append_own_at _ rfl _ _ 36 rfl w1.heap.size 3 i0 _ 1 8 Try.underlying36 hi hz0 hz1 hz2 rfl (by decide) _ _ _ rfl (World.ownsRow.alloc HI2.out _) ⟨_, 0, none⟩ 1 1 [.int .i64 (k : Int)] rfl rfl (cell_one_set14 _ _ _ _ _) (one_cell14 _) (by unfold maxLen; omega) (by omega) (by simp [World.setCell]; omega) ?_; intro v5 w5 hown5 hgrow5 _ hat5; obtain ⟨a5, c5, rfl⟩ := own_shape14 hown5; have HG5 : Hid (World.grownBy _ w5 vs[y].ownBlock) := (by rw [Hid, HVy.out]; exact hgrow5); obtain ⟨g1, g2⟩ := HAb2.out.midCell hyv hyr HG5.out; rw [HVy.out] at g1; have A5 : Hid (AbV w1.heap.size (.slice (some ⟨w1.heap.size, 0, none⟩) xs.length xs.length) xs.length (vs.set y (.slice a5 (above[y].length + 1) c5)) (above.set y (above[y] ++ [(k : Int)])) (w5.setCell ⟨w1.heap.size, y, none⟩ (.slice a5 (above[y].length + 1) c5))) := HAb2.out.put hyv hyr hown5 HG5.out (by rw [HVy.out]; exact hat5) (by simp [World.setCell]); have Z5 : Hid (OwnZ w0.heap.size (.slice (some ⟨w.heap.size + 1, 0, none⟩) xs.length xs.length) (waits.set k ((t : Int) + 1)) (w5.setCell ⟨w1.heap.size, y, none⟩ (.slice a5 (above[y].length + 1) c5))) := keepZ14_at (keepZ14_grow HOz2.out HI2.out hlt1 hgrow5) y (.slice a5 (above[y].length + 1) c5) (.inr (fun e => Nat.ne_of_lt hlt1 (Option.some.inj e))); have K5 : Hid (OwnZ W9.heap.size (.slice (some ⟨bk, ok9, none⟩) (gs14 xs k).length ck) (gs14 xs k) w5) := World.ownsRow.kept (World.ownsRow.alloc HOk2.out _) hgrow5 HNy.out; have K6 : Hid (OwnZ W9.heap.size (.slice (some ⟨bk, ok9, none⟩) (gs14 xs k).length ck) (gs14 xs k) (w5.setCell ⟨w1.heap.size, y, none⟩ (.slice a5 (above[y].length + 1) c5))) := keepZ14_at K5.out y (.slice a5 (above[y].length + 1) c5) (own14_ne K5.out (HAb2.out.mid hyv hyr HG5.out) (by decide)); have N5 : Hid (Value.ownBlock (.slice (some ⟨bk, ok9, none⟩) (gs14 xs k).length ck) = none ∨ Value.ownBlock (.slice (some ⟨bk, ok9, none⟩) (gs14 xs k).length ck) ≠ (Value.ownBlock (.slice a5 (above[y].length + 1) c5))) := block_apart14 (k := 0) HOk2.out (by simp [World.setCell]) HNy.out hat5; have B5 : Hid (Below w0.heap.size w0 w5) := below_grow14 (HB2.out.alloc (by simp [World.setCell]; omega) _) (by simp [World.setCell]; omega) (World.ownsRow.alloc HI2.out _ : OwnZ _ _ _ _) hsz1 hgrow5; clear hown5 hgrow5 hat5 HG5)
          have B6 : Hid (Below w0.heap.size w0 (w5.setCell ⟨w1.heap.size, y, none⟩ (.slice a5 (above[y].length + 1) c5))) := B5.out.setCell hsz1 _
          have N6 : Hid (∀ j (hj : j < (vs.set y (.slice a5 (above[y].length + 1) c5)).length), Value.ownBlock (.slice (some ⟨bk, ok9, none⟩) (gs14 xs k).length ck) = none ∨ Value.ownBlock (.slice (some ⟨bk, ok9, none⟩) (gs14 xs k).length ck) ≠ (vs.set y (.slice a5 (above[y].length + 1) c5))[j].ownBlock) := fun j hj => by
            by_cases e : y = j
            · subst e
              rw [List.getElem_set_self]
              exact N5.out
            · rw [List.getElem_set_ne e]
              exact HNe.out j (by rw [List.length_set] at hj; exact hj)
          clear HNe HNy N5 B5 K5 HOz2 HAb2 HOk2 HB2 HI2
          go_roundw
          case rel => exact ⟨t + 1, _, _, _, by go_num, by omega, HWn.out, HLn2.out, Z5.out, A5.out, K6.out, N6.out, B6.out⟩
          case measure => simp [intOf]; omega
        · obtain rfl : t = (gs14 xs k).length := by omega
          have HWn : Hid (W1 xs.length (GG xs (k + 1) 0) waits above) := HW.out.next
          have HLn2 : Hid (∀ j, (above.getD j []).length ≤ (k + 1) * 1048576) := fun j => Nat.le_trans (HL.out j) (by omega)
          have i6 : ¬ ((gs14 xs k).length : Int) < ((gs14 xs k).length : Int) := by omega
          go_wp2
          go_roundw
          case rel => exact ⟨k + 1, waits, vs, above, by go_num, by omega, HWn.out, HLn2.out, HOz.out, HAb.out, HB.out⟩
          case measure => simp [intOf]; omega
    · obtain rfl : k = xs.length := by omega
      have i4 : ¬ (xs.length : Int) < (xs.length : Int) := by omega
      have hltv : ∀ j (hj : j < vs.length) b, vs[j].ownBlock = some b → b < wa.heap.size := HAb.out.lt
      have HLv : Hid (∀ j (hj : j < vs.length) b, vs[j].ownBlock = some b → b < wa.heap.size) := hltv
      have hs2 : w.heap.size + 1 < wa.heap.size := (World.ownsRow.lt HOz.out _ rfl).2
      have hs3 : w0.heap.size ≤ wa.heap.size := HB.out.size
      have HD0 : Hid (OwnZ wa.heap.size (.slice (some ⟨wa.heap.size, 0, none⟩) 0 0) [] (wa.alloc (.cells #[] 3))) := World.ownsRow_made (base := wa.heap.size) wa #[] 0 (e := 3) (size := 1) (Nat.le_refl _) (by decide) rfl
      have HZ0 : Hid (OwnZ w0.heap.size (.slice (some ⟨w.heap.size + 1, 0, none⟩) xs.length xs.length) waits (wa.alloc (.cells #[] 3))) := World.ownsRow.alloc HOz.out _
      have bal : Below wa.heap.size wa (wa.alloc (.cells #[] 3)) := (Below.refl _ _).alloc (Nat.le_refl _) _
      have HA0 : Hid (AbV w1.heap.size (.slice (some ⟨w1.heap.size, 0, none⟩) xs.length xs.length) xs.length vs above (wa.alloc (.cells #[] 3))) := HAb.out.below bal
      have HB0 : Hid (Below w0.heap.size w0 (wa.alloc (.cells #[] 3))) := HB.out.trans (bal.mono HB.out.size)
      have HX0 : Hid (wa.heap.size ≤ (wa.alloc (.cells #[] 3)).heap.size) := bal.size
      have HWl : Hid (waits.length = xs.length) := HW.out.len
      have HWc : Hid (∀ d, d < xs.length → ∀ x, x < xs.length → (above.getD d []).count (x : Int) = (gs14 xs x).count (d : Int)) := fun d hd x hx => by
        rw [HW.out.ab d hd x, HW.out.fin x hx]
      have HWi : Hid (∀ d, ∀ z ∈ above.getD d [], ∃ x : Nat, z = (x : Int) ∧ x < xs.length) := HW.out.inn
      have HKs : Hid (KD xs waits (done2 waits xs.length) 0 []) := KD.start HW.out
      have hvl : vs.length = xs.length := HAb.out.1
      have hrl : above.length = xs.length := HAb.out.2.1
      clear hltv bal HOz HAb HB HW hE
      go_wp2
      generalize (wa.alloc (.cells #[] 3)) = w5 at *
      go_loopw [9, 60] (fun dv iv wr => ∃ (q : Nat) (done : List Int), iv = .int .i64 q ∧ q ≤ xs.length ∧ done = done2 waits q ∧ OwnZ wa.heap.size dv done wr ∧ OwnZ w0.heap.size (.slice (some ⟨w.heap.size + 1, 0, none⟩) xs.length xs.length) waits wr ∧ AbV w1.heap.size (.slice (some ⟨w1.heap.size, 0, none⟩) xs.length xs.length) xs.length vs above wr ∧ wa.heap.size ≤ wr.heap.size ∧ Below w0.heap.size w0 wr) (fun _ iv _ => xs.length - (intOf iv).toNat)
      case atStart => exact ⟨0, [], rfl, Nat.zero_le _, rfl, HD0.out, HZ0.out, HA0.out, HX0.out, HB0.out⟩
      case round =>
        clear HD0 HZ0 HA0 HX0 HB0
        obtain ⟨q, done, rfl, hq, hdn, hod, hoz, hab, hsz, hbw⟩ := hrel
        obtain ⟨wb, rfl⟩ : ∃ W, W = wr := ⟨wr, rfl⟩
        have HDn : Hid (done = done2 waits q) := hdn
        have HOd : Hid (OwnZ wa.heap.size u9 done wb) := hod
        have HOz : Hid (OwnZ w0.heap.size (.slice (some ⟨w.heap.size + 1, 0, none⟩) xs.length xs.length) waits wb) := hoz
        have HAb : Hid (AbV w1.heap.size (.slice (some ⟨w1.heap.size, 0, none⟩) xs.length xs.length) xs.length vs above wb) := hab
        have HB : Hid (Below w0.heap.size w0 wb) := hbw
        have hdl : done.length ≤ 1048576 := by rw [hdn]; exact Nat.le_trans (done2_len _ _) (by omega)
        clear hdn hod hoz hab hbw
        by_cases hql : q < xs.length
        · obtain ⟨c1, c2⟩ := own14_cell HOz.out HWl.out q hql
          have HNx : Hid (done2 waits (q + 1) = if waits.getD q 0 = 0 then done2 waits q ++ [(q : Int)] else done2 waits q) := done2_next waits q
          have i5 : (q : Int) < (xs.length : Int) := by omega
          by_cases hz : waits.getD q 0 = 0
          · rw [hz] at c1
            have HDx : Hid (done ++ [(q : Int)] = done2 waits (q + 1)) := by rw [Hid, HNx.out, if_pos hz, HDn.out]
            obtain ⟨a6, c6, rfl⟩ := HOd.out.row.slice
            clear hz HNx HDn
            go_wp2_with (at_builtin; refine wpList_append_own _ rfl _ _ 36 rfl wa.heap.size 3 i0 _ 1 8 Try.underlying36 hi hz0 hz1 hz2 rfl (by decide) _ _ _ rfl (World.ownsRow.alloc HOd.out _) ⟨_, 0, none⟩ 1 1 [.int .i64 (q : Int)] rfl rfl (cell_one_new _ _ _) (one_cell14 _) (by unfold maxLen; omega) (by omega) (by simp; omega) ?_; intro v5 w6 hown5 hgrow5 _; have D5 : Hid (OwnZ wa.heap.size v5 (done ++ [(q : Int)]) w6) := snocZ14 hown5; have Z5 : Hid (OwnZ w0.heap.size (.slice (some ⟨w.heap.size + 1, 0, none⟩) xs.length xs.length) waits w6) := keepZ14_grow HOz.out HOd.out hs2 hgrow5; have A5 : Hid (AbV w1.heap.size (.slice (some ⟨w1.heap.size, 0, none⟩) xs.length xs.length) xs.length vs above w6) := HAb.out.grow HLv.out HOd.out hgrow5; have S5 : Hid (wa.heap.size ≤ w6.heap.size) := (by have := hgrow5.size; simp at this; rw [Hid]; omega); have B5 : Hid (Below w0.heap.size w0 w6) := below_grow14 (HB.out.alloc HB.out.size _) (by simp; omega) (World.ownsRow.alloc HOd.out _ : OwnZ _ _ _ _) hs3 hgrow5; clear hown5 hgrow5)
            clear HOd HOz HAb HB
            go_roundw
            case rel => exact ⟨q + 1, _, by go_num, by omega, HDx.out, D5.out, Z5.out, A5.out, S5.out, B5.out⟩
            case measure => simp [intOf]; omega
          · have b1 : (waits.getD q 0 == 0) = false := beq_eq_false_iff_ne.2 hz
            have HDx : Hid (done = done2 waits (q + 1)) := by rw [Hid, HNx.out, if_neg hz, HDn.out]
            clear hz HNx HDn
            generalize waits.getD q 0 = zq at *
            go_wp2
            go_roundw
            case rel => exact ⟨q + 1, _, by go_num, by omega, HDx.out, HOd.out, HOz.out, HAb.out, hsz, HB.out⟩
            case measure => simp [intOf]; omega
        · obtain rfl : q = xs.length := by omega
          have HK0 : Hid (KD xs waits done 0 []) := by rw [Hid, HDn.out]; exact HKs.out
          have i5 : ¬ (xs.length : Int) < (xs.length : Int) := by omega
          have HSz : Hid (wa.heap.size ≤ wb.heap.size) := hsz
          clear HKs HDn hdl hsz
          go_wp2
          go_loopw [9, 12] (fun dv iv wr => ∃ (i : Nat) (waits done : List Int), iv = .int .i64 i ∧ i ≤ done.length ∧ KD xs waits done i [] ∧ OwnZ wa.heap.size dv done wr ∧ OwnZ w0.heap.size (.slice (some ⟨w.heap.size + 1, 0, none⟩) xs.length xs.length) waits wr ∧ AbV w1.heap.size (.slice (some ⟨w1.heap.size, 0, none⟩) xs.length xs.length) xs.length vs above wr ∧ wa.heap.size ≤ wr.heap.size ∧ Below w0.heap.size w0 wr) (fun _ iv _ => xs.length - (intOf iv).toNat)
          case atStart => exact ⟨0, waits, done, rfl, Nat.zero_le _, HK0.out, HOd.out, HOz.out, HAb.out, HSz.out, HB.out⟩
          case round =>
            clear HK0 HOd HOz HAb HSz HB HWl
            obtain ⟨i, waits, done, rfl, hil, hK, hod, hoz, hab, hsz, hbw⟩ := hrel
            obtain ⟨wc, rfl⟩ : ∃ W, W = wr := ⟨wr, rfl⟩
            have HK : Hid (KD xs waits done i []) := hK
            have HOd : Hid (OwnZ wa.heap.size u9 done wc) := hod
            have HOz : Hid (OwnZ w0.heap.size (.slice (some ⟨w.heap.size + 1, 0, none⟩) xs.length xs.length) waits wc) := hoz
            have HAb : Hid (AbV w1.heap.size (.slice (some ⟨w1.heap.size, 0, none⟩) xs.length xs.length) xs.length vs above wc) := hab
            have HB : Hid (Below w0.heap.size w0 wc) := hbw
            have HSz : Hid (wa.heap.size ≤ wc.heap.size) := hsz
            have hdl : done.length ≤ xs.length := hK.dlen
            clear hK hod hoz hab hbw hsz
            by_cases hlt : i < done.length
            · obtain ⟨d, hd0, hd⟩ := HK.out.inn done[i] (List.getElem_mem hlt)
              have HDi : Hid (done[i]? = some (d : Int)) := by rw [Hid, List.getElem?_eq_getElem hlt, hd0]
              have hdv : d < vs.length := by omega
              have hdr : d < above.length := by omega
              have had : above.getD d [] = above[d] := by rw [List.getD_eq_getElem?_getD, List.getElem?_eq_getElem hdr]; rfl
              have HAc : Hid (∀ x, x < xs.length → above[d].count (x : Int) = (gs14 xs x).count (d : Int)) := fun x hx => by rw [← had]; exact HWc.out d hd x hx
              have HAi : Hid (∀ z ∈ above[d], ∃ x : Nat, z = (x : Int) ∧ x < xs.length) := by rw [Hid, ← had]; exact HWi.out d
              have hal : above[d].length ≤ 1099512676352 := by
                have := HL.out d
                rw [had] at this
                omega
              obtain ⟨az, cz, rfl⟩ := HOd.out.row.slice
              obtain ⟨bz, oz, rfl, hcz⟩ := HOd.out.row.at hlt
              rw [hd0] at hcz
              obtain ⟨gc1, gc2⟩ := HAb.out.cell hdv
              obtain ⟨ay, cy, hvy⟩ := (HAb.out.2.2.2.1 d hdv hdr).row.slice
              have HVy : Hid (vs[d] = .slice ay above[d].length cy) := hvy
              rw [hvy] at gc1
              have HTk : Hid (KD xs waits done i (above[d].take 0)) := by rw [Hid, List.take_zero]; exact HK.out
              have i5 : (i : Int) < (done.length : Int) := by omega
              have i6 : (d : Int) < (xs.length : Int) := by omega
              clear had hvy hd0 HK
              go_wp2
              go_loopw [9, 86] (fun dv tv wr => ∃ (t : Nat) (waits done : List Int), tv = .int .i64 t ∧ t ≤ above[d].length ∧ KD xs waits done i (above[d].take t) ∧ i < done.length ∧ done[i]? = some (d : Int) ∧ OwnZ wa.heap.size dv done wr ∧ OwnZ w0.heap.size (.slice (some ⟨w.heap.size + 1, 0, none⟩) xs.length xs.length) waits wr ∧ AbV w1.heap.size (.slice (some ⟨w1.heap.size, 0, none⟩) xs.length xs.length) xs.length vs above wr ∧ wa.heap.size ≤ wr.heap.size ∧ Below w0.heap.size w0 wr) (fun _ tv _ => above[d].length - (intOf tv).toNat)
              case atStart => exact ⟨0, waits, done, rfl, Nat.zero_le _, HTk.out, hlt, HDi.out, HOd.out, HOz.out, HAb.out, HSz.out, HB.out⟩
              case round =>
                clear HTk HDi HOd HOz HAb HSz HB hcz gc1 gc2
                obtain ⟨t, waits, done, rfl, ht, hK, hil2, hdi, hod, hoz, hab, hsz, hbw⟩ := hrel
                obtain ⟨wd, rfl⟩ : ∃ W, W = wr := ⟨wr, rfl⟩
                have HK : Hid (KD xs waits done i (above[d].take t)) := hK
                have HDi : Hid (done[i]? = some (d : Int)) := hdi
                have HDe : Hid (done[i] = (d : Int)) := by
                  rw [List.getElem?_eq_getElem hil2] at hdi
                  exact Option.some.inj hdi
                have HOd : Hid (OwnZ wa.heap.size u9 done wd) := hod
                have HOz : Hid (OwnZ w0.heap.size (.slice (some ⟨w.heap.size + 1, 0, none⟩) xs.length xs.length) waits wd) := hoz
                have HAb : Hid (AbV w1.heap.size (.slice (some ⟨w1.heap.size, 0, none⟩) xs.length xs.length) xs.length vs above wd) := hab
                have HB : Hid (Below w0.heap.size w0 wd) := hbw
                have HSz : Hid (wa.heap.size ≤ wd.heap.size) := hsz
                have hdl2 : done.length ≤ xs.length := hK.dlen
                clear hK hdi hod hoz hab hbw hsz
                by_cases htl : t < above[d].length
                · obtain ⟨x, hx0, hx⟩ := HAi.out above[d][t] (List.getElem_mem htl)
                  have HIy : Hid (OwnZ w1.heap.size (.slice ay above[d].length cy) above[d] wd) := by rw [Hid, ← HVy.out]; exact HAb.out.2.2.2.1 d hdv hdr
                  obtain ⟨ba, oa, rfl, hca⟩ := HIy.out.row.at htl
                  rw [hx0] at hca
                  have HTn : Hid (above[d].take (t + 1) = above[d].take t ++ [(x : Int)]) := by rw [Hid, List.take_succ_eq_append_getElem htl, hx0]
                  have hcnt : (above[d].take t).count (x : Int) + 1 ≤ (gs14 xs x).count done[i] := by
                    have h1 : (above[d].take (t + 1)).count (x : Int) ≤ above[d].count (x : Int) := (List.take_sublist _ _).count_le _
                    rw [HTn.out, count_snoc14, if_pos rfl, HAc.out x hx] at h1
                    rw [HDe.out]
                    exact h1
                  have hpos := HK.out.pos hil2 hx hcnt
                  have hgl : (gs14 xs x).length ≤ 1048576 := by rw [gs14_at hx]; exact HWa.out x hx
                  have hwl : waits.length = xs.length := HK.out.len
                  obtain ⟨c1, c2⟩ := own14_cell HOz.out hwl x hx
                  have w8 : IntKind.i64.wrap (waits.getD x 0 - 1) = waits.getD x 0 - 1 := by rw [IntKind.wrap_i64]; omega
                  have HOz2 : Hid (OwnZ w0.heap.size (.slice (some ⟨w.heap.size + 1, 0, none⟩) xs.length xs.length) (waits.set x (waits.getD x 0 - 1)) (wd.setCell ⟨w.heap.size + 1, x, none⟩ (.int .i64 (waits.getD x 0 - 1)))) := own14_set HOz.out hwl x _
                  have HAb2 : Hid (AbV w1.heap.size (.slice (some ⟨w1.heap.size, 0, none⟩) xs.length xs.length) xs.length vs above (wd.setCell ⟨w.heap.size + 1, x, none⟩ (.int .i64 (waits.getD x 0 - 1)))) := HAb.out.setOld hlt1 _
                  have HOd2 : Hid (OwnZ wa.heap.size u9 done (wd.setCell ⟨w.heap.size + 1, x, none⟩ (.int .i64 (waits.getD x 0 - 1)))) := keepZ14_at HOd.out x _ (off_block HOd.out hs2)
                  have HB2 : Hid (Below w0.heap.size w0 (wd.setCell ⟨w.heap.size + 1, x, none⟩ (.int .i64 (waits.getD x 0 - 1)))) := HB.out.setCell (by rw [HS0.out]; exact Nat.le_refl _) _
                  have HSz2 : Hid (wa.heap.size ≤ (wd.setCell ⟨w.heap.size + 1, x, none⟩ (.int .i64 (waits.getD x 0 - 1))).heap.size) := by have := HSz.out; rw [Hid]; simpa [World.setCell] using this
                  have hsw : wa.heap.size ≤ wd.heap.size := HSz.out
                  obtain ⟨d1, d2⟩ := own14_cell HOz2.out (by rw [List.length_set]; exact hwl) x hx
                  rw [getDI_set _ _ _ _ (by rw [hwl]; exact hx), if_pos rfl] at d1
                  have i7 : (t : Int) < (above[d].length : Int) := by omega
                  have i8 : (x : Int) < (xs.length : Int) := by omega
                  have hdl3 : done.length ≤ 1048576 := by omega
                  clear hx0 HOz HAb HOd HB HSz HIy
                  by_cases hw1 : waits.getD x 0 = 1
                  · have HKn : Hid (KD xs (waits.set x (waits.getD x 0 - 1)) (done ++ [(x : Int)]) i (above[d].take (t + 1))) := by rw [Hid, HTn.out]; exact HK.out.out hil2 hx hcnt hw1
                    have HDx : Hid ((done ++ [(x : Int)])[i]? = some (d : Int)) := by rw [Hid, List.getElem?_append_left hil2]; exact HDi.out
                    have hil3 : i < (done ++ [(x : Int)]).length := by rw [List.length_append]; omega
                    have b1 : ((waits.getD x 0 - 1 : Int) == 0) = true := by rw [hw1]; rfl
                    obtain ⟨a6, c6, rfl⟩ := HOd2.out.row.slice
                    clear HK HTn hcnt hpos hw1 HDi HDe hwl
                    generalize waits.getD x 0 = zu at *
                    go_wp2_with (at_builtin; refine wpList_append_own _ rfl _ _ 36 rfl wa.heap.size 3 i0 _ 1 8 Try.underlying36 hi hz0 hz1 hz2 rfl (by decide) _ _ _ rfl (World.ownsRow.alloc HOd2.out _) ⟨_, 0, none⟩ 1 1 [.int .i64 (x : Int)] rfl rfl (cell_one_set14 _ _ _ _ _) (one_cell14 _) (by unfold maxLen; omega) (by omega) (by simp [World.setCell]; omega) ?_; intro v5 w6 hown5 hgrow5 _; have D5 : Hid (OwnZ wa.heap.size v5 (done ++ [(x : Int)]) w6) := snocZ14 hown5; have Z5 : Hid (OwnZ w0.heap.size (.slice (some ⟨w.heap.size + 1, 0, none⟩) xs.length xs.length) (waits.set x (zu - 1)) w6) := keepZ14_grow HOz2.out HOd2.out hs2 hgrow5; have A5 : Hid (AbV w1.heap.size (.slice (some ⟨w1.heap.size, 0, none⟩) xs.length xs.length) xs.length vs above w6) := HAb2.out.grow HLv.out HOd2.out hgrow5; have S5 : Hid (wa.heap.size ≤ w6.heap.size) := (by have := hgrow5.size; simp [World.setCell] at this; rw [Hid]; omega); have B5 : Hid (Below w0.heap.size w0 w6) := below_grow14 (HB2.out.alloc (by simp [World.setCell]; omega) _) (by simp [World.setCell]; omega) (World.ownsRow.alloc HOd2.out _ : OwnZ _ _ _ _) hs3 hgrow5; clear hown5 hgrow5)
                    clear HOd2 HOz2 HAb2 HB2 HSz2
                    go_roundw
                    case rel => exact ⟨t + 1, _, _, by go_num, by omega, HKn.out, hil3, HDx.out, D5.out, Z5.out, A5.out, S5.out, B5.out⟩
                    case measure => simp [intOf]; omega
                  · have HKn : Hid (KD xs (waits.set x (waits.getD x 0 - 1)) done i (above[d].take (t + 1))) := by rw [Hid, HTn.out]; exact HK.out.less hil2 hx hcnt hw1
                    have b1 : ((waits.getD x 0 - 1 : Int) == 0) = false := by rw [beq_eq_false_iff_ne]; omega
                    clear HK HTn hcnt hpos hw1 HDe hwl
                    generalize waits.getD x 0 = zu at *
                    go_wp2
                    go_roundw
                    case rel => exact ⟨t + 1, _, _, by go_num, by omega, HKn.out, hil2, HDi.out, HOd2.out, HOz2.out, HAb2.out, HSz2.out, HB2.out⟩
                    case measure => simp [intOf]; omega
                · obtain rfl : t = above[d].length := by omega
                  have HKn : Hid (KD xs waits done (i + 1) []) := by
                    have h1 := HK.out
                    rw [List.take_length] at h1
                    exact h1.next hil2 (fun x hx => by rw [HDe.out]; exact HAc.out x hx)
                  have i7 : ¬ (above[d].length : Int) < (above[d].length : Int) := by omega
                  go_wp2
                  go_roundw
                  case rel => exact ⟨i + 1, _, _, by go_num, by omega, HKn.out, HOd.out, HOz.out, HAb.out, HSz.out, HB.out⟩
                  case measure => simp [intOf]; omega
            · obtain rfl : i = done.length := by omega
              have HV : Hid (circles14 xs = decide (done.length < xs.length)) := HK.out.fin
              obtain ⟨a6, c6, rfl⟩ := HOd.out.row.slice
              have hE := cell_keep hE0 HB.out
              have HBf : Hid (Below w.heap.size w wc) := B0.out.trans (HB.out.mono B0.out.size)
              have i6 : ¬ (done.length : Int) < (done.length : Int) := by omega
              clear HK
              by_cases hf : done.length < xs.length
              · have i7 : (done.length : Int) < (xs.length : Int) := by omega
                have hd : decide ((done.length : Int) < (xs.length : Int)) = true := decide_eq_true i7
                rw [Hid, decide_eq_true hf] at HV
                have HV2 : Hid (circles14 xs = true) := HV
                clear HV hf
                go_wp2
                go_ret
                rw [HV2.out]
                exact ⟨rfl, HBf.out⟩
              · have i7 : ¬ (done.length : Int) < (xs.length : Int) := by omega
                have hd : decide ((done.length : Int) < (xs.length : Int)) = false := decide_eq_false i7
                rw [Hid, decide_eq_false hf] at HV
                have HV2 : Hid (circles14 xs = false) := HV
                clear HV hf
                go_wp2
                go_ret
                rw [HV2.out]
                exact ⟨rfl, HBf.out⟩

end Go.Proofs.Ytpcfcheicdnogaa
