/- The program's HeightOf. -/
import Derived.Test.YtdihemolhdjfeaaR8HS
import Derived.Test.YtdihemolhdjfeaaR8A
namespace Go.Proofs.Ytdihemolhdjfeaa
open Go.RowKit
set_option linter.unusedVariables false

theorem lastI_snoc (hs : List Int) (n : Int) : lastI (hs ++ [n]) = n := by
  rw [lastI, List.getD_eq_getElem?_getD]
  simp

set_option maxHeartbeats 6400000 in
set_option maxRecDepth 100000 in
theorem implHeight_any (v : Value) (xs : List TNodeD) (w : World) (hn : treeTot xs ≤ 1048576) (h : RowC 6 TreeNodeE w v xs) :
    Calls Try.prog 14 #[.agg #[v]] w fun e w' => e = .returned (.int .i64 (heightB xs)) ∧ Below w.heap.size w w' := by
  obtain ⟨i0, hi, hz0, hz1, hz2⟩ := info_parts Try.infoInt5
  have hnl : xs.length ≤ 1048576 := Nat.le_trans (rowTot_len treeNodeTot xs) hn
  have HKn : Hid (∀ i (h : i < xs.length), xs[i].kids.length ≤ 1048576) := fun i h => by
    have h1 := rowTot_mem treeNodeTot (List.getElem_mem h)
    have h2 : treeNodeTot xs[i] = xs[i].args.length + xs[i].kids.length := rfl
    have h3 : treeTot xs = rowTot treeNodeTot xs := rfl
    omega
  obtain ⟨a, cap, rfl⟩ := h.slice
  have B0 : Hid (Below w.heap.size w (w.alloc (.cells #[.slice a xs.length cap] 37))) := (Below.refl _ _).alloc (Nat.le_refl _) _
  have HR : Hid (RowC 6 TreeNodeE (w.alloc (.cells #[.slice a xs.length cap] 37)) (.slice a xs.length cap) xs) := RowC.below TreeNodeE_stable h B0.out
  have e0 : (w.alloc (.cells #[.slice a xs.length cap] 37)).cell? ⟨w.heap.size, 0, none⟩ = some (.slice a xs.length cap) := lit_one _ _ _
  have HS0 : Hid ((w.alloc (.cells #[.slice a xs.length cap] 37)).heap.size = w.heap.size + 1) := by rw [Hid]; simp
  clear h hn
  go_enter Try.func14, Try.ntmps14
  go_wp2_with (at_make; refine wpList_make_own _ rfl _ _ 47 rfl (w.alloc (.cells #[.slice a xs.length cap] 37)).heap.size 3 i0 _ 1 Try.underlying47 hi hz0 hz1 .i64 .i64 _ xs.length rfl rfl rfl (by rw [hz2]; omega) (by unfold maxLen; omega) (Nat.le_refl _) ?_; intro w1 hown hg1; have HB1 : Hid (Below _ _ w1) := (Below.refl _ _).grown hg1 (Nat.le_refl _) (fun k h => by cases h); have e1 := cell_keep e0 HB1.out)
  rw [HS0.out] at hown
  generalize w.alloc (.cells #[.slice a xs.length cap] 37) = w0 at *
  have HO0 : Hid (OwnZ w0.heap.size (.slice (some ⟨w.heap.size + 1, 0, none⟩) 0 xs.length) [] w1) := by rw [Hid, HS0.out]; exact hown
  clear hown hg1
  go_loopw [3, 4, 16] (fun nv ov iv wr => ∃ (k : Nat) (hs : List Int), nv = .int .i64 (lastI hs) ∧ iv = .int .i64 k ∧ k ≤ xs.length ∧ hs.length = k ∧ (∀ y ∈ hs, 0 ≤ y ∧ y ≤ k) ∧ highsB hs (xs.drop k) = highsB [] xs ∧ OwnZ w0.heap.size ov hs wr ∧ Below w0.heap.size w0 wr) (fun _ _ iv _ => xs.length - (intOf iv).toNat)
  case atStart => exact ⟨0, [], rfl, rfl, Nat.zero_le _, rfl, by simp, rfl, HO0.out, HB1.out⟩
  case round =>
    obtain ⟨k, hs, rfl, rfl, hk, hhl, hin, hF, hown, hbw⟩ := hrel
    have HO : Hid (OwnZ w0.heap.size u4 hs wr) := hown
    have HB : Hid (Below w0.heap.size w0 wr) := hbw
    have HIn : Hid (∀ y ∈ hs, 0 ≤ y ∧ y ≤ k) := hin
    have HF : Hid (highsB hs (xs.drop k) = highsB [] xs) := hF
    have hE := cell_keep e0 hbw
    have hBf : Hid (Below w.heap.size w wr) := B0.out.trans (hbw.mono B0.out.size)
    have hfl : hs.length ≤ k := by omega
    have hfm : k ≤ hs.length := by omega
    clear hown hbw hin hF hhl
    by_cases hlt : k < xs.length
    · obtain ⟨b, off, vs, rfl, _, hc, hEl⟩ := (RowC.below TreeNodeE_stable HR.out HB.out).at hlt
      obtain ⟨r0, r1, rfl, hA, hI⟩ := hEl
      have n0 : wr.cell? ⟨b, off + k * 6, none⟩ = some (.int .i64 xs[k].rule) := hc 0 (by simp)
      have n1 : wr.cell? ⟨b, off + k * 6 + 1, none⟩ = some (.int .i64 xs[k].alt) := hc 1 (by simp)
      have n2 : wr.cell? ⟨b, off + k * 6 + 2, none⟩ = some r0 := hc 2 (by simp)
      have n3 : wr.cell? ⟨b, off + k * 6 + 3, none⟩ = some (.int .i64 xs[k].frm) := hc 3 (by simp)
      have n4 : wr.cell? ⟨b, off + k * 6 + 4, none⟩ = some (.int .i64 xs[k].upto) := hc 4 (by simp)
      have n5 : wr.cell? ⟨b, off + k * 6 + 5, none⟩ = some r1 := hc 5 (by simp)
      have HD : Hid (_ = _) := highsB_drop hs xs k hlt
      have hkl := HKn.out k hlt
      obtain ⟨a2, c2, rfl⟩ := hA.slice
      obtain ⟨ak, ck, rfl⟩ := hI.slice
      have HI : Hid (IRow wr (.slice ak xs[k].kids.length ck) xs[k].kids) := hI
      have i4 : (k : Int) < (xs.length : Int) := by omega
      clear hI hc hA
      obtain ⟨az, cz, rfl⟩ := HO.out.row.slice
      have bal : Hid (Below wr.heap.size wr (wr.alloc (.cells #[.int .i64 xs[k].rule, .int .i64 xs[k].alt, .slice a2 xs[k].args.length c2, .int .i64 xs[k].frm, .int .i64 xs[k].upto, .slice ak xs[k].kids.length ck] 49))) := (Below.refl _ _).alloc (Nat.le_refl _) _
      have hX5 : (wr.alloc (.cells #[.int .i64 xs[k].rule, .int .i64 xs[k].alt, .slice a2 xs[k].args.length c2, .int .i64 xs[k].frm, .int .i64 xs[k].upto, .slice ak xs[k].kids.length ck] 49)).cell? ⟨wr.heap.size, 5, none⟩ = some (.slice ak xs[k].kids.length ck) := box_at _ _ _ 5 _ rfl
      have HB2 : Hid (Below w0.heap.size w0 (wr.alloc (.cells #[.int .i64 xs[k].rule, .int .i64 xs[k].alt, .slice a2 xs[k].args.length c2, .int .i64 xs[k].frm, .int .i64 xs[k].upto, .slice ak xs[k].kids.length ck] 49))) := HB.out.trans (bal.out.mono HB.out.size)
      have HO2 : Hid (OwnZ w0.heap.size (.slice az hs.length cz) hs (wr.alloc (.cells #[.int .i64 xs[k].rule, .int .i64 xs[k].alt, .slice a2 xs[k].args.length c2, .int .i64 xs[k].frm, .int .i64 xs[k].upto, .slice ak xs[k].kids.length ck] 49))) := HO.out.below bal.out
      have HI2 : Hid (IRow (wr.alloc (.cells #[.int .i64 xs[k].rule, .int .i64 xs[k].alt, .slice a2 xs[k].args.length c2, .int .i64 xs[k].frm, .int .i64 xs[k].upto, .slice ak xs[k].kids.length ck] 49)) (.slice ak xs[k].kids.length ck) xs[k].kids) := HI.out.below bal.out
      clear bal
      have hin1 : Hid (∀ W x, Calls Try.prog 27 #[.int .i64 x, .int .i64 (k : Int)] W fun e w' => e = .returned (.bool (decide (0 ≤ x ∧ x < (k : Int)))) ∧ w' = W) := fun W x => isAhead8 x k W
      go_wp2_with fail
      generalize wr.alloc (.cells #[.int .i64 xs[k].rule, .int .i64 xs[k].alt, .slice a2 xs[k].args.length c2, .int .i64 xs[k].frm, .int .i64 xs[k].upto, .slice ak xs[k].kids.length ck] 49) = W1 at *
      generalize wr.heap.size = bx at *
      clear n0 n1 n2 n3 n4 n5 hE HO HI HB hBf
      have hBf : Hid (Below w.heap.size w W1) := B0.out.trans (HB2.out.mono B0.out.size)
      generalize xs[k].alt = xal at *
      generalize xs[k].frm = xfr at *
      generalize xs[k].upto = xup at *
      generalize xs[k].kids = ks at *
      generalize xs[k].rule = ru at *
      go_wp2
      go_loopw [3, 24] (fun nv jv ww => ∃ (j : Nat) (n : Int), nv = .int .i64 (n + 1) ∧ jv = .int .i64 j ∧ j ≤ ks.length ∧ 0 ≤ n ∧ n ≤ k ∧ kidH hs n (ks.drop j) = kidH hs 0 ks ∧ ww = W1) (fun _ jv _ => ks.length - (intOf jv).toNat)
      case atStart => exact ⟨0, 0, rfl, rfl, Nat.zero_le _, by omega, by omega, rfl, rfl⟩
      case round =>
        obtain ⟨j, n, rfl, rfl, hj, hn0, hn1, hG, hww⟩ := hrel
        rw [hww]
        clear hww
        have HG : Hid (kidH hs n (ks.drop j) = kidH hs 0 ks) := hG
        clear hG
        by_cases hjl : j < ks.length
        · obtain ⟨bk, offk, rfl, hck⟩ := HI2.out.at hjl
          have HDj : Hid (_ = _) := kidH_drop hs n ks j hjl
          have i5 : (j : Int) < (ks.length : Int) := by omega
          have HI1 : Hid (∀ W, _) := fun W => hin1.out W ks[j]
          generalize ks[j] = z at *
          by_cases hz : 0 ≤ z ∧ z < (k : Int)
          · rw [decide_eq_true hz] at HI1
            have hz' : 0 ≤ z ∧ z ≤ (hs.length : Int) - 1 := by omega
            rw [if_pos hz', HG.out] at HDj
            obtain ⟨q, rfl⟩ := Int.eq_ofNat_of_zero_le hz.1
            rw [Int.toNat_natCast] at HDj
            have hqz : q < hs.length := by omega
            rw [getD_lt8 hqz] at HDj
            obtain ⟨bs, offs, rfl, hcs⟩ := HO2.out.row.at hqz
            have hy := HIn.out _ (List.getElem_mem hqz)
            have i6 : (q : Int) < (hs.length : Int) := by omega
            generalize hs[q] = y at *
            clear hz hz'
            have wy : IntKind.i64.wrap (1 + y) = 1 + y := by rw [IntKind.wrap_i64]; omega
            by_cases hgt : n < y
            · rw [if_pos hgt] at HDj
              have hmx : n + 1 < 1 + y := by omega
              go_wp2_with (go_at_call 27; refine (HI1.out _).mono ?_; rintro e wq ⟨rfl, hw⟩; rw [hw]; clear hw)
              go_roundw
              case rel => exact ⟨j + 1, y, by first | rfl | (congr 1; omega) | (simp; omega), by go_num, by omega, hy.1, hy.2, HDj.out.symm, by first | trivial | rfl⟩
              case measure => simp [intOf]; omega
            · rw [if_neg hgt] at HDj
              have hmx : ¬ n + 1 < 1 + y := by omega
              go_wp2_with (go_at_call 27; refine (HI1.out _).mono ?_; rintro e wq ⟨rfl, hw⟩; rw [hw]; clear hw)
              go_roundw
              case rel => exact ⟨j + 1, n, by first | rfl | (congr 1; omega) | (simp; omega), by go_num, by omega, hn0, hn1, HDj.out.symm, by first | trivial | rfl⟩
              case measure => simp [intOf]; omega
          · rw [decide_eq_false hz] at HI1
            have hz' : ¬ (0 ≤ z ∧ z ≤ (hs.length : Int) - 1) := by omega
            rw [if_neg hz', HG.out] at HDj
            have HV : Hid (heightB xs = 0) := by
              rw [Hid, heightB, ← HF.out, HD.out, HDj.out]
            clear hz hz'
            go_wp2_with (go_at_call 27; refine (HI1.out _).mono ?_; rintro e wq ⟨rfl, hw⟩; rw [hw]; clear hw)
            go_ret
            rw [HV.out]
            exact ⟨rfl, hBf.out⟩
        · obtain rfl : j = ks.length := by omega
          have HK : Hid (kidH hs 0 ks = some n) := by
            rw [Hid, ← HG.out, List.drop_of_length_le (Nat.le_refl _)]; rfl
          have HN : Hid (highsB (hs ++ [n + 1]) (xs.drop (k + 1)) = highsB [] xs) := by
            rw [Hid, ← HF.out, HD.out, HK.out]
          have i5 : ¬ (ks.length : Int) < (ks.length : Int) := by omega
          go_wp2_with (at_builtin; refine wpList_append_own _ rfl _ _ 47 rfl w0.heap.size 3 i0 _ 1 8 Try.underlying47 hi hz0 hz1 hz2 rfl (by decide) _ _ _ rfl (World.ownsRow.alloc HO2.out _) ⟨_, 0, none⟩ 1 1 [.int .i64 (n + 1)] rfl rfl (cell_one_new _ _ _) (one_cellZ _) (by unfold maxLen; omega) (by omega) (by have h8 := HB2.out.size; simp; omega) ?_)
          intro v' w2 hown2 hgrow _
          have R := ownZ_snoc hown2 HO2.out hgrow rfl HB2.out
          clear hown2 hgrow
          go_wp2
          go_roundw
          case rel =>
            refine ⟨k + 1, hs ++ [n + 1], by rw [lastI_snoc], by go_num, by omega, by simp; omega, fun y hy => ?_, HN.out, R.1, R.2⟩
            rcases List.mem_append.1 hy with hy | hy
            · have := HIn.out y hy
              omega
            · rw [List.mem_singleton.1 hy]
              omega
          case measure => simp [intOf]; omega
    · obtain rfl : k = xs.length := by omega
      have HV : Hid (heightB xs = lastI hs) := by
        rw [Hid, heightB, ← HF.out, List.drop_of_length_le (Nat.le_refl _)]; rfl
      have i4 : ¬ (xs.length : Int) < (xs.length : Int) := by omega
      generalize lastI hs = nl at *
      go_wp2
      go_ret
      exact ⟨by rw [HV.out]; rfl, hBf.out⟩

end Go.Proofs.Ytdihemolhdjfeaa
