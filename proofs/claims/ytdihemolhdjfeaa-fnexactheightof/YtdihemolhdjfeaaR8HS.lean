/- The specification's HeightOf. -/
import Derived.Test.YtdihemolhdjfeaaR8H
import Derived.Test.YtdihemolhdjfeaaXSize
namespace Go.Proofs.Ytdihemolhdjfeaa
open Go.RowKit
set_option linter.unusedVariables false

theorem getD_lt8 {hs : List Int} {q : Nat} (h : q < hs.length) : hs.getD q 0 = hs[q] := by
  rw [List.getD_eq_getElem?_getD, List.getElem?_eq_getElem h]; rfl

set_option maxHeartbeats 6400000 in
set_option maxRecDepth 100000 in
theorem specHeight_any (v : Value) (xs : List TNodeD) (w : World) (hn : treeTot xs ≤ 1048576) (h : RowC 6 TreeNodeE w v xs) :
    Calls Try.prog 13 #[.agg #[v]] w fun e w' => e = .returned (.int .i64 (heightB xs)) ∧ Below w.heap.size w w' := by
  obtain ⟨i0, hi, hz0, hz1, hz2⟩ := info_parts Try.infoInt5
  have hnl : xs.length ≤ 1048576 := Nat.le_trans (rowTot_len treeNodeTot xs) hn
  have HKn : Hid (∀ i (h : i < xs.length), xs[i].kids.length ≤ 1048576) := fun i h => by
    have h1 := rowTot_mem treeNodeTot (List.getElem_mem h)
    have h2 : treeNodeTot xs[i] = xs[i].args.length + xs[i].kids.length := rfl
    have h3 : treeTot xs = rowTot treeNodeTot xs := rfl
    omega
  obtain ⟨a, cap, rfl⟩ := h.slice
  have B0 : Hid (Below w.heap.size w (w.alloc (.cells #[.slice a xs.length cap] 37))) := (Below.refl _ _).alloc (Nat.le_refl _) _
  have HR : Hid (RowC 6 TreeNodeE (w.alloc (.cells #[.slice a xs.length cap] 37)) (.slice a xs.length cap) xs) := RowC.below TreeNodeE_stable h B0.out
  have E0 : Hid ((w.alloc (.cells #[.slice a xs.length cap] 37)).cell? ⟨w.heap.size, 0, none⟩ = some (.slice a xs.length cap)) := lit_one _ _ _
  have HS0 : Hid ((w.alloc (.cells #[.slice a xs.length cap] 37)).heap.size = w.heap.size + 1) := by rw [Hid]; simp
  clear h hn
  go_enter Try.func13, Try.ntmps13
  go_wp2
  generalize w.alloc (.cells #[.slice a xs.length cap] 37) = w0 at *
  go_loopw [3, 4] (fun ov iv wr => ∃ (k : Nat) (hs : List Int), iv = .int .i64 k ∧ k ≤ xs.length ∧ hs.length = k ∧ (∀ y ∈ hs, 0 ≤ y ∧ y ≤ k) ∧ highsB hs (xs.drop k) = highsB [] xs ∧ OwnZ w0.heap.size ov hs wr ∧ Below w0.heap.size w0 wr) (fun _ iv _ => xs.length - (intOf iv).toNat)
  case atStart => exact ⟨0, [], rfl, Nat.zero_le _, rfl, by simp, rfl, by rw [← HS0.out]; exact World.ownsRow_made _ _ _ (Nat.le_refl _) (by decide) rfl, (Below.refl _ _).alloc (Nat.le_refl _) _⟩
  case round =>
    obtain ⟨k, hs, rfl, hk, hhl, hin, hF, hown, hbw⟩ := hrel
    have HO : Hid (OwnZ w0.heap.size u3 hs wr) := hown
    have HB : Hid (Below w0.heap.size w0 wr) := hbw
    have HIn : Hid (∀ y ∈ hs, 0 ≤ y ∧ y ≤ k) := hin
    have HF : Hid (highsB hs (xs.drop k) = highsB [] xs) := hF
    have hE := cell_keep E0.out hbw
    have hBf : Hid (Below w.heap.size w wr) := B0.out.trans (hbw.mono B0.out.size)
    have hfl : hs.length ≤ k := by omega
    have hfm : k ≤ hs.length := by omega
    clear hown hbw hin hF hhl
    by_cases hlt : k < xs.length
    · obtain ⟨b, off, vs, rfl, _, hc, hEl⟩ := (RowC.below TreeNodeE_stable HR.out HB.out).at hlt
      obtain ⟨r0, r1, rfl, hA, hI⟩ := hEl
      have n5 : wr.cell? ⟨b, off + k * 6 + 5, none⟩ = some r1 := hc 5 (by simp)
      have HD : Hid (_ = _) := highsB_drop hs xs k hlt
      have hkl := HKn.out k hlt
      obtain ⟨ak, ck, rfl⟩ := hI.slice
      have HI : Hid (IRow wr (.slice ak xs[k].kids.length ck) xs[k].kids) := hI
      have i4 : (k : Int) < (xs.length : Int) := by omega
      clear hI hc hA
      generalize xs[k].kids = ks at *
      obtain ⟨az, cz, rfl⟩ := HO.out.row.slice
      have hin1 : Hid (∀ W x, Calls Try.prog 17 #[.int .i64 x, .int .i64 0, .int .i64 ((k : Int) - 1)] W fun e w' => e = .returned (.bool (decide (0 ≤ x ∧ x ≤ (k : Int) - 1))) ∧ w' = W) := fun W x => in_any x 0 ((k : Int) - 1) W
      have wk1 : IntKind.i64.wrap ((k : Int) - 1) = (k : Int) - 1 := by rw [IntKind.wrap_i64]; omega
      go_wp2
      go_loopw [5, 6] (fun nv jv ww => ∃ (j : Nat) (n : Int), nv = .int .i64 n ∧ jv = .int .i64 j ∧ j ≤ ks.length ∧ 0 ≤ n ∧ n ≤ k ∧ kidH hs n (ks.drop j) = kidH hs 0 ks ∧ ww = wr) (fun _ jv _ => ks.length - (intOf jv).toNat)
      case atStart => exact ⟨0, 0, rfl, rfl, Nat.zero_le _, by omega, by omega, rfl, rfl⟩
      case round =>
        obtain ⟨j, n, rfl, rfl, hj, hn0, hn1, hG, hww⟩ := hrel
        rw [hww]
        clear hww
        have HG : Hid (kidH hs n (ks.drop j) = kidH hs 0 ks) := hG
        clear hG
        by_cases hjl : j < ks.length
        · obtain ⟨bk, offk, rfl, hck⟩ := HI.out.at hjl
          have HDj : Hid (_ = _) := kidH_drop hs n ks j hjl
          have i5 : (j : Int) < (ks.length : Int) := by omega
          have HI1 : Hid (∀ W, _) := fun W => hin1.out W ks[j]
          generalize ks[j] = z at *
          by_cases hz : 0 ≤ z ∧ z ≤ (k : Int) - 1
          · rw [decide_eq_true hz] at HI1
            have hz' : 0 ≤ z ∧ z ≤ (hs.length : Int) - 1 := by omega
            rw [if_pos hz', HG.out] at HDj
            obtain ⟨q, rfl⟩ := Int.eq_ofNat_of_zero_le hz.1
            rw [Int.toNat_natCast] at HDj
            have hqz : q < hs.length := by omega
            rw [getD_lt8 hqz] at HDj
            obtain ⟨bs, offs, rfl, hcs⟩ := HO.out.row.at hqz
            have hy := HIn.out _ (List.getElem_mem hqz)
            have i6 : (q : Int) < (hs.length : Int) := by omega
            generalize hs[q] = y at *
            clear hz hz'
            by_cases hgt : n < y
            · rw [if_pos hgt] at HDj
              go_wp2_with (go_at_call 17; refine (HI1.out _).mono ?_; rintro e wq ⟨rfl, hw⟩; rw [hw]; clear hw)
              go_roundw
              case rel => exact ⟨j + 1, y, rfl, by go_num, by omega, hy.1, hy.2, HDj.out.symm, by first | trivial | rfl⟩
              case measure => simp [intOf]; omega
            · rw [if_neg hgt] at HDj
              go_wp2_with (go_at_call 17; refine (HI1.out _).mono ?_; rintro e wq ⟨rfl, hw⟩; rw [hw]; clear hw)
              go_roundw
              case rel => exact ⟨j + 1, n, rfl, by go_num, by omega, hn0, hn1, HDj.out.symm, by first | trivial | rfl⟩
              case measure => simp [intOf]; omega
          · rw [decide_eq_false hz] at HI1
            have hz' : ¬ (0 ≤ z ∧ z ≤ (hs.length : Int) - 1) := by omega
            rw [if_neg hz', HG.out] at HDj
            have HV : Hid (heightB xs = 0) := by
              rw [Hid, heightB, ← HF.out, HD.out, HDj.out]
            clear hz hz'
            go_wp2_with (go_at_call 17; refine (HI1.out _).mono ?_; rintro e wq ⟨rfl, hw⟩; rw [hw]; clear hw)
            go_ret
            rw [HV.out]
            exact ⟨rfl, hBf.out⟩
        · obtain rfl : j = ks.length := by omega
          have HK : Hid (kidH hs 0 ks = some n) := by
            rw [Hid, ← HG.out, List.drop_of_length_le (Nat.le_refl _)]; rfl
          have HN : Hid (highsB (hs ++ [n + 1]) (xs.drop (k + 1)) = highsB [] xs) := by
            rw [Hid, ← HF.out, HD.out, HK.out]
          have i5 : ¬ (ks.length : Int) < (ks.length : Int) := by omega
          have w1 : IntKind.i64.wrap (n + 1) = n + 1 := by rw [IntKind.wrap_i64]; omega
          go_wp2_with (at_builtin; refine wpList_append_own _ rfl _ _ 47 rfl w0.heap.size 3 i0 _ 1 8 Try.underlying47 hi hz0 hz1 hz2 rfl (by decide) _ _ _ rfl (World.ownsRow.alloc HO.out _) ⟨_, 0, none⟩ 1 1 [.int .i64 (n + 1)] rfl rfl (cell_one_new _ _ _) (one_cellZ _) (by unfold maxLen; omega) (by omega) (by have h8 := HB.out.size; simp; omega) ?_)
          intro v' w2 hown2 hgrow _
          have R := ownZ_snoc hown2 HO.out hgrow rfl HB.out
          clear hown2 hgrow
          go_wp2
          go_roundw
          case rel =>
            refine ⟨k + 1, hs ++ [n + 1], by go_num, by omega, by simp; omega, fun y hy => ?_, HN.out, R.1, R.2⟩
            rcases List.mem_append.1 hy with hy | hy
            · have := HIn.out y hy
              omega
            · rw [List.mem_singleton.1 hy]
              omega
          case measure => simp [intOf]; omega
    · obtain rfl : k = xs.length := by omega
      have HV : Hid (heightB xs = lastI hs) := by
        rw [Hid, heightB, ← HF.out, List.drop_of_length_le (Nat.le_refl _)]; rfl
      have i4 : ¬ (xs.length : Int) < (xs.length : Int) := by omega
      obtain ⟨az, cz, rfl⟩ := HO.out.row.slice
      by_cases h0 : hs.length = 0
      · have HV0 : Hid (heightB xs = 0) := by
          rw [Hid, HV.out, lastI, List.length_eq_zero_iff.1 h0]; rfl
        have i5 : ((hs.length : Int) == 0) = true := by simp [h0]
        go_wp2
        go_ret
        rw [HV0.out]
        exact ⟨rfl, hBf.out⟩
      · have hqz : hs.length - 1 < hs.length := by omega
        obtain ⟨bs, offs, rfl, hcs⟩ := HO.out.row.at hqz
        have HG : Hid (heightB xs = hs[hs.length - 1]) := by rw [Hid, HV.out, lastI, getD_lt8 hqz]
        have i5 : ((hs.length : Int) == 0) = false := by rw [beq_eq_false_iff_ne]; omega
        have i6 : IntKind.i64.wrap ((hs.length : Int) - 1) = ((hs.length - 1 : Nat) : Int) := by rw [IntKind.wrap_i64]; omega
        have i7 : ((hs.length - 1 : Nat) : Int) < (hs.length : Int) := by omega
        go_wp2
        go_ret
        exact ⟨by rw [HG.out]; rfl, hBf.out⟩

end Go.Proofs.Ytdihemolhdjfeaa
