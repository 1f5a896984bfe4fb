/- The program's mayBeTold. -/
import Derived.Test.YtdihemolhdjfeaaR8TS
import Derived.Test.YtdihemolhdjfeaaR8TP
import Derived.Test.YtdihemolhdjfeaaR8A
namespace Go.Proofs.Ytdihemolhdjfeaa
open Go.RowKit
set_option linter.unusedVariables false

theorem isPlaceR (p : Int) (a : Option Addr) (n c : Nat) (w : World) :
    Calls Try.prog 32 #[.int .i64 p, .slice a n c] w fun e w' => e = .returned (.bool (decide (0 ≤ p ∧ p < (n : Int)))) ∧ w' = w := by
  by_cases h0 : 0 ≤ p
  · by_cases h1 : p < (n : Int)
    · rw [decide_eq_true ⟨h0, h1⟩]
      go_enter Try.func32, Try.ntmps32
      go_wp2
      go_ret
      exact ⟨rfl, rfl⟩
    · rw [decide_eq_false (by omega)]
      go_enter Try.func32, Try.ntmps32
      go_wp2
      go_ret
      exact ⟨rfl, rfl⟩
  · rw [decide_eq_false (by omega)]
    go_enter Try.func32, Try.ntmps32
    go_wp2
    go_ret
    exact ⟨rfl, rfl⟩

/-- The texts' lengths. -/
def lens8 (ts : List ByteArray) : List Int := ts.map fun t => (t.size : Int)
theorem lens8_len (ts : List ByteArray) : (lens8 ts).length = ts.length := List.length_map _
theorem lens8_at {ts : List ByteArray} {q : Nat} (h : q < (lens8 ts).length) : (lens8 ts)[q] = ((ts.getD q ⟨#[]⟩).size : Int) := by
  have h' : q < ts.length := by rw [← lens8_len]; exact h
  rw [getD_ltB h']
  simp [lens8]
theorem lens8_snoc (ts : List ByteArray) (s : ByteArray) : lens8 (ts ++ [s]) = lens8 ts ++ [(s.size : Int)] := by simp [lens8]
theorem gk4 {W W' : World} {a b c d : Addr} {x y z u : Value} (h : W.cell? a = some x ∧ W.cell? b = some y ∧ W.cell? c = some z ∧ W.cell? d = some u) (hb : Below W.heap.size W W') : W'.cell? a = some x ∧ W'.cell? b = some y ∧ W'.cell? c = some z ∧ W'.cell? d = some u :=
  ⟨cell_keep h.1 hb, cell_keep h.2.1 hb, cell_keep h.2.2.1 hb, cell_keep h.2.2.2 hb⟩

set_option maxHeartbeats 6400000 in
set_option maxRecDepth 100000 in
theorem mayTold_any (gv v : Value) (g : List RuleD) (xs : List TNodeD) (w : World) (hg : grammarTot g ≤ 1048576) (hn : treeTot xs ≤ 1048576) (h' : RowC 3 RuleE w gv g) (h : RowC 6 TreeNodeE w v xs) :
    Calls Try.prog 20 #[.agg #[gv], .agg #[v]] w fun e w' => e = .returned (.bool (mayB g xs)) ∧ Below w.heap.size w w' := by
  obtain ⟨i0, hi, hz0, hz1, hz2⟩ := info_parts Try.infoInt5
  have hnl : xs.length ≤ 1048576 := Nat.le_trans (rowTot_len treeNodeTot xs) hn
  have hgl : g.length ≤ 1048576 := Nat.le_trans (rowTot_len ruleTot g) hg
  have HKn : Hid (∀ i (h : i < xs.length), xs[i].kids.length ≤ 1048576) := fun i h => by
    have h1 := rowTot_mem treeNodeTot (List.getElem_mem h)
    have h2 : treeNodeTot xs[i] = xs[i].args.length + xs[i].kids.length := rfl
    have h3 : treeTot xs = rowTot treeNodeTot xs := rfl
    omega
  have HNm : Hid (∀ i (h : i < g.length), g[i].name.size ≤ 1048576) := fun i h => by
    have h1 := rowTot_mem ruleTot (List.getElem_mem h)
    have h2 : ruleTot g[i] = g[i].name.size + rowTot ByteArray.size g[i].params + rowTot altTot g[i].alts := rfl
    have h3 : grammarTot g = rowTot ruleTot g := rfl
    omega
  obtain ⟨a, cap, rfl⟩ := h.slice
  obtain ⟨ag, cg, rfl⟩ := h'.slice
  have B0 : Hid (Below w.heap.size w ((w.alloc (.cells #[.slice ag g.length cg] 33)).alloc (.cells #[.slice a xs.length cap] 37))) := ((Below.refl _ _).alloc (Nat.le_refl _) _).alloc (by simp) _
  have HR : Hid (RowC 6 TreeNodeE ((w.alloc (.cells #[.slice ag g.length cg] 33)).alloc (.cells #[.slice a xs.length cap] 37)) (.slice a xs.length cap) xs) := RowC.below TreeNodeE_stable h B0.out
  have HG : Hid (RowC 3 RuleE ((w.alloc (.cells #[.slice ag g.length cg] 33)).alloc (.cells #[.slice a xs.length cap] 37)) (.slice ag g.length cg) g) := RowC.below RuleE_stable h' B0.out
  have E0 : Hid (((w.alloc (.cells #[.slice ag g.length cg] 33)).alloc (.cells #[.slice a xs.length cap] 37)).cell? ⟨w.heap.size, 0, none⟩ = some (.slice ag g.length cg)) := box_two _ _ _ _ _ 0 _ rfl
  have e1 : ((w.alloc (.cells #[.slice ag g.length cg] 33)).alloc (.cells #[.slice a xs.length cap] 37)).cell? ⟨w.heap.size + 1, 0, none⟩ = some (.slice a xs.length cap) := box_two' _ _ _ _ _ 0 _ rfl
  have HS0 : Hid (((w.alloc (.cells #[.slice ag g.length cg] 33)).alloc (.cells #[.slice a xs.length cap] 37)).heap.size = w.heap.size + 1 + 1) := by rw [Hid]; simp
  clear h h' hn hg
  go_enter Try.func20, Try.ntmps20
  go_wp2_with (at_make; refine wpList_make_own _ rfl _ _ 47 rfl ((w.alloc (.cells #[.slice ag g.length cg] 33)).alloc (.cells #[.slice a xs.length cap] 37)).heap.size 3 i0 _ 1 Try.underlying47 hi hz0 hz1 .i64 .i64 _ xs.length rfl rfl rfl (by rw [hz2]; omega) (by unfold maxLen; omega) (Nat.le_refl _) ?_; intro w1 hown hg1; have HB1 : Hid (Below _ _ w1) := (Below.refl _ _).grown hg1 (Nat.le_refl _) (fun k h => by cases h); have e2 := cell_keep e1 HB1.out)
  rw [HS0.out] at hown
  generalize (w.alloc (.cells #[.slice ag g.length cg] 33)).alloc (.cells #[.slice a xs.length cap] 37) = w0 at *
  have HO0 : Hid (OwnZ w0.heap.size (.slice (some ⟨w.heap.size + 1 + 1, 0, none⟩) 0 xs.length) [] w1) := by rw [Hid, HS0.out]; exact hown
  clear hown hg1
  go_loopw [5, 18] (fun ov iv wr => ∃ (k : Nat) (ts : List ByteArray), iv = .int .i64 k ∧ k ≤ xs.length ∧ ts.length = k ∧ (∀ y ∈ ts, y.size ≤ 2000) ∧ textsB g ts (xs.drop k) = textsB g [] xs ∧ OwnZ w0.heap.size ov (lens8 ts) wr ∧ Below w0.heap.size w0 wr) (fun _ iv _ => xs.length - (intOf iv).toNat)
  case atStart => exact ⟨0, [], rfl, Nat.zero_le _, rfl, by simp, rfl, HO0.out, HB1.out⟩
  case round =>
    obtain ⟨k, ts, rfl, hk, hhl, hin, hF, hown, hbw⟩ := hrel
    have HO : Hid (OwnZ w0.heap.size u5 (lens8 ts) wr) := hown
    have HB : Hid (Below w0.heap.size w0 wr) := hbw
    have HIn : Hid (∀ y ∈ ts, y.size ≤ 2000) := hin
    have HF : Hid (textsB g ts (xs.drop k) = textsB g [] xs) := hF
    have hE := cell_keep E0.out hbw
    have hE1 := cell_keep e1 hbw
    have hBf : Hid (Below w.heap.size w wr) := B0.out.trans (hbw.mono B0.out.size)
    have hfl : (lens8 ts).length ≤ k := by rw [lens8_len]; omega
    have hfm : k ≤ (lens8 ts).length := by rw [lens8_len]; omega
    have HTL : Hid (ts.length = k) := hhl
    clear hown hbw hin hF hhl
    by_cases hlt : k < xs.length
    · obtain ⟨b, off, vs, rfl, _, hc, hEl⟩ := (RowC.below TreeNodeE_stable HR.out HB.out).at hlt
      obtain ⟨r0, r1, rfl, hA, hI⟩ := hEl
      have n0 : wr.cell? ⟨b, off + k * 6, none⟩ = some (.int .i64 xs[k].rule) := hc 0 (by simp)
      have n1 : wr.cell? ⟨b, off + k * 6 + 1, none⟩ = some (.int .i64 xs[k].alt) := hc 1 (by simp)
      have n2 : wr.cell? ⟨b, off + k * 6 + 2, none⟩ = some r0 := hc 2 (by simp)
      have n3 : wr.cell? ⟨b, off + k * 6 + 3, none⟩ = some (.int .i64 xs[k].frm) := hc 3 (by simp)
      have n4 : wr.cell? ⟨b, off + k * 6 + 4, none⟩ = some (.int .i64 xs[k].upto) := hc 4 (by simp)
      have n5 : wr.cell? ⟨b, off + k * 6 + 5, none⟩ = some r1 := hc 5 (by simp)
      have HD : Hid (_ = _) := textsB_drop g ts xs k hlt
      have hkl := HKn.out k hlt
      obtain ⟨a2, c2, rfl⟩ := hA.slice
      obtain ⟨ak, ck, rfl⟩ := hI.slice
      have HI : Hid (IRow wr (.slice ak xs[k].kids.length ck) xs[k].kids) := hI
      have i4 : (k : Int) < (xs.length : Int) := by omega
      clear hI hc hA
      obtain ⟨az, cz, rfl⟩ := HO.out.row.slice
      have bal : Hid (Below wr.heap.size wr (wr.alloc (.cells #[.int .i64 xs[k].rule, .int .i64 xs[k].alt, .slice a2 xs[k].args.length c2, .int .i64 xs[k].frm, .int .i64 xs[k].upto, .slice ak xs[k].kids.length ck] 49))) := (Below.refl _ _).alloc (Nat.le_refl _) _
      have hF0 := cell_keep hE bal.out
      have hF1 := cell_keep hE1 bal.out
      have hX0 : (wr.alloc (.cells #[.int .i64 xs[k].rule, .int .i64 xs[k].alt, .slice a2 xs[k].args.length c2, .int .i64 xs[k].frm, .int .i64 xs[k].upto, .slice ak xs[k].kids.length ck] 49)).cell? ⟨wr.heap.size, 0, none⟩ = some (.int .i64 xs[k].rule) := box_at _ _ _ 0 _ rfl
      have hX5 : (wr.alloc (.cells #[.int .i64 xs[k].rule, .int .i64 xs[k].alt, .slice a2 xs[k].args.length c2, .int .i64 xs[k].frm, .int .i64 xs[k].upto, .slice ak xs[k].kids.length ck] 49)).cell? ⟨wr.heap.size, 5, none⟩ = some (.slice ak xs[k].kids.length ck) := box_at _ _ _ 5 _ rfl
      have HB2 : Hid (Below w0.heap.size w0 (wr.alloc (.cells #[.int .i64 xs[k].rule, .int .i64 xs[k].alt, .slice a2 xs[k].args.length c2, .int .i64 xs[k].frm, .int .i64 xs[k].upto, .slice ak xs[k].kids.length ck] 49))) := HB.out.trans (bal.out.mono HB.out.size)
      have HO2 : Hid (OwnZ w0.heap.size (.slice az (lens8 ts).length cz) (lens8 ts) (wr.alloc (.cells #[.int .i64 xs[k].rule, .int .i64 xs[k].alt, .slice a2 xs[k].args.length c2, .int .i64 xs[k].frm, .int .i64 xs[k].upto, .slice ak xs[k].kids.length ck] 49))) := HO.out.below bal.out
      have HI2 : Hid (IRow (wr.alloc (.cells #[.int .i64 xs[k].rule, .int .i64 xs[k].alt, .slice a2 xs[k].args.length c2, .int .i64 xs[k].frm, .int .i64 xs[k].upto, .slice ak xs[k].kids.length ck] 49)) (.slice ak xs[k].kids.length ck) xs[k].kids) := HI.out.below bal.out
      clear bal
      have HIr : Hid (∀ W, _) := fun W => isPlaceR xs[k].rule ag g.length cg W
      have hin1 : Hid (∀ W x, Calls Try.prog 27 #[.int .i64 x, .int .i64 (k : Int)] W fun e w' => e = .returned (.bool (decide (0 ≤ x ∧ x < (k : Int)))) ∧ w' = W) := fun W x => isAhead8 x k W
      go_wp2_with fail
      generalize wr.alloc (.cells #[.int .i64 xs[k].rule, .int .i64 xs[k].alt, .slice a2 xs[k].args.length c2, .int .i64 xs[k].frm, .int .i64 xs[k].upto, .slice ak xs[k].kids.length ck] 49) = W1 at *
      generalize wr.heap.size = bx at *
      clear n0 n1 n2 n3 n4 n5 hE hE1 HO HI HB hBf
      have hBf : Hid (Below w.heap.size w W1) := B0.out.trans (HB2.out.mono B0.out.size)
      generalize xs[k].alt = xal at *
      generalize xs[k].frm = xfr at *
      generalize xs[k].upto = xup at *
      generalize xs[k].kids = ks at *
      generalize xs[k].rule = ru at *
      by_cases hru : 0 ≤ ru ∧ ru < (g.length : Int)
      · rw [decide_eq_true hru] at HIr
        rw [if_pos (by omega : 0 ≤ ru ∧ ru ≤ (g.length : Int) - 1)] at HD
        refine (HIr.out _).mono ?_
        rintro e wq ⟨rfl, hw⟩
        rw [hw]
        clear hw wq
        obtain ⟨rn, rfl⟩ := Int.eq_ofNat_of_zero_le hru.1
        have hrl : rn < g.length := by omega
        rw [Int.toNat_natCast, getD_ltR hrl] at HD
        obtain ⟨b3, off3, vs3, rfl, _, hc3, hE3⟩ := (RowC.below RuleE_stable HG.out HB2.out).at hrl
        obtain ⟨q0, q1, rfl, hP, hAl⟩ := hE3
        have m0 : W1.cell? ⟨b3, off3 + rn * 3, none⟩ = some (.string g[rn].name) := hc3 0 (by simp)
        have hnm := HNm.out rn hrl
        have i5 : (rn : Int) < (g.length : Int) := by omega
        clear hc3 hP hAl hru HIr
        generalize g[rn].name = nm at *
        have hso : (nm ++ openP).size = nm.size + 1 := by rw [ByteArray.size_append]; rfl
        generalize nm ++ openP = s0 at *
        have wa : IntKind.i64.wrap ((nm.size : Int) + 2) = (nm.size : Int) + 2 := by rw [IntKind.wrap_i64]; omega
        have wb : IntKind.i64.wrap ((ks.length : Int) - 1) = (ks.length : Int) - 1 := by rw [IntKind.wrap_i64]; omega
        go_wp2
        go_region_held3 (fun W => W.cell? ⟨w.heap.size, 0, none⟩ = some (.slice (some ⟨b3, off3, none⟩) g.length cg) ∧ W.cell? ⟨bx, 0, none⟩ = some (.int .i64 rn) ∧ W.cell? ⟨b3, off3 + rn * 3, none⟩ = some (.string nm) ∧ W.cell? ⟨bx, 5, none⟩ = some (.slice ak ks.length ck)) (go_keep) (fail)
        have hmx : (if (1 : Int) < (ks.length : Int) then (ks.length : Int) - 1 else 0) = ((ks.length - 1 : Nat) : Int) := by split <;> omega
        rw [hmx]
        have hwm : IntKind.i64.wrap ((nm.size : Int) + 2 + ((ks.length - 1 : Nat) : Int)) = ((nm.size + 2 + (ks.length - 1) : Nat) : Int) := by rw [IntKind.wrap_i64]; omega
        rw [hwm]
        have HL0 : Hid (nm.size + 2 + (ks.length - 1) = s0.size + 1 + ((ks.length - 1) - (0 - 1))) := by rw [Hid]; omega
        clear hmx hwm wa wb
        have hF1' : W1.drew.cell? ⟨w.heap.size + 1, 0, none⟩ = some (.slice (some ⟨b, off, none⟩) xs.length cap) := hF1
        have hX5' : W1.drew.cell? ⟨bx, 5, none⟩ = some (.slice ak ks.length ck) := hX5
        have HB3 : Hid (Below w0.heap.size w0 W1.drew) := bel_drewN HB2.out 1
        have HO3 : Hid (OwnZ w0.heap.size (.slice az (lens8 ts).length cz) (lens8 ts) W1.drew) := HO2.out.below (bel_drewN (Below.refl _ _) 1)
        have HI3 : Hid (IRow W1.drew (.slice ak ks.length ck) ks) := HI2.out.below (bel_drewN (Below.refl _ _) 1)
        have hBf3 : Hid (Below w.heap.size w W1.drew) := bel_drewN hBf.out 1
        clear hF0 hF1 hX0 hX5 HB2 HO2 HI2 hBf m0
        generalize W1.drew = W2 at *
        have hs0 : s0.size ≤ 1048577 := by omega
        generalize nm.size + 2 + (ks.length - 1) = L0 at *
        generalize hnn : ((ks.length - 1 : Nat) : Int) = mx1 at *
        clear hnn
        go_wp2
        go_loopw [8, 47] (fun sv jv ww => ∃ (j L : Nat) (s : ByteArray), sv = .int .i64 L ∧ jv = .int .i64 j ∧ j ≤ ks.length ∧ s.size ≤ 1048577 + 2001 * j ∧ L = s.size + 1 + ((ks.length - 1) - (j - 1)) ∧ kidT ts j s (ks.drop j) = kidT ts 0 s0 ks ∧ ww = W2) (fun _ jv _ => ks.length - (intOf jv).toNat)
        case atStart => exact ⟨0, L0, s0, rfl, rfl, Nat.zero_le _, by omega, HL0.out, rfl, rfl⟩
        case round =>
          obtain ⟨j, L, s, rfl, rfl, hj, hss, hL, hGk, hww⟩ := hrel
          rw [hww]
          clear hww
          have HGk : Hid (kidT ts j s (ks.drop j) = kidT ts 0 s0 ks) := hGk
          have HL : Hid (L = s.size + 1 + ((ks.length - 1) - (j - 1))) := hL
          have hLb : L ≤ 5000000000 := by omega
          clear hGk hL
          by_cases hjl : j < ks.length
          · obtain ⟨bk, offk, rfl, hck⟩ := HI3.out.at hjl
            have HDj : Hid (_ = _) := kidT_drop ts s ks j hjl
            have i6 : (j : Int) < (ks.length : Int) := by omega
            have HI1 : Hid (∀ W, _) := fun W => hin1.out W ks[j]
            generalize ks[j] = z at *
            by_cases hz : 0 ≤ z ∧ z < (k : Int)
            · rw [decide_eq_true hz] at HI1
              have hz' : 0 ≤ z ∧ z ≤ (ts.length : Int) - 1 := by have := HTL.out; omega
              rw [if_pos hz', HGk.out] at HDj
              obtain ⟨q, rfl⟩ := Int.eq_ofNat_of_zero_le hz.1
              rw [Int.toNat_natCast] at HDj
              have hqz : q < (lens8 ts).length := by omega
              obtain ⟨bs, offs, rfl, hcs⟩ := HO3.out.row.at hqz
              rw [lens8_at hqz] at hcs
              have hy : (ts.getD q ⟨#[]⟩).size ≤ 2000 := by
                rw [getD_ltB (by have := HTL.out; omega)]
                exact HIn.out _ (List.getElem_mem _)
              have i7 : (q : Int) < ((lens8 ts).length : Int) := by omega
              have HSz : Hid (∃ s' : ByteArray, kidT ts (j + 1) s' (ks.drop (j + 1)) = kidT ts 0 s0 ks ∧ s'.size ≤ 1048577 + 2001 * (j + 1) ∧ L + (ts.getD q ⟨#[]⟩).size = s'.size + 1 + ((ks.length - 1) - (j + 1 - 1))) := by
                refine ⟨_, HDj.out.symm, ?_, ?_⟩
                · rw [ByteArray.size_append]
                  split
                  · rw [ByteArray.size_append]
                    have : blankP.size = 1 := rfl
                    omega
                  · omega
                · rw [HL.out, ByteArray.size_append]
                  split
                  · rw [ByteArray.size_append]
                    have : blankP.size = 1 := rfl
                    omega
                  · omega
              generalize (ts.getD q ⟨#[]⟩).size = y at *
              have wy : IntKind.i64.wrap ((L : Int) + (y : Int)) = ((L + y : Nat) : Int) := by rw [IntKind.wrap_i64]; omega
              clear hz hz' HL
              go_wp2_with (go_at_call 27; refine (HI1.out _).mono ?_; rintro e wq ⟨rfl, hw⟩; rw [hw]; clear hw)
              go_roundw
              case rel =>
                obtain ⟨s', hs1, hs2, hs3⟩ := HSz.out
                exact ⟨j + 1, L + y, s', by first | rfl | (rw [wy]) | simp, by go_num, by omega, hs2, hs3, hs1, by first | trivial | rfl⟩
              case measure => simp [intOf]; omega
            · rw [decide_eq_false hz] at HI1
              have hz' : ¬ (0 ≤ z ∧ z ≤ (ts.length : Int) - 1) := by have := HTL.out; omega
              rw [if_neg hz', HGk.out] at HDj
              have HV : Hid (mayB g xs = false) := by
                rw [Hid, mayB, ← HF.out, HD.out, HDj.out]
              clear hz hz'
              go_wp2_with (go_at_call 27; refine (HI1.out _).mono ?_; rintro e wq ⟨rfl, hw⟩; rw [hw]; clear hw)
              go_ret
              rw [HV.out]
              exact ⟨rfl, hBf3.out⟩
          · obtain rfl : j = ks.length := by omega
            have HK : Hid (kidT ts 0 s0 ks = some s) := by
              rw [Hid, ← HGk.out, List.drop_of_length_le (Nat.le_refl _)]; rfl
            have hLs : L = (s ++ shutP).size := by
              have h1 := HL.out
              rw [ByteArray.size_append]
              have : shutP.size = 1 := rfl
              omega
            rw [HK.out] at HD
            have i5 : ¬ (ks.length : Int) < (ks.length : Int) := by omega
            by_cases hbig : 2000 < L
            · have HV : Hid (mayB g xs = false) := by
                have := HD.out
                simp only at this
                rw [Hid, mayB, ← HF.out, this, if_pos (by rw [← hLs]; exact hbig)]
              have i8 : (2000 : Int) < (L : Int) := by omega
              clear hLs HL
              go_wp2
              go_ret
              rw [HV.out]
              exact ⟨rfl, hBf3.out⟩
            · have HN : Hid (textsB g (ts ++ [s ++ shutP]) (xs.drop (k + 1)) = textsB g [] xs) := by
                have := HD.out
                simp only at this
                rw [Hid, ← HF.out, this, if_neg (by rw [← hLs]; exact hbig)]
              have HLs : Hid (L = (s ++ shutP).size) := hLs
              have i8 : ¬ (2000 : Int) < (L : Int) := by omega
              clear hLs HL
              go_wp2_with (at_builtin; refine wpList_append_own _ rfl _ _ 47 rfl w0.heap.size 3 i0 _ 1 8 Try.underlying47 hi hz0 hz1 hz2 rfl (by decide) _ _ _ rfl (World.ownsRow.alloc HO3.out _) ⟨_, 0, none⟩ 1 1 [.int .i64 (L : Int)] rfl rfl (cell_one_new _ _ _) (one_cellZ _) (by unfold maxLen; omega) (by omega) (by have h8 := HB3.out.size; simp; omega) ?_)
              intro v' w2 hown2 hgrow _
              have R := ownZ_snoc hown2 HO3.out hgrow rfl HB3.out
              clear hown2 hgrow
              go_wp2
              go_roundw
              case rel =>
                refine ⟨k + 1, ts ++ [s ++ shutP], by go_num, by omega, by have := HTL.out; simp; omega, fun y hy => ?_, HN.out, by rw [lens8_snoc, ← HLs.out]; exact R.1, R.2⟩
                rcases List.mem_append.1 hy with hy | hy
                · exact HIn.out y hy
                · rw [List.mem_singleton.1 hy, ← HLs.out]
                  omega
              case measure => simp [intOf]; omega
      · rw [decide_eq_false hru] at HIr
        rw [if_neg (by omega : ¬ (0 ≤ ru ∧ ru ≤ (g.length : Int) - 1))] at HD
        have HV : Hid (mayB g xs = false) := by
          rw [Hid, mayB, ← HF.out, HD.out]
        refine (HIr.out _).mono ?_
        rintro e wq ⟨rfl, hw⟩
        rw [hw]
        clear hw wq hru
        go_wp2
        go_ret
        rw [HV.out]
        exact ⟨rfl, hBf.out⟩
    · obtain rfl : k = xs.length := by omega
      have HV : Hid (mayB g xs = decide ((0 : Int) < (xs.length : Int))) := by
        rw [Hid, mayB, ← HF.out, List.drop_of_length_le (Nat.le_refl _), textsB]
        simp only
        congr 1
        rw [eq_iff_iff]; omega
      have i4 : ¬ (xs.length : Int) < (xs.length : Int) := by omega
      go_wp2
      go_ret
      refine ⟨?_, hBf.out⟩
      rw [HV.out]
      first | rfl | simp

end Go.Proofs.Ytdihemolhdjfeaa
