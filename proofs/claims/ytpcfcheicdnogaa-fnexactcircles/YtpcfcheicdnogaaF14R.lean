/- Whether all kids of a forest are places: the specification's and the program's way. -/
import Derived.Test.YtpcfcheicdnogaaF14P
namespace Go.Proofs.Ytpcfcheicdnogaa
open Go.RowKit
set_option linter.unusedVariables false

set_option maxHeartbeats 6400000 in
set_option maxRecDepth 100000 in
theorem specRight14 (v : Value) (xs : List PartD) (w : World) (hn : forestTot xs ≤ 1048576) (h : RowC 5 PartE w v xs) :
    Calls Try.prog 16 #[.agg #[v]] w fun e w' => e = .returned (.bool (right14 xs)) ∧ Below w.heap.size w w' := by
  have hnl : xs.length ≤ 1048576 := Nat.le_trans (rowTot_len partTot xs) hn
  have HLn : Hid (∀ i (hi : i < xs.length), _) := fun i hi => ways_len hn i hi
  obtain ⟨a, cap, rfl⟩ := h.slice
  have B0 : Hid (Below w.heap.size w (w.alloc (.cells #[.slice a xs.length cap] 29))) := (Below.refl _ _).alloc (Nat.le_refl _) _
  have HR : Hid (RowC 5 PartE (w.alloc (.cells #[.slice a xs.length cap] 29)) (.slice a xs.length cap) xs) := RowC.below PartE_stable h B0.out
  have E0 : Hid ((w.alloc (.cells #[.slice a xs.length cap] 29)).cell? ⟨w.heap.size, 0, none⟩ = some (.slice a xs.length cap)) := box_at _ _ _ 0 _ rfl
  clear h hn
  go_enter Try.func16, Try.ntmps16
  go_wp2
  generalize w.alloc (.cells #[.slice a xs.length cap] 29) = w0 at *
  go_loopw [3] (fun iv wr => ∃ (k : Nat), iv = .int .i64 k ∧ k ≤ xs.length ∧ parts14 xs.length (xs.take k) = true ∧ Below w0.heap.size w0 wr) (fun iv _ => xs.length - (intOf iv).toNat)
  case atStart => exact ⟨0, rfl, Nat.zero_le _, rfl, Below.refl _ _⟩
  case round =>
    obtain ⟨k, rfl, hk, hP, hbw⟩ := hrel
    obtain ⟨wa, rfl⟩ : ∃ W, W = wr := ⟨wr, rfl⟩
    have HP : Hid (parts14 xs.length (xs.take k) = true) := hP
    have HB : Hid (Below w0.heap.size w0 wa) := hbw
    have hE := cell_keep E0.out hbw
    clear hP hbw
    by_cases hlt : k < xs.length
    · obtain ⟨b, off, vs, rfl, _, hc, hEl⟩ := (RowC.below PartE_stable HR.out HB.out).at hlt
      obtain ⟨r0, r1, rfl, hA, hI⟩ := hEl
      have n4 : wa.cell? ⟨b, off + k * 5 + 4, none⟩ = some r1 := hc 4 (by simp)
      have hkl := (HLn.out k hlt).1
      have HKl : Hid (∀ j (hj : j < xs[k].ways.length), xs[k].ways[j].kids.length ≤ 1048576) := (HLn.out k hlt).2.2
      have HNx : Hid (parts14 xs.length (xs.take (k + 1)) = ways14 xs.length xs[k].ways) := by
        rw [Hid, parts14, all_next _ xs k hlt, show (xs.take k).all _ = true from HP.out, Bool.true_and]
      have HSt : Hid (ways14 xs.length xs[k].ways = false → parts14 xs.length xs = false) := fun h => all_stop _ hlt h
      obtain ⟨aw, cw, rfl⟩ := hI.slice
      have HI : Hid (RowC 2 WayE wa (.slice aw xs[k].ways.length cw) xs[k].ways) := hI
      have i4 : (k : Int) < (xs.length : Int) := by omega
      clear hI hc hA
      generalize xs[k].ways = ys at *
      go_wp2
      go_loopw [4] (fun jv ww => ∃ (j : Nat), jv = .int .i64 j ∧ j ≤ ys.length ∧ ways14 xs.length (ys.take j) = true ∧ Below wa.heap.size wa ww) (fun jv _ => ys.length - (intOf jv).toNat)
      case atStart => exact ⟨0, rfl, Nat.zero_le _, rfl, Below.refl _ _⟩
      case round =>
        obtain ⟨j, rfl, hj, hW, hbj⟩ := hrel
        obtain ⟨wr1, rfl⟩ : ∃ W, W = wr := ⟨wr, rfl⟩
        have HW : Hid (ways14 xs.length (ys.take j) = true) := hW
        have HBj : Hid (Below wa.heap.size wa wr1) := hbj
        have hE1 := cell_keep hE hbj
        have n41 := cell_keep n4 hbj
        clear hW hbj
        by_cases hjl : j < ys.length
        · obtain ⟨bk, offk, vsk, rfl, _, hck, hEk⟩ := (RowC.below WayE_stable HI.out HBj.out).at hjl
          obtain ⟨rk, rfl, hIk⟩ := hEk
          have m1 : wr1.cell? ⟨bk, offk + j * 2 + 1, none⟩ = some rk := hck 1 (by simp)
          have hkk := HKl.out j hjl
          have HWx : Hid (ways14 xs.length (ys.take (j + 1)) = kids14 xs.length ys[j].kids) := by
            rw [Hid, ways14, all_next _ ys j hjl, show (ys.take j).all _ = true from HW.out, Bool.true_and]
          have HSk : Hid (kids14 xs.length ys[j].kids = false → ways14 xs.length ys = false) := fun h => all_stop _ hjl h
          obtain ⟨ak, ck, rfl⟩ := hIk.slice
          have HIk : Hid (IRow wr1 (.slice ak ys[j].kids.length ck) ys[j].kids) := hIk
          have i5 : (j : Int) < (ys.length : Int) := by omega
          clear hIk hck
          generalize ys[j].kids = ks at *
          go_wp2
          go_loopw [6] (fun tv wz => ∃ (t : Nat), tv = .int .i64 t ∧ t ≤ ks.length ∧ kids14 xs.length (ks.take t) = true ∧ Below wr1.heap.size wr1 wz) (fun tv _ => ks.length - (intOf tv).toNat)
          case atStart => exact ⟨0, rfl, Nat.zero_le _, rfl, Below.refl _ _⟩
          case round =>
            obtain ⟨t, rfl, ht, hK, hbt⟩ := hrel
            obtain ⟨wr2, rfl⟩ : ∃ W, W = wr := ⟨wr, rfl⟩
            have HK : Hid (kids14 xs.length (ks.take t) = true) := hK
            have HBt : Hid (Below wr1.heap.size wr1 wr2) := hbt
            have hE2 := cell_keep hE1 hbt
            clear hK hbt
            by_cases htl : t < ks.length
            · obtain ⟨bz, offz, rfl, hcz⟩ := (HIk.out.below HBt.out).at htl
              have i6 : (t : Int) < (ks.length : Int) := by omega
              have HKx : Hid (kids14 xs.length (ks.take (t + 1)) = place14 xs.length ks[t]) := by
                rw [Hid, kids14, all_next _ ks t htl, show (ks.take t).all _ = true from HK.out, Bool.true_and]
              have HSz : Hid (place14 xs.length ks[t] = false → kids14 xs.length ks = false) := fun h => all_stop _ htl h
              have wk1 : IntKind.i64.wrap ((xs.length : Int) - 1) = (xs.length : Int) - 1 := by rw [IntKind.wrap_i64]; omega
              have HI1 : Hid (∀ W, _) := fun W => in14_any xs.length ks[t] W
              generalize ks[t] = z at *
              cases hz : place14 xs.length z with
              | true =>
                rw [hz] at HI1 HKx
                clear HSz hz
                go_wp2
                go_quiet ((go_at_call 30; refine Calls.quiet_of_same (HI1.out _)))
                go_wp2
                go_roundw
                case rel => exact ⟨t + 1, by go_num, by omega, HKx.out, bel_drewN HBt.out _⟩
                case measure => simp [intOf]; omega
              | false =>
                have HV : Hid (right14 xs = false) := by
                  rw [Hid, right14, HSt.out (HSk.out (HSz.out hz)), Bool.and_false]
                have HBf : Hid (Below w.heap.size w wr2) := B0.out.trans ((HB.out.trans ((HBj.out.trans (HBt.out.mono HBj.out.size)).mono HB.out.size)).mono B0.out.size)
                rw [hz] at HI1
                clear HSz hz HKx
                go_wp2
                go_quiet ((go_at_call 30; refine Calls.quiet_of_same (HI1.out _)))
                go_wp2
                go_ret
                rw [HV.out]
                exact ⟨rfl, bel_drewN HBf.out _⟩
            · obtain rfl : t = ks.length := by omega
              have HKe : Hid (kids14 xs.length ks = true) := by
                have := HK.out
                rwa [List.take_length] at this
              have i6 : ¬ (ks.length : Int) < (ks.length : Int) := by omega
              go_wp2
              go_roundw
              case rel => exact ⟨j + 1, by go_num, by omega, HWx.out.trans HKe.out, HBj.out.trans (HBt.out.mono HBj.out.size)⟩
              case measure => simp [intOf]; omega
        · obtain rfl : j = ys.length := by omega
          have HWe : Hid (ways14 xs.length ys = true) := by
            have := HW.out
            rwa [List.take_length] at this
          have i5 : ¬ (ys.length : Int) < (ys.length : Int) := by omega
          go_wp2
          go_roundw
          case rel => exact ⟨k + 1, by go_num, by omega, HNx.out.trans HWe.out, HB.out.trans (HBj.out.mono HB.out.size)⟩
          case measure => simp [intOf]; omega
    · obtain rfl : k = xs.length := by omega
      have HPe : Hid (parts14 xs.length xs = true) := by
        have := HP.out
        rwa [List.take_length] at this
      have HBf : Hid (Below w.heap.size w wa) := B0.out.trans (HB.out.mono B0.out.size)
      have i4 : ¬ (xs.length : Int) < (xs.length : Int) := by omega
      go_wp2
      go_ret
      rw [show right14 xs = decide (0 < xs.length) by rw [right14, HPe.out, Bool.and_true]]
      exact ⟨rfl, HBf.out⟩

set_option maxHeartbeats 6400000 in
set_option maxRecDepth 100000 in
theorem implRight14 (v : Value) (xs : List PartD) (w : World) (hn : forestTot xs ≤ 1048576) (h : RowC 5 PartE w v xs) :
    Calls Try.prog 21 #[.agg #[v]] w fun e w' => e = .returned (.bool (parts14 xs.length xs)) ∧ Below w.heap.size w w' := by
  have hnl : xs.length ≤ 1048576 := Nat.le_trans (rowTot_len partTot xs) hn
  have HLn : Hid (∀ i (hi : i < xs.length), _) := fun i hi => ways_len hn i hi
  obtain ⟨a, cap, rfl⟩ := h.slice
  have B0 : Hid (Below w.heap.size w (w.alloc (.cells #[.slice a xs.length cap] 29))) := (Below.refl _ _).alloc (Nat.le_refl _) _
  have HR : Hid (RowC 5 PartE (w.alloc (.cells #[.slice a xs.length cap] 29)) (.slice a xs.length cap) xs) := RowC.below PartE_stable h B0.out
  have hE0 : (w.alloc (.cells #[.slice a xs.length cap] 29)).cell? ⟨w.heap.size, 0, none⟩ = some (.slice a xs.length cap) := box_at _ _ _ 0 _ rfl
  clear h hn
  go_enter Try.func21, Try.ntmps21
  go_wp2
  generalize w.alloc (.cells #[.slice a xs.length cap] 29) = w0 at *
  go_loopw [12] (fun iv wr => ∃ (k : Nat), iv = .int .i64 k ∧ k ≤ xs.length ∧ parts14 xs.length (xs.take k) = true ∧ Below w0.heap.size w0 wr) (fun iv _ => xs.length - (intOf iv).toNat)
  case atStart => exact ⟨0, rfl, Nat.zero_le _, rfl, Below.refl _ _⟩
  case round =>
    obtain ⟨k, rfl, hk, hP, hbw⟩ := hrel
    obtain ⟨wa, rfl⟩ : ∃ W, W = wr := ⟨wr, rfl⟩
    have HP : Hid (parts14 xs.length (xs.take k) = true) := hP
    have HB : Hid (Below w0.heap.size w0 wa) := hbw
    have hE := cell_keep hE0 hbw
    clear hP hbw
    by_cases hlt : k < xs.length
    · obtain ⟨b, off, vs, rfl, _, hc, hEl⟩ := (RowC.below PartE_stable HR.out HB.out).at hlt
      obtain ⟨r0, r1, rfl, hA, hI⟩ := hEl
      have n0 : wa.cell? ⟨b, off + k * 5, none⟩ = some (.int .i64 xs[k].rule) := hc 0 (by simp)
      have n1 : wa.cell? ⟨b, off + k * 5 + 1, none⟩ = some r0 := hc 1 (by simp)
      have n2 : wa.cell? ⟨b, off + k * 5 + 2, none⟩ = some (.int .i64 xs[k].frm) := hc 2 (by simp)
      have n3 : wa.cell? ⟨b, off + k * 5 + 3, none⟩ = some (.int .i64 xs[k].upto) := hc 3 (by simp)
      have n4 : wa.cell? ⟨b, off + k * 5 + 4, none⟩ = some r1 := hc 4 (by simp)
      have hkl := (HLn.out k hlt).1
      have HKl : Hid (∀ j (hj : j < xs[k].ways.length), xs[k].ways[j].kids.length ≤ 1048576) := (HLn.out k hlt).2.2
      have HNx : Hid (parts14 xs.length (xs.take (k + 1)) = ways14 xs.length xs[k].ways) := by
        rw [Hid, parts14, all_next _ xs k hlt, show (xs.take k).all _ = true from HP.out, Bool.true_and]
      have HSt : Hid (ways14 xs.length xs[k].ways = false → parts14 xs.length xs = false) := fun h => all_stop _ hlt h
      obtain ⟨a0, c0, rfl⟩ := hA.slice
      obtain ⟨aw, cw, rfl⟩ := hI.slice
      have bal : Hid (Below wa.heap.size wa (wa.alloc (.cells #[.int .i64 xs[k].rule, .slice a0 xs[k].args.length c0, .int .i64 xs[k].frm, .int .i64 xs[k].upto, .slice aw xs[k].ways.length cw] 40))) := (Below.refl _ _).alloc (Nat.le_refl _) _
      have hX4 : (wa.alloc (.cells #[.int .i64 xs[k].rule, .slice a0 xs[k].args.length c0, .int .i64 xs[k].frm, .int .i64 xs[k].upto, .slice aw xs[k].ways.length cw] 40)).cell? ⟨wa.heap.size, 4, none⟩ = some (.slice aw xs[k].ways.length cw) := box_at _ _ _ 4 _ rfl
      have HI : Hid (RowC 2 WayE (wa.alloc (.cells #[.int .i64 xs[k].rule, .slice a0 xs[k].args.length c0, .int .i64 xs[k].frm, .int .i64 xs[k].upto, .slice aw xs[k].ways.length cw] 40)) (.slice aw xs[k].ways.length cw) xs[k].ways) := RowC.below WayE_stable hI bal.out
      have HB2 : Hid (Below w0.heap.size w0 (wa.alloc (.cells #[.int .i64 xs[k].rule, .slice a0 xs[k].args.length c0, .int .i64 xs[k].frm, .int .i64 xs[k].upto, .slice aw xs[k].ways.length cw] 40))) := HB.out.trans (bal.out.mono HB.out.size)
      have hE2 := cell_keep hE bal.out
      have i4 : (k : Int) < (xs.length : Int) := by omega
      clear hI hc hA bal
      go_wp2_with fail
      generalize wa.alloc (.cells #[.int .i64 xs[k].rule, .slice a0 xs[k].args.length c0, .int .i64 xs[k].frm, .int .i64 xs[k].upto, .slice aw xs[k].ways.length cw] 40) = W1 at *
      generalize wa.heap.size = bx at *
      clear n0 n1 n2 n3 n4 hE HB
      generalize xs[k].frm = xfr at *
      generalize xs[k].upto = xup at *
      generalize xs[k].ways = ys at *
      generalize xs[k].rule = xru at *
      generalize xs[k].args.length = xal at *
      go_wp2
      go_loopw [19] (fun jv ww => ∃ (j : Nat), jv = .int .i64 j ∧ j ≤ ys.length ∧ ways14 xs.length (ys.take j) = true ∧ Below W1.heap.size W1 ww) (fun jv _ => ys.length - (intOf jv).toNat)
      case atStart => exact ⟨0, rfl, Nat.zero_le _, rfl, Below.refl _ _⟩
      case round =>
        obtain ⟨j, rfl, hj, hW, hbj⟩ := hrel
        obtain ⟨wb, rfl⟩ : ∃ W, W = wr := ⟨wr, rfl⟩
        have HW : Hid (ways14 xs.length (ys.take j) = true) := hW
        have HBj : Hid (Below W1.heap.size W1 wb) := hbj
        have hE3 := cell_keep hE2 hbj
        clear hW hbj
        by_cases hjl : j < ys.length
        · obtain ⟨bk, offk, vsk, rfl, _, hck, hEk⟩ := (RowC.below WayE_stable HI.out HBj.out).at hjl
          obtain ⟨rk, rfl, hIk⟩ := hEk
          have m0 : wb.cell? ⟨bk, offk + j * 2, none⟩ = some (.int .i64 ys[j].alt) := hck 0 (by simp)
          have m1 : wb.cell? ⟨bk, offk + j * 2 + 1, none⟩ = some rk := hck 1 (by simp)
          have hkk := HKl.out j hjl
          have HWx : Hid (ways14 xs.length (ys.take (j + 1)) = kids14 xs.length ys[j].kids) := by
            rw [Hid, ways14, all_next _ ys j hjl, show (ys.take j).all _ = true from HW.out, Bool.true_and]
          have HSk : Hid (kids14 xs.length ys[j].kids = false → ways14 xs.length ys = false) := fun h => all_stop _ hjl h
          obtain ⟨ak, ck, rfl⟩ := hIk.slice
          have bal : Hid (Below wb.heap.size wb (wb.alloc (.cells #[.int .i64 ys[j].alt, .slice ak ys[j].kids.length ck] 42))) := (Below.refl _ _).alloc (Nat.le_refl _) _
          have hY1 : (wb.alloc (.cells #[.int .i64 ys[j].alt, .slice ak ys[j].kids.length ck] 42)).cell? ⟨wb.heap.size, 1, none⟩ = some (.slice ak ys[j].kids.length ck) := box_at _ _ _ 1 _ rfl
          have HIk : Hid (IRow (wb.alloc (.cells #[.int .i64 ys[j].alt, .slice ak ys[j].kids.length ck] 42)) (.slice ak ys[j].kids.length ck) ys[j].kids) := hIk.below bal.out
          have HB3 : Hid (Below W1.heap.size W1 (wb.alloc (.cells #[.int .i64 ys[j].alt, .slice ak ys[j].kids.length ck] 42))) := HBj.out.trans (bal.out.mono HBj.out.size)
          have hE4 := cell_keep hE3 bal.out
          have i5 : (j : Int) < (ys.length : Int) := by omega
          clear hIk hck bal
          go_wp2_with fail
          generalize wb.alloc (.cells #[.int .i64 ys[j].alt, .slice ak ys[j].kids.length ck] 42) = W2 at *
          generalize wb.heap.size = by2 at *
          clear m0 m1 hE3 HBj
          generalize ys[j].alt = yal at *
          generalize ys[j].kids = ks at *
          go_wp2
          go_loopw [26] (fun tv wz => ∃ (t : Nat), tv = .int .i64 t ∧ t ≤ ks.length ∧ kids14 xs.length (ks.take t) = true ∧ wz = W2) (fun tv _ => ks.length - (intOf tv).toNat)
          case atStart => exact ⟨0, rfl, Nat.zero_le _, rfl, rfl⟩
          case round =>
            obtain ⟨t, rfl, ht, hK, hwz⟩ := hrel
            rw [hwz]
            clear hwz
            have HK : Hid (kids14 xs.length (ks.take t) = true) := hK
            clear hK
            by_cases htl : t < ks.length
            · obtain ⟨bz, offz, rfl, hcz⟩ := HIk.out.at htl
              have i6 : (t : Int) < (ks.length : Int) := by omega
              have HKx : Hid (kids14 xs.length (ks.take (t + 1)) = place14 xs.length ks[t]) := by
                rw [Hid, kids14, all_next _ ks t htl, show (ks.take t).all _ = true from HK.out, Bool.true_and]
              have HSz : Hid (place14 xs.length ks[t] = false → kids14 xs.length ks = false) := fun h => all_stop _ htl h
              have HI1 : Hid (∀ W, _) := fun W => isPlaceP ks[t] (some ⟨b, off, none⟩) xs.length cap W
              generalize ks[t] = z at *
              cases hz : place14 xs.length z with
              | true =>
                rw [hz] at HI1 HKx
                clear HSz hz
                go_wp2_with (go_at_call 32; refine (HI1.out _).mono ?_; rintro e wq ⟨rfl, hw⟩; rw [hw]; clear hw)
                go_roundw
                case rel => exact ⟨t + 1, by go_num, by omega, HKx.out, by first | trivial | rfl⟩
                case measure => simp [intOf]; omega
              | false =>
                have HV : Hid (parts14 xs.length xs = false) := HSt.out (HSk.out (HSz.out hz))
                have HBf : Hid (Below w.heap.size w W2) := B0.out.trans ((HB2.out.trans (HB3.out.mono HB2.out.size)).mono B0.out.size)
                rw [hz] at HI1
                clear HSz hz HKx
                go_wp2_with (go_at_call 32; refine (HI1.out _).mono ?_; rintro e wq ⟨rfl, hw⟩; rw [hw]; clear hw)
                go_ret
                rw [HV.out]
                exact ⟨rfl, HBf.out⟩
            · obtain rfl : t = ks.length := by omega
              have HKe : Hid (kids14 xs.length ks = true) := by
                have := HK.out
                rwa [List.take_length] at this
              have i6 : ¬ (ks.length : Int) < (ks.length : Int) := by omega
              go_wp2
              go_roundw
              case rel => exact ⟨j + 1, by go_num, by omega, HWx.out.trans HKe.out, HB3.out⟩
              case measure => simp [intOf]; omega
        · obtain rfl : j = ys.length := by omega
          have HWe : Hid (ways14 xs.length ys = true) := by
            have := HW.out
            rwa [List.take_length] at this
          have i5 : ¬ (ys.length : Int) < (ys.length : Int) := by omega
          go_wp2
          go_roundw
          case rel => exact ⟨k + 1, by go_num, by omega, HNx.out.trans HWe.out, HB2.out.trans (HBj.out.mono HB2.out.size)⟩
          case measure => simp [intOf]; omega
    · obtain rfl : k = xs.length := by omega
      have HPe : Hid (parts14 xs.length xs = true) := by
        have := HP.out
        rwa [List.take_length] at this
      have HBf : Hid (Below w.heap.size w wa) := B0.out.trans (HB.out.mono B0.out.size)
      have i4 : ¬ (xs.length : Int) < (xs.length : Int) := by omega
      go_wp2
      go_ret
      rw [HPe.out]
      exact ⟨rfl, HBf.out⟩

end Go.Proofs.Ytpcfcheicdnogaa
