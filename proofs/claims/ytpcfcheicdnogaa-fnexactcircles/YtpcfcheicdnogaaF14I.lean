/- The program's CountForest. -/
import Derived.Test.YtpcfcheicdnogaaF14S
namespace Go.Proofs.Ytpcfcheicdnogaa
open Go.RowKit
set_option linter.unusedVariables false

theorem one_cell14 (z : Int) : ∀ u ∈ [Value.int .i64 z], u.oneCell' = true := by
  intro u hu
  rw [List.mem_singleton.1 hu]
  rfl
theorem own14_snoc {B : Nat} {o v' : Value} {ys : List Int} {x : Int} {wr w2 : World} {ob : Obj} (hown2 : w2.ownsRow B 3 1 v' (ys.length + 1) (zv ys ++ [.int .i64 x])) (hown : OwnZ B o ys wr) (hgrow : (wr.alloc ob).grownBy w2 o.ownBlock)
    {w : World} (hw : B = w.heap.size) (hb : Below w.heap.size w wr) : OwnZ B v' (ys ++ [x]) w2 ∧ Below w.heap.size w w2 := by
  subst hw
  refine ⟨?_, ?_⟩
  · rw [OwnZ, List.length_append, zv, List.map_append]
    exact hown2
  · exact (hb.alloc hb.size ob).grown hgrow (by have := hb.size; simp; omega) (fun k hk => (World.ownsRow.lt hown k hk).1)

set_option maxHeartbeats 6400000 in
set_option maxRecDepth 100000 in
theorem higher_any (v cv : Value) (xs : List PartD) (cs : List Int) (w : World) (hn : forestTot xs ≤ 1048576) (hrt : right14 xs = true) (hcl : cs.length = xs.length) (hci : ∀ x ∈ cs, In14 x) (h : RowC 5 PartE w v xs) (hcv : IRow w cv cs) :
    Calls Try.prog 22 #[.agg #[v], cv] w fun e w' => ∃ r, e = .returned r ∧ OwnZ w.heap.size r (higher14 cs xs) w' ∧ Below w.heap.size w w' := by
  obtain ⟨i0, hi, hz0, hz1, hz2⟩ := info_parts Try.infoInt5
  have hnl : xs.length ≤ 1048576 := Nat.le_trans (rowTot_len partTot xs) hn
  have HLn : Hid (∀ i (hi : i < xs.length), _) := fun i hi => ways_len hn i hi
  have HRt : Hid (right14 xs = true) := hrt
  have HCl : Hid (cs.length = xs.length) := hcl
  have HCi : Hid (∀ x ∈ cs, In14 x) := hci
  have hcn : cs.length ≤ 1048576 := by omega
  obtain ⟨a, cap, rfl⟩ := h.slice
  obtain ⟨ac, cc, rfl⟩ := hcv.slice
  have B0 : Hid (Below w.heap.size w (w.alloc (.cells #[.slice a xs.length cap] 29))) := (Below.refl _ _).alloc (Nat.le_refl _) _
  have HR : Hid (RowC 5 PartE (w.alloc (.cells #[.slice a xs.length cap] 29)) (.slice a xs.length cap) xs) := RowC.below PartE_stable h B0.out
  have HC : Hid (IRow (w.alloc (.cells #[.slice a xs.length cap] 29)) (.slice ac cs.length cc) cs) := hcv.below B0.out
  have hE0 : (w.alloc (.cells #[.slice a xs.length cap] 29)).cell? ⟨w.heap.size, 0, none⟩ = some (.slice a xs.length cap) := box_at _ _ _ 0 _ rfl
  have HS0 : Hid ((w.alloc (.cells #[.slice a xs.length cap] 29)).heap.size = w.heap.size + 1) := by rw [Hid]; simp
  clear h hn hcv hrt hci hcl
  go_enter Try.func22, Try.ntmps22
  go_wp2_with (at_make; refine wpList_make_own _ rfl _ _ 36 rfl (w.alloc (.cells #[.slice a xs.length cap] 29)).heap.size 3 i0 _ 1 Try.underlying36 hi hz0 hz1 .i64 .i64 _ cs.length rfl rfl rfl (by rw [hz2]; omega) (by unfold maxLen; omega) (Nat.le_refl _) ?_; intro w1 hown hg1; have HB1 : Hid (Below _ _ w1) := (Below.refl _ _).grown hg1 (Nat.le_refl _) (fun k h => by cases h); have hE1 := cell_keep hE0 HB1.out)
  rw [HS0.out] at hown
  generalize w.alloc (.cells #[.slice a xs.length cap] 29) = w0 at *
  have HO0 : Hid (OwnZ w0.heap.size (.slice (some ⟨w.heap.size + 1, 0, none⟩) 0 cs.length) [] w1) := by rw [Hid, HS0.out]; exact hown
  clear hown hg1 hE1
  go_loopw [5, 20] (fun ov iv wr => ∃ (k : Nat) (hs : List Int), iv = .int .i64 k ∧ k ≤ xs.length ∧ hs = higher14 cs (xs.take k) ∧ OwnZ w0.heap.size ov hs wr ∧ Below w0.heap.size w0 wr) (fun _ iv _ => xs.length - (intOf iv).toNat)
  case atStart => exact ⟨0, [], rfl, Nat.zero_le _, rfl, HO0.out, HB1.out⟩
  case round =>
    obtain ⟨k, hs, rfl, hk, hhs, hown, hbw⟩ := hrel
    obtain ⟨wa, rfl⟩ : ∃ W, W = wr := ⟨wr, rfl⟩
    have HHs : Hid (hs = higher14 cs (xs.take k)) := hhs
    have HO : Hid (OwnZ w0.heap.size u5 hs wa) := hown
    have HB : Hid (Below w0.heap.size w0 wa) := hbw
    have hfl : hs.length ≤ 1048576 := by rw [hhs, higher14_len, List.length_take]; omega
    clear hown hbw hhs
    by_cases hlt : k < xs.length
    · obtain ⟨b, off, vs, rfl, _, hc, hEl⟩ := (RowC.below PartE_stable HR.out HB.out).at hlt
      obtain ⟨r0, r1, rfl, hA, hI⟩ := hEl
      have n0 : wa.cell? ⟨b, off + k * 5, none⟩ = some (.int .i64 xs[k].rule) := hc 0 (by simp)
      have n1 : wa.cell? ⟨b, off + k * 5 + 1, none⟩ = some r0 := hc 1 (by simp)
      have n2 : wa.cell? ⟨b, off + k * 5 + 2, none⟩ = some (.int .i64 xs[k].frm) := hc 2 (by simp)
      have n3 : wa.cell? ⟨b, off + k * 5 + 3, none⟩ = some (.int .i64 xs[k].upto) := hc 3 (by simp)
      have n4 : wa.cell? ⟨b, off + k * 5 + 4, none⟩ = some r1 := hc 4 (by simp)
      have hkl := (HLn.out k hlt).1
      have HKl : Hid (∀ j (hj : j < xs[k].ways.length), xs[k].ways[j].kids.length ≤ 1048576) := (HLn.out k hlt).2.2
      have HPl : Hid (∀ j (hj : j < xs[k].ways.length) t (ht : t < xs[k].ways[j].kids.length), ∃ q : Nat, xs[k].ways[j].kids[t] = (q : Int) ∧ q < xs.length) := fun j hj t ht => place14_at HRt.out hlt hj ht
      have HHx : Hid (higher14 cs (xs.take (k + 1)) = higher14 cs (xs.take k) ++ [sum14 cs 0 xs[k].ways]) := higher14_next cs xs k hlt
      obtain ⟨a0, c0, rfl⟩ := hA.slice
      obtain ⟨aw, cw, rfl⟩ := hI.slice
      have bal : Hid (Below wa.heap.size wa (wa.alloc (.cells #[.int .i64 xs[k].rule, .slice a0 xs[k].args.length c0, .int .i64 xs[k].frm, .int .i64 xs[k].upto, .slice aw xs[k].ways.length cw] 40))) := (Below.refl _ _).alloc (Nat.le_refl _) _
      have hX4 : (wa.alloc (.cells #[.int .i64 xs[k].rule, .slice a0 xs[k].args.length c0, .int .i64 xs[k].frm, .int .i64 xs[k].upto, .slice aw xs[k].ways.length cw] 40)).cell? ⟨wa.heap.size, 4, none⟩ = some (.slice aw xs[k].ways.length cw) := box_at _ _ _ 4 _ rfl
      have HI : Hid (RowC 2 WayE (wa.alloc (.cells #[.int .i64 xs[k].rule, .slice a0 xs[k].args.length c0, .int .i64 xs[k].frm, .int .i64 xs[k].upto, .slice aw xs[k].ways.length cw] 40)) (.slice aw xs[k].ways.length cw) xs[k].ways) := RowC.below WayE_stable hI bal.out
      have HB2 : Hid (Below w0.heap.size w0 (wa.alloc (.cells #[.int .i64 xs[k].rule, .slice a0 xs[k].args.length c0, .int .i64 xs[k].frm, .int .i64 xs[k].upto, .slice aw xs[k].ways.length cw] 40))) := HB.out.trans (bal.out.mono HB.out.size)
      have HO2 : Hid (OwnZ w0.heap.size u5 hs (wa.alloc (.cells #[.int .i64 xs[k].rule, .slice a0 xs[k].args.length c0, .int .i64 xs[k].frm, .int .i64 xs[k].upto, .slice aw xs[k].ways.length cw] 40))) := HO.out.below bal.out
      obtain ⟨az, cz, rfl⟩ := HO.out.row.slice
      have i4 : (k : Int) < (xs.length : Int) := by omega
      clear hI hc hA bal
      go_wp2_with fail
      generalize wa.alloc (.cells #[.int .i64 xs[k].rule, .slice a0 xs[k].args.length c0, .int .i64 xs[k].frm, .int .i64 xs[k].upto, .slice aw xs[k].ways.length cw] 40) = W1 at *
      generalize wa.heap.size = bx at *
      clear n0 n1 n2 n3 n4 HB HO
      generalize xs[k].frm = xfr at *
      generalize xs[k].upto = xup at *
      generalize xs[k].ways = ys at *
      generalize xs[k].rule = xru at *
      generalize xs[k].args.length = xal at *
      go_wp2
      go_loopw [8, 27] (fun sv jv wr => ∃ (j : Nat) (s : Int), sv = .int .i64 s ∧ jv = .int .i64 j ∧ j ≤ ys.length ∧ In14 s ∧ sum14 cs s (ys.drop j) = sum14 cs 0 ys ∧ Below W1.heap.size W1 wr) (fun _ jv _ => ys.length - (intOf jv).toNat)
      case atStart => exact ⟨0, 0, rfl, rfl, Nat.zero_le _, ⟨by decide, by decide⟩, rfl, Below.refl _ _⟩
      case round =>
        obtain ⟨j, s, rfl, rfl, hj, hs2, hS, hbj⟩ := hrel
        obtain ⟨wb, rfl⟩ : ∃ W, W = wr := ⟨wr, rfl⟩
        have HSi : Hid (In14 s) := hs2
        have HS : Hid (sum14 cs s (ys.drop j) = sum14 cs 0 ys) := hS
        have HBj : Hid (Below W1.heap.size W1 wb) := hbj
        clear hs2 hS hbj
        by_cases hjl : j < ys.length
        · obtain ⟨bk, offk, vsk, rfl, _, hck, hEk⟩ := (RowC.below WayE_stable HI.out HBj.out).at hjl
          obtain ⟨rk, rfl, hIk⟩ := hEk
          have m0 : wb.cell? ⟨bk, offk + j * 2, none⟩ = some (.int .i64 ys[j].alt) := hck 0 (by simp)
          have m1 : wb.cell? ⟨bk, offk + j * 2 + 1, none⟩ = some rk := hck 1 (by simp)
          have hkk := HKl.out j hjl
          have HPj : Hid (∀ t (ht : t < ys[j].kids.length), ∃ q : Nat, ys[j].kids[t] = (q : Int) ∧ q < xs.length) := fun t ht => HPl.out j hjl t ht
          have HSx : Hid (sum14 cs s (ys.drop j) = sum14 cs (min (s + rows14 cs 1 ys[j].kids) 1000000) (ys.drop (j + 1))) := sum14_drop cs s ys j hjl
          obtain ⟨ak, ck, rfl⟩ := hIk.slice
          have bal : Hid (Below wb.heap.size wb (wb.alloc (.cells #[.int .i64 ys[j].alt, .slice ak ys[j].kids.length ck] 42))) := (Below.refl _ _).alloc (Nat.le_refl _) _
          have hY1 : (wb.alloc (.cells #[.int .i64 ys[j].alt, .slice ak ys[j].kids.length ck] 42)).cell? ⟨wb.heap.size, 1, none⟩ = some (.slice ak ys[j].kids.length ck) := box_at _ _ _ 1 _ rfl
          have HIk : Hid (IRow (wb.alloc (.cells #[.int .i64 ys[j].alt, .slice ak ys[j].kids.length ck] 42)) (.slice ak ys[j].kids.length ck) ys[j].kids) := hIk.below bal.out
          have HB3 : Hid (Below W1.heap.size W1 (wb.alloc (.cells #[.int .i64 ys[j].alt, .slice ak ys[j].kids.length ck] 42))) := HBj.out.trans (bal.out.mono HBj.out.size)
          have i5 : (j : Int) < (ys.length : Int) := by omega
          clear hIk hck bal
          go_wp2_with fail
          generalize wb.alloc (.cells #[.int .i64 ys[j].alt, .slice ak ys[j].kids.length ck] 42) = W2 at *
          generalize wb.heap.size = by2 at *
          have HCw : Hid (IRow W2 (.slice ac cs.length cc) cs) := (HC.out.below HB2.out).below HB3.out
          clear m0 m1 HBj
          generalize ys[j].alt = yal at *
          generalize ys[j].kids = ks at *
          go_wp2
          go_loopw [11, 34] (fun nv tv wz => ∃ (t : Nat) (n : Int), nv = .int .i64 n ∧ tv = .int .i64 t ∧ t ≤ ks.length ∧ In14 n ∧ rows14 cs n (ks.drop t) = rows14 cs 1 ks ∧ wz = W2) (fun _ tv _ => ks.length - (intOf tv).toNat)
          case atStart => exact ⟨0, 1, rfl, rfl, Nat.zero_le _, ⟨by decide, by decide⟩, rfl, rfl⟩
          case round =>
            obtain ⟨t, n, rfl, rfl, ht, hni, hG, hwz⟩ := hrel
            rw [hwz]
            clear hwz
            have HNi : Hid (In14 n) := hni
            have HG : Hid (rows14 cs n (ks.drop t) = rows14 cs 1 ks) := hG
            clear hni hG
            by_cases htl : t < ks.length
            · obtain ⟨bz, offz, rfl, hcz⟩ := HIk.out.at htl
              obtain ⟨q, hq, hql⟩ := HPj.out t htl
              have HGx : Hid (_ = _) := rows14_drop cs n ks t htl
              rw [hq, Int.toNat_natCast, HG.out] at HGx
              rw [hq] at hcz
              have i6 : (t : Int) < (ks.length : Int) := by omega
              have hqc : q < cs.length := by rw [HCl.out]; exact hql
              have i7 : (q : Int) < (cs.length : Int) := by omega
              obtain ⟨bc, offc, rfl, hcc⟩ := HCw.out.at hqc
              have hMl := in14_mul HNi.out (in14_getD HCi.out q)
              have HMi : Hid (In14 (min (n * cs.getD q 0) 1000000)) := in14_min hMl.1
              have hge : cs.getD q 0 = cs[q] := by rw [List.getD_eq_getElem?_getD, List.getElem?_eq_getElem hqc]; rfl
              rw [← hge] at hcc
              clear hq hge
              generalize cs.getD q 0 = y at *
              have w8 : IntKind.i64.wrap (n * y) = n * y := by rw [IntKind.wrap_i64]; omega
              by_cases hmn : 1000000 < n * y
              · have hmv : min (n * y) 1000000 = 1000000 := by omega
                rw [hmv] at HMi HGx
                clear hMl hmv
                go_wp2
                go_roundw
                case rel => exact ⟨t + 1, _, rfl, by go_num, by omega, HMi.out, HGx.out.symm, by first | trivial | rfl⟩
                case measure => simp [intOf]; omega
              · have hmv : min (n * y) 1000000 = n * y := by omega
                rw [hmv] at HMi HGx
                clear hMl hmv
                go_wp2
                go_roundw
                case rel => exact ⟨t + 1, _, rfl, by go_num, by omega, HMi.out, HGx.out.symm, by first | trivial | rfl⟩
                case measure => simp [intOf]; omega
            · obtain rfl : t = ks.length := by omega
              have HGe : Hid (n = rows14 cs 1 ks) := by
                have := HG.out
                rwa [List.drop_of_length_le (Nat.le_refl _)] at this
              have i6 : ¬ (ks.length : Int) < (ks.length : Int) := by omega
              have HAi : Hid (In14 (min (s + n) 1000000)) := in14_min (by have h1 := HSi.out.1; have h2 := HNi.out.1; omega)
              have HAs : Hid (sum14 cs (min (s + n) 1000000) (ys.drop (j + 1)) = sum14 cs 0 ys) := by
                rw [Hid, ← HS.out, HSx.out, ← HGe.out]
              have w8 : IntKind.i64.wrap (s + n) = s + n := by have h1 := HSi.out.1; have h2 := HNi.out.1; have h3 := HSi.out.2; have h4 := HNi.out.2; rw [IntKind.wrap_i64]; omega
              by_cases hmn : 1000000 < s + n
              · have hmv : min (s + n) 1000000 = 1000000 := by omega
                rw [hmv] at HAi HAs
                clear hmv
                go_wp2
                go_roundw
                case rel => exact ⟨j + 1, _, rfl, by go_num, by omega, HAi.out, HAs.out, HB3.out⟩
                case measure => simp [intOf]; omega
              · have hmv : min (s + n) 1000000 = s + n := by omega
                rw [hmv] at HAi HAs
                clear hmv
                go_wp2
                go_roundw
                case rel => exact ⟨j + 1, _, rfl, by go_num, by omega, HAi.out, HAs.out, HB3.out⟩
                case measure => simp [intOf]; omega
        · obtain rfl : j = ys.length := by omega
          have HSe : Hid (s = sum14 cs 0 ys) := by
            have := HS.out
            rwa [List.drop_of_length_le (Nat.le_refl _)] at this
          have HHn : Hid (hs ++ [s] = higher14 cs (xs.take (k + 1))) := by rw [Hid, HHx.out, HHs.out, HSe.out]
          have HO4 : Hid (OwnZ w0.heap.size (.slice az hs.length cz) hs wb) := HO2.out.below HBj.out
          have HB4 : Hid (Below w0.heap.size w0 wb) := HB2.out.trans (HBj.out.mono HB2.out.size)
          have i5 : ¬ (ys.length : Int) < (ys.length : Int) := by omega
          go_wp2_with (at_builtin; refine wpList_append_own _ rfl _ _ 36 rfl w0.heap.size 3 i0 _ 1 8 Try.underlying36 hi hz0 hz1 hz2 rfl (by decide) _ _ _ rfl (World.ownsRow.alloc HO4.out _) ⟨_, 0, none⟩ 1 1 [.int .i64 s] rfl rfl (cell_one_new _ _ _) (one_cell14 _) (by unfold maxLen; omega) (by omega) (by have h8 := HB4.out.size; simp; omega) ?_)
          intro v' w2 hown2 hgrow _
          have R := own14_snoc hown2 HO4.out hgrow rfl HB4.out
          clear hown2 hgrow
          go_wp2
          go_roundw
          case rel => exact ⟨k + 1, hs ++ [s], by go_num, by omega, HHn.out, R.1, R.2⟩
          case measure => simp [intOf]; omega
    · obtain rfl : k = xs.length := by omega
      have HHe : Hid (hs = higher14 cs xs) := by
        have := HHs.out
        rwa [List.take_length] at this
      have HBf : Hid (Below w.heap.size w wa) := B0.out.trans (HB.out.mono B0.out.size)
      have HOf : Hid (OwnZ w.heap.size u5 hs wa) := HO.out.base B0.out.size
      have i4 : ¬ (xs.length : Int) < (xs.length : Int) := by omega
      go_wp2
      go_ret
      exact ⟨_, rfl, by rw [← HHe.out]; exact HOf.out, HBf.out⟩

set_option maxHeartbeats 6400000 in
set_option maxRecDepth 100000 in
theorem implCount14 (v : Value) (xs : List PartD) (hgt : Int) (w : World) (hn : forestTot xs ≤ 1048576) (h : RowC 5 PartE w v xs) :
    Calls Try.prog 9 #[.agg #[v], .int .i64 hgt] w fun e w' => e = .returned (.int .i64 (count14 xs hgt)) ∧ Below w.heap.size w w' := by
  obtain ⟨i0, hi, hz0, hz1, hz2⟩ := info_parts Try.infoInt5
  have HN : Hid (forestTot xs ≤ 1048576) := hn
  have hnl : xs.length ≤ 1048576 := Nat.le_trans (rowTot_len partTot xs) hn
  obtain ⟨a, cap, rfl⟩ := h.slice
  have B0 : Hid (Below w.heap.size w (w.alloc (.cells #[.slice a xs.length cap] 29))) := (Below.refl _ _).alloc (Nat.le_refl _) _
  have HR : Hid (RowC 5 PartE (w.alloc (.cells #[.slice a xs.length cap] 29)) (.slice a xs.length cap) xs) := RowC.below PartE_stable h B0.out
  have hE0 : (w.alloc (.cells #[.slice a xs.length cap] 29)).cell? ⟨w.heap.size, 0, none⟩ = some (.slice a xs.length cap) := box_at _ _ _ 0 _ rfl
  clear h hn
  by_cases hz : xs.length = 0
  · have HV : Hid (count14 xs hgt = 0) := by rw [Hid, count14, right14, hz]; rfl
    have b0 : ((xs.length : Int) == 0) = true := by simp [hz]
    clear hz
    go_enter Try.func9, Try.ntmps9
    go_wp2
    go_ret
    rw [HV.out]
    exact ⟨rfl, B0.out⟩
  · have b0 : ((xs.length : Int) == 0) = false := by rw [beq_eq_false_iff_ne]; omega
    have HRk : Hid (right14 xs = parts14 xs.length xs) := by rw [Hid, right14, decide_eq_true (by omega), Bool.true_and]
    go_enter Try.func9, Try.ntmps9
    go_wp2_with fail
    generalize w.alloc (.cells #[.slice a xs.length cap] 29) = w0 at *
    go_wp2_with fail
    refine (implRight14 _ xs _ HN.out HR.out).mono ?_
    rintro e w1 ⟨rfl, hb1⟩
    have B1 : Hid (Below w.heap.size w w1) := B0.out.trans (hb1.mono B0.out.size)
    have HR1 : Hid (RowC 5 PartE w1 (.slice a xs.length cap) xs) := RowC.below PartE_stable HR.out hb1
    have hE1 := cell_keep hE0 hb1
    clear hb1 hE0 HR B0
    rw [← HRk.out]
    cases hr : right14 xs with
    | false =>
      have HV : Hid (count14 xs hgt = 0) := by rw [Hid, count14, hr]; rfl
      go_wp2
      go_ret
      rw [HV.out]
      exact ⟨rfl, B1.out⟩
    | true =>
      have HV : Hid (count14 xs hgt = (floors14 xs (min hgt 8).toNat (List.replicate xs.length 0)).getD 0 0) := by rw [Hid, count14, if_pos hr]
      have HRt : Hid (right14 xs = true) := hr
      clear hr HRk
      by_cases h8 : 8 < hgt
      · have hm : min hgt 8 = 8 := by omega
        rw [hm] at HV
        clear hm
        go_wp2_with (at_make; refine wpList_make_full _ rfl _ _ 36 rfl w1.heap.size 3 i0 _ 1 Try.underlying36 hi hz0 hz1 .i64 .i64 _ _ xs.length rfl rfl rfl rfl (by rw [hz2]; omega) (by unfold maxLen; omega) (Nat.le_refl _) ?_; intro w2 hown hg1; rw [zeros_cells] at hown; have HB2 : Hid (Below w1.heap.size w1 w2) := (Below.refl _ _).grown hg1 (Nat.le_refl _) (fun k h => by cases h))
        have HO2 : Hid (OwnZ w1.heap.size (.slice (some ⟨w1.heap.size, 0, none⟩) xs.length xs.length) (List.replicate xs.length 0) w2) := own14_of hown (by simp)
        clear hown hg1
        go_loopw [5, 21] (fun nv iv wr => ∃ (k : Nat) (cs : List Int), iv = .int .i64 k ∧ k ≤ (8 : Int).toNat ∧ cs.length = xs.length ∧ (∀ x ∈ cs, In14 x) ∧ floors14 xs ((8 : Int).toNat - k) cs = floors14 xs (8 : Int).toNat (List.replicate xs.length 0) ∧ OwnZ w1.heap.size nv cs wr ∧ Below w1.heap.size w1 wr) (fun _ iv _ => 8 - (intOf iv).toNat)
        case atStart => exact ⟨0, _, rfl, Nat.zero_le _, by simp, in14_zeros _, rfl, HO2.out, HB2.out⟩
        case round =>
          obtain ⟨k, cs, rfl, hk, hcl, hci, hF, hown, hbw⟩ := hrel
          obtain ⟨wa, rfl⟩ : ∃ W, W = wr := ⟨wr, rfl⟩
          have HCl : Hid (cs.length = xs.length) := hcl
          have HCi : Hid (∀ x ∈ cs, In14 x) := hci
          have HF : Hid (floors14 xs ((8 : Int).toNat - k) cs = floors14 xs (8 : Int).toNat (List.replicate xs.length 0)) := hF
          have HO : Hid (OwnZ w1.heap.size u5 cs wa) := hown
          have HB : Hid (Below w1.heap.size w1 wa) := hbw
          have hE := cell_keep hE1 hbw
          clear hcl hci hF hown hbw
          by_cases hlt : (k : Int) < 8
          · have HFs : Hid (floors14 xs ((8 : Int).toNat - (k + 1)) (higher14 cs xs) = floors14 xs (8 : Int).toNat (List.replicate xs.length 0)) := by
              rw [Hid, ← HF.out, show (8 : Int).toNat - k = ((8 : Int).toNat - (k + 1)) + 1 by omega]
              rfl
            have hk1 : k + 1 ≤ (8 : Int).toNat := by omega
            have hk8 : (k : Int) < 8 := by omega
            obtain ⟨az, cz, rfl⟩ := HO.out.row.slice
            go_wp2_with fail
            refine (higher_any _ _ xs cs _ HN.out HRt.out HCl.out HCi.out (RowC.below PartE_stable HR1.out HB.out) HO.out.row).mono ?_
            rintro e w3 ⟨r, rfl, hor, hb3⟩
            have HO3 : Hid (OwnZ w1.heap.size r (higher14 cs xs) w3) := hor.base HB.out.size
            have HB3 : Hid (Below w1.heap.size w1 w3) := HB.out.trans (hb3.mono HB.out.size)
            clear hor hb3
            go_wp2
            go_roundw
            case rel => exact ⟨k + 1, higher14 cs xs, by go_num, hk1, higher14_len _ _, in14_higher HCi.out xs, HFs.out, HO3.out, HB3.out⟩
            case measure => simp [intOf]; omega
          · have HFe : Hid (count14 xs hgt = cs.getD 0 0) := by
              have := HF.out
              rw [show (8 : Int).toNat - k = 0 by omega] at this
              rw [Hid, HV.out, ← this]
              rfl
            have hp : 0 < cs.length := by rw [HCl.out]; omega
            obtain ⟨az, cz, rfl⟩ := HO.out.row.slice
            obtain ⟨bc, offc, rfl, hcc⟩ := HO.out.row.at hp
            have HBf : Hid (Below w.heap.size w wa) := B1.out.trans (HB.out.mono B1.out.size)
            have i7 : (0 : Int) < (cs.length : Int) := by omega
            have hge : cs.getD 0 0 = cs[0] := by rw [List.getD_eq_getElem?_getD, List.getElem?_eq_getElem hp]; rfl
            rw [← hge, Nat.add_zero] at hcc
            clear hge
            generalize cs.getD 0 0 = y at *
            go_wp2
            go_ret
            rw [HFe.out]
            exact ⟨rfl, HBf.out⟩
      · have hm : min hgt 8 = hgt := by omega
        rw [hm] at HV
        clear hm
        go_wp2_with (at_make; refine wpList_make_full _ rfl _ _ 36 rfl w1.heap.size 3 i0 _ 1 Try.underlying36 hi hz0 hz1 .i64 .i64 _ _ xs.length rfl rfl rfl rfl (by rw [hz2]; omega) (by unfold maxLen; omega) (Nat.le_refl _) ?_; intro w2 hown hg1; rw [zeros_cells] at hown; have HB2 : Hid (Below w1.heap.size w1 w2) := (Below.refl _ _).grown hg1 (Nat.le_refl _) (fun k h => by cases h))
        have HO2 : Hid (OwnZ w1.heap.size (.slice (some ⟨w1.heap.size, 0, none⟩) xs.length xs.length) (List.replicate xs.length 0) w2) := own14_of hown (by simp)
        clear hown hg1
        go_loopw [5, 21] (fun nv iv wr => ∃ (k : Nat) (cs : List Int), iv = .int .i64 k ∧ k ≤ (hgt).toNat ∧ cs.length = xs.length ∧ (∀ x ∈ cs, In14 x) ∧ floors14 xs ((hgt).toNat - k) cs = floors14 xs (hgt).toNat (List.replicate xs.length 0) ∧ OwnZ w1.heap.size nv cs wr ∧ Below w1.heap.size w1 wr) (fun _ iv _ => 8 - (intOf iv).toNat)
        case atStart => exact ⟨0, _, rfl, Nat.zero_le _, by simp, in14_zeros _, rfl, HO2.out, HB2.out⟩
        case round =>
          obtain ⟨k, cs, rfl, hk, hcl, hci, hF, hown, hbw⟩ := hrel
          obtain ⟨wa, rfl⟩ : ∃ W, W = wr := ⟨wr, rfl⟩
          have HCl : Hid (cs.length = xs.length) := hcl
          have HCi : Hid (∀ x ∈ cs, In14 x) := hci
          have HF : Hid (floors14 xs ((hgt).toNat - k) cs = floors14 xs (hgt).toNat (List.replicate xs.length 0)) := hF
          have HO : Hid (OwnZ w1.heap.size u5 cs wa) := hown
          have HB : Hid (Below w1.heap.size w1 wa) := hbw
          have hE := cell_keep hE1 hbw
          clear hcl hci hF hown hbw
          by_cases hlt : (k : Int) < hgt
          · have HFs : Hid (floors14 xs ((hgt).toNat - (k + 1)) (higher14 cs xs) = floors14 xs (hgt).toNat (List.replicate xs.length 0)) := by
              rw [Hid, ← HF.out, show (hgt).toNat - k = ((hgt).toNat - (k + 1)) + 1 by omega]
              rfl
            have hk1 : k + 1 ≤ (hgt).toNat := by omega
            have hk8 : (k : Int) < 8 := by omega
            obtain ⟨az, cz, rfl⟩ := HO.out.row.slice
            go_wp2_with fail
            refine (higher_any _ _ xs cs _ HN.out HRt.out HCl.out HCi.out (RowC.below PartE_stable HR1.out HB.out) HO.out.row).mono ?_
            rintro e w3 ⟨r, rfl, hor, hb3⟩
            have HO3 : Hid (OwnZ w1.heap.size r (higher14 cs xs) w3) := hor.base HB.out.size
            have HB3 : Hid (Below w1.heap.size w1 w3) := HB.out.trans (hb3.mono HB.out.size)
            clear hor hb3
            go_wp2
            go_roundw
            case rel => exact ⟨k + 1, higher14 cs xs, by go_num, hk1, higher14_len _ _, in14_higher HCi.out xs, HFs.out, HO3.out, HB3.out⟩
            case measure => simp [intOf]; omega
          · have HFe : Hid (count14 xs hgt = cs.getD 0 0) := by
              have := HF.out
              rw [show (hgt).toNat - k = 0 by omega] at this
              rw [Hid, HV.out, ← this]
              rfl
            have hp : 0 < cs.length := by rw [HCl.out]; omega
            obtain ⟨az, cz, rfl⟩ := HO.out.row.slice
            obtain ⟨bc, offc, rfl, hcc⟩ := HO.out.row.at hp
            have HBf : Hid (Below w.heap.size w wa) := B1.out.trans (HB.out.mono B1.out.size)
            have i7 : (0 : Int) < (cs.length : Int) := by omega
            have hge : cs.getD 0 0 = cs[0] := by rw [List.getD_eq_getElem?_getD, List.getElem?_eq_getElem hp]; rfl
            rw [← hge, Nat.add_zero] at hcc
            clear hge
            generalize cs.getD 0 0 = y at *
            go_wp2
            go_ret
            rw [HFe.out]
            exact ⟨rfl, HBf.out⟩

end Go.Proofs.Ytpcfcheicdnogaa
