/- The program's kidsOf. -/
import Derived.Test.YtpcfcheicdnogaaF14CS
namespace Go.Proofs.Ytpcfcheicdnogaa
open Go.RowKit
set_option linter.unusedVariables false

theorem go14_next (n : Nat) (ys : List WayD) (j : Nat) (h : j < ys.length) : go14 n (ys.take (j + 1)) = go14 n (ys.take j) ++ ys[j].kids.filter (place14 n) := by
  rw [go14, flat14_next ys j h, List.filter_append]
  rfl
theorem go14_room (n : Nat) (ys : List WayD) (j t : Nat) (h : j < ys.length) : (go14 n (ys.take j) ++ (ys[j].kids.take t).filter (place14 n)).length ≤ rowTot wayTot ys := by
  have h1 : (go14 n (ys.take j) ++ (ys[j].kids.take t).filter (place14 n)).length ≤ (go14 n (ys.take (j + 1))).length := by
    rw [go14_next n ys j h, List.length_append, List.length_append]
    have : ((ys[j].kids.take t).filter (place14 n)).length ≤ (ys[j].kids.filter (place14 n)).length := ((List.take_sublist t _).filter _).length_le
    omega
  have h2 : (go14 n (ys.take (j + 1))).length ≤ (go14 n ys).length := by
    have : flat14 ys = flat14 (ys.take (j + 1)) ++ flat14 (ys.drop (j + 1)) := by
      rw [flat14, flat14, flat14, ← List.flatten_append, ← List.map_append, List.take_append_drop]
    rw [go14, go14, this, List.filter_append, List.length_append]
    omega
  have h3 := go14_len n ys
  omega
theorem filter14_next (n : Nat) (ks : List Int) (t : Nat) (h : t < ks.length) : (ks.take (t + 1)).filter (place14 n) = (ks.take t).filter (place14 n) ++ (if place14 n ks[t] = true then [ks[t]] else []) := by
  rw [List.take_succ_eq_append_getElem h, List.filter_append, List.filter_cons]
  rfl

set_option maxHeartbeats 6400000 in
set_option maxRecDepth 100000 in
theorem kidsOf14 (a : Option Addr) (n cap : Nat) (rl fr up : Int) (r0 r1 : Value) (ys : List WayD) (w : World) (hy : rowTot wayTot ys ≤ 1048576) (h : RowC 2 WayE w r1 ys) :
    Calls Try.prog 25 #[.agg #[.slice a n cap], .agg #[.int .i64 rl, r0, .int .i64 fr, .int .i64 up, r1]] w fun e w' => ∃ r, e = .returned r ∧ OwnZ w.heap.size r (go14 n ys) w' ∧ Below w.heap.size w w' := by
  obtain ⟨i0, hi, hz0, hz1, hz2⟩ := info_parts Try.infoInt5
  have hyl : ys.length ≤ 1048576 := Nat.le_trans (rowTot_len wayTot ys) hy
  have HKl : Hid (∀ j (hj : j < ys.length), ys[j].kids.length ≤ 1048576) := fun j hj => by
    have h5 := rowTot_mem wayTot (List.getElem_mem hj)
    have h6 : wayTot ys[j] = ys[j].kids.length := rfl
    omega
  have HRm : Hid (∀ j t, ∀ h : j < ys.length, (go14 n (ys.take j) ++ (ys[j].kids.take t).filter (place14 n)).length ≤ 1048576) := fun j t h => Nat.le_trans (go14_room n ys j t h) hy
  obtain ⟨aw, cw, rfl⟩ := h.slice
  have B0 : Hid (Below w.heap.size w ((w.alloc (.cells #[.slice a n cap] 29)).alloc (.cells #[.int .i64 rl, r0, .int .i64 fr, .int .i64 up, .slice aw ys.length cw] 40))) := ((Below.refl _ _).alloc (Nat.le_refl _) _).alloc (by simp) _
  have hE0 : ((w.alloc (.cells #[.slice a n cap] 29)).alloc (.cells #[.int .i64 rl, r0, .int .i64 fr, .int .i64 up, .slice aw ys.length cw] 40)).cell? ⟨w.heap.size, 0, none⟩ = some (.slice a n cap) := box_two _ _ _ _ _ 0 _ rfl
  have hF0 : ((w.alloc (.cells #[.slice a n cap] 29)).alloc (.cells #[.int .i64 rl, r0, .int .i64 fr, .int .i64 up, .slice aw ys.length cw] 40)).cell? ⟨w.heap.size + 1, 4, none⟩ = some (.slice aw ys.length cw) := box_two' _ _ _ _ _ 4 _ rfl
  have HI : Hid (RowC 2 WayE ((w.alloc (.cells #[.slice a n cap] 29)).alloc (.cells #[.int .i64 rl, r0, .int .i64 fr, .int .i64 up, .slice aw ys.length cw] 40)) (.slice aw ys.length cw) ys) := RowC.below WayE_stable h B0.out
  have HS0 : Hid (((w.alloc (.cells #[.slice a n cap] 29)).alloc (.cells #[.int .i64 rl, r0, .int .i64 fr, .int .i64 up, .slice aw ys.length cw] 40)).heap.size = w.heap.size + 2) := by rw [Hid]; simp
  clear h hy
  go_enter Try.func25, Try.ntmps25
  go_wp2
  generalize (w.alloc (.cells #[.slice a n cap] 29)).alloc (.cells #[.int .i64 rl, r0, .int .i64 fr, .int .i64 up, .slice aw ys.length cw] 40) = w0 at *
  have HO0 : Hid (OwnZ w0.heap.size (.slice (some ⟨w.heap.size + 1 + 1, 0, none⟩) 0 0) [] (w0.alloc (.cells #[] 3))) := by
    have := World.ownsRow_made (base := w0.heap.size) w0 #[] 0 (e := 3) (size := 1) (Nat.le_refl _) (by decide) rfl
    rw [HS0.out] at this
    rw [Hid, HS0.out]
    exact this
  have HB0 : Hid (Below w0.heap.size w0 (w0.alloc (.cells #[] 3))) := (Below.refl _ _).alloc (Nat.le_refl _) _
  go_loopw [5, 14] (fun ov jv wr => ∃ (j : Nat) (hs : List Int), jv = .int .i64 j ∧ j ≤ ys.length ∧ hs = go14 n (ys.take j) ∧ OwnZ w0.heap.size ov hs wr ∧ Below w0.heap.size w0 wr) (fun _ jv _ => ys.length - (intOf jv).toNat)
  case atStart => exact ⟨0, [], rfl, Nat.zero_le _, rfl, HO0.out, HB0.out⟩
  case round =>
    clear HO0 HB0
    obtain ⟨j, hs, rfl, hj, hhs, hown, hbw⟩ := hrel
    obtain ⟨wa, rfl⟩ : ∃ W, W = wr := ⟨wr, rfl⟩
    have HHs : Hid (hs = go14 n (ys.take j)) := hhs
    have HO : Hid (OwnZ w0.heap.size u5 hs wa) := hown
    have HB : Hid (Below w0.heap.size w0 wa) := hbw
    clear hown hbw hhs
    by_cases hlt : j < ys.length
    · obtain ⟨bk, offk, vsk, rfl, _, hck, hEk⟩ := HI.out.at hlt
      obtain ⟨rk, rfl, hIk⟩ := hEk
      have m0 : w0.cell? ⟨bk, offk + j * 2, none⟩ = some (.int .i64 ys[j].alt) := hck 0 (by simp)
      have m1 : w0.cell? ⟨bk, offk + j * 2 + 1, none⟩ = some rk := hck 1 (by simp)
      have m0b := cell_keep m0 HB.out
      have m1b := cell_keep m1 HB.out
      have hkk := HKl.out j hlt
      have HRj : Hid (∀ t, (go14 n (ys.take j) ++ (ys[j].kids.take t).filter (place14 n)).length ≤ 1048576) := fun t => HRm.out j t hlt
      have HNj : Hid (go14 n (ys.take (j + 1)) = go14 n (ys.take j) ++ ys[j].kids.filter (place14 n)) := go14_next n ys j hlt
      obtain ⟨ak, ck, rfl⟩ := hIk.slice
      have HIk : Hid (IRow w0 (.slice ak ys[j].kids.length ck) ys[j].kids) := hIk
      have bal : Hid (Below wa.heap.size wa (wa.alloc (.cells #[.int .i64 ys[j].alt, .slice ak ys[j].kids.length ck] 42))) := (Below.refl _ _).alloc (Nat.le_refl _) _
      have hY1 : (wa.alloc (.cells #[.int .i64 ys[j].alt, .slice ak ys[j].kids.length ck] 42)).cell? ⟨wa.heap.size, 1, none⟩ = some (.slice ak ys[j].kids.length ck) := box_at _ _ _ 1 _ rfl
      have HB2 : Hid (Below w0.heap.size w0 (wa.alloc (.cells #[.int .i64 ys[j].alt, .slice ak ys[j].kids.length ck] 42))) := HB.out.trans (bal.out.mono HB.out.size)
      have HO2 : Hid (OwnZ w0.heap.size u5 hs (wa.alloc (.cells #[.int .i64 ys[j].alt, .slice ak ys[j].kids.length ck] 42))) := HO.out.below bal.out
      have i4 : (j : Int) < (ys.length : Int) := by omega
      clear hIk hck bal m0 m1
      go_wp2_with fail
      generalize wa.alloc (.cells #[.int .i64 ys[j].alt, .slice ak ys[j].kids.length ck] 42) = W1 at *
      generalize wa.heap.size = bx at *
      clear m0b m1b HB HO
      generalize ys[j].alt = yal at *
      generalize ys[j].kids = ks at *
      go_wp2
      go_loopw [5, 21] (fun ov tv wr => ∃ (t : Nat) (gs : List Int), tv = .int .i64 t ∧ t ≤ ks.length ∧ gs = go14 n (ys.take j) ++ (ks.take t).filter (place14 n) ∧ OwnZ w0.heap.size ov gs wr ∧ Below w0.heap.size w0 wr) (fun _ tv _ => ks.length - (intOf tv).toNat)
      case atStart => exact ⟨0, hs, rfl, Nat.zero_le _, HHs.out.trans (by simp), HO2.out, HB2.out⟩
      case round =>
        clear HO2 HB2 hY1
        obtain ⟨t, gs, rfl, ht, hgs, hown, hbw⟩ := hrel
        obtain ⟨wb, rfl⟩ : ∃ W, W = wr := ⟨wr, rfl⟩
        have HGs : Hid (gs = go14 n (ys.take j) ++ (ks.take t).filter (place14 n)) := hgs
        have HO : Hid (OwnZ w0.heap.size u5 gs wb) := hown
        have HB : Hid (Below w0.heap.size w0 wb) := hbw
        have hgl : gs.length ≤ 1048576 := by rw [hgs]; exact HRj.out t
        have hE := cell_keep hE0 hbw
        clear hown hbw hgs
        by_cases htl : t < ks.length
        · obtain ⟨bz2, offz, rfl, hcz0⟩ := HIk.out.at htl
          have hcz := cell_keep hcz0 HB.out
          have HFn : Hid ((ks.take (t + 1)).filter (place14 n) = (ks.take t).filter (place14 n) ++ (if place14 n ks[t] = true then [ks[t]] else [])) := filter14_next n ks t htl
          have HI1 : Hid (∀ W, _) := fun W => isPlaceP ks[t] a n cap W
          have i6 : (t : Int) < (ks.length : Int) := by omega
          generalize ks[t] = z at *
          cases hz : place14 n z with
          | false =>
            have HGn : Hid (gs = go14 n (ys.take j) ++ (ks.take (t + 1)).filter (place14 n)) := by
              rw [Hid, HGs.out, HFn.out, hz, if_neg (by decide), List.append_nil]
            rw [hz] at HI1
            clear hz HFn
            go_wp2_with (go_at_call 32; refine (HI1.out _).mono ?_; rintro e wq ⟨rfl, hw⟩; rw [hw]; clear hw)
            go_roundw
            case rel => exact ⟨t + 1, gs, by go_num, by omega, HGn.out, HO.out, HB.out⟩
            case measure => simp [intOf]; omega
          | true =>
            have HGn : Hid (gs ++ [z] = go14 n (ys.take j) ++ (ks.take (t + 1)).filter (place14 n)) := by
              rw [Hid, HGs.out, HFn.out, hz, if_pos rfl, List.append_assoc]
            rw [hz] at HI1
            obtain ⟨a6, c6, rfl⟩ := HO.out.row.slice
            clear hz HFn
            go_wp2_with (first | (go_at_call 32; refine (HI1.out _).mono ?_; rintro e wq ⟨rfl, hw⟩; rw [hw]; clear hw) | (at_builtin; refine wpList_append_own _ rfl _ _ 36 rfl w0.heap.size 3 i0 _ 1 8 Try.underlying36 hi hz0 hz1 hz2 rfl (by decide) _ _ _ rfl (World.ownsRow.alloc HO.out _) ⟨_, 0, none⟩ 1 1 [.int .i64 z] rfl rfl (cell_one_new _ _ _) (one_cell14 _) (by unfold maxLen; omega) (by omega) (by have h8 := HB.out.size; simp; omega) ?_))
            intro v' w2 hown2 hgrow _
            have R1 := snocZ14 hown2
            have R2 := below_grow14 (HB.out.alloc HB.out.size _) (by have h8 := HB.out.size; simp; omega) (World.ownsRow.alloc HO.out _ : OwnZ _ _ _ _) (Nat.le_refl _) hgrow
            clear hown2 hgrow HO HB
            go_wp2
            go_roundw
            case rel => exact ⟨t + 1, _, by go_num, by omega, HGn.out, R1, R2⟩
            case measure => simp [intOf]; omega
        · obtain rfl : t = ks.length := by omega
          have HGe : Hid (gs = go14 n (ys.take (j + 1))) := by
            have := HGs.out
            rw [List.take_length] at this
            rw [Hid, HNj.out, this]
          have i6 : ¬ (ks.length : Int) < (ks.length : Int) := by omega
          go_wp2
          go_roundw
          case rel => exact ⟨j + 1, gs, by go_num, by omega, HGe.out, HO.out, HB.out⟩
          case measure => simp [intOf]; omega
    · obtain rfl : j = ys.length := by omega
      have HHe : Hid (hs = go14 n ys) := by
        have := HHs.out
        rwa [List.take_length] at this
      have HBf : Hid (Below w.heap.size w wa) := B0.out.trans (HB.out.mono B0.out.size)
      have HOf : Hid (OwnZ w.heap.size u5 (go14 n ys) wa) := by rw [← HHe.out]; exact HO.out.base B0.out.size
      have i4 : ¬ (ys.length : Int) < (ys.length : Int) := by omega
      go_wp2
      go_ret
      exact ⟨_, rfl, HOf.out, HBf.out⟩

end Go.Proofs.Ytpcfcheicdnogaa
