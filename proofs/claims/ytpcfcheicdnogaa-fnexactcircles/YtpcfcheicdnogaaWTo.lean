/- The laws' helpers: copied into memory of their own (printed by mk/kitset.py). -/
import Derived.Test.YtpcfcheicdnogaaWData
import Derived.Test.YtpcfcheicdnogaaGTo
namespace Go.Proofs.Ytpcfcheicdnogaa
open Go.RowKit

theorem gtoIntS (v : Value) (xs : List Int) (w : World) (hz : List.length xs ≤ 1048576) (h : IRow w v xs) :
    Calls Try.prog 37 #[v] w fun e w' => ∃ a c, e = .returned (.slice a xs.length c) ∧ Fresh w.heap.size w' (fun W => IRow W (.slice a xs.length c) xs) ∧ Below w.heap.size w w' := by
  refine (toIntS_any v xs w hz h).mono ?_
  rintro e w' ⟨o, rfl, ho, hb⟩
  obtain ⟨a, c, rfl⟩ := ho.row.slice
  exact ⟨a, c, rfl, fresh_iRow ho, hb⟩

set_option maxHeartbeats 3200000 in
set_option maxRecDepth 100000 in
theorem gtoWay (r0 : Value) (x : WayD) (w : World) (hz : wayTot x ≤ 1048576) (hh0 : IRow w r0 x.kids) :
    Calls Try.prog 42 #[.agg #[.int .i64 x.alt, r0]] w fun e w' => ∃ o0 c0, e = .returned (.agg #[.int .i64 x.alt, .slice o0 x.kids.length c0]) ∧ Fresh w.heap.size w' (fun W => IRow W (.slice o0 x.kids.length c0) x.kids) ∧ Below w.heap.size w w' := by
  have HTt : wayTot x = List.length x.kids := rfl
  have R0 : Hid (IRow w r0 x.kids) := hh0
  obtain ⟨aa0, ca0, rfl⟩ := hh0.slice
  have hz0 : List.length x.kids ≤ 1048576 := by omega
  clear HTt hz hh0
  obtain ⟨B, hB⟩ : ∃ B, w.heap.size = B := ⟨_, rfl⟩
  go_enter Try.func42, Try.ntmps42
  go_wp2_with fail
  obtain ⟨k0, k1, k2⟩ := box_three w #[.int .i64 x.alt, .slice aa0 x.kids.length ca0] #[.int .i64 0, .slice none 0 0] #[.int .i64 x.alt, .slice none 0 0] 70 42 hB
  have P0 : Hid ((((w.alloc (.cells #[.int .i64 x.alt, .slice aa0 x.kids.length ca0] 70)).alloc (.cells #[.int .i64 0, .slice none 0 0] 42)).alloc (.cells #[.int .i64 x.alt, .slice none 0 0] 42)).heap[B]? = some (.cells #[.int .i64 x.alt, .slice aa0 x.kids.length ca0] 70)) := k0
  have P1 : Hid ((((w.alloc (.cells #[.int .i64 x.alt, .slice aa0 x.kids.length ca0] 70)).alloc (.cells #[.int .i64 0, .slice none 0 0] 42)).alloc (.cells #[.int .i64 x.alt, .slice none 0 0] 42)).heap[B + 1]? = some (.cells #[.int .i64 0, .slice none 0 0] 42)) := k1
  have P2 : Hid ((((w.alloc (.cells #[.int .i64 x.alt, .slice aa0 x.kids.length ca0] 70)).alloc (.cells #[.int .i64 0, .slice none 0 0] 42)).alloc (.cells #[.int .i64 x.alt, .slice none 0 0] 42)).heap[B + 2]? = some (.cells #[.int .i64 x.alt, .slice none 0 0] 42)) := k2
  have BW : Hid (Below w.heap.size w (((w.alloc (.cells #[.int .i64 x.alt, .slice aa0 x.kids.length ca0] 70)).alloc (.cells #[.int .i64 0, .slice none 0 0] 42)).alloc (.cells #[.int .i64 x.alt, .slice none 0 0] 42))) := (((Below.refl _ _).alloc (Nat.le_refl _) _).alloc (by simp) _).alloc (by simp; omega) _
  have hsz : B + 3 ≤ (((w.alloc (.cells #[.int .i64 x.alt, .slice aa0 x.kids.length ca0] 70)).alloc (.cells #[.int .i64 0, .slice none 0 0] 42)).alloc (.cells #[.int .i64 x.alt, .slice none 0 0] 42)).heap.size := by simp [hB]
  clear k0 k1 k2
  generalize ((w.alloc (.cells #[.int .i64 x.alt, .slice aa0 x.kids.length ca0] 70)).alloc (.cells #[.int .i64 0, .slice none 0 0] 42)).alloc (.cells #[.int .i64 x.alt, .slice none 0 0] 42) = W0 at *
  refine (gtoIntS _ x.kids W0 hz0 (R0.out.below BW.out)).mono ?_
  rintro e w0 ⟨o0, c0, rfl, f0, hb0⟩
  have B0 : Hid (Below w.heap.size w w0) := BW.out.trans (hb0.mono BW.out.size)
  have F0_0 : Hid (Fresh (B + 3) w0 (fun W => IRow W (.slice o0 x.kids.length c0) x.kids)) := f0.base hsz
  have q00_0 : Hid (w0.heap[B]? = some (.cells #[.int .i64 x.alt, .slice aa0 x.kids.length ca0] 70)) := (hb0.block B (by omega)).trans P0.out
  have q01_0 : Hid (w0.heap[B + 1]? = some (.cells #[.int .i64 0, .slice none 0 0] 42)) := (hb0.block (B + 1) (by omega)).trans P1.out
  have q02_0 : Hid (w0.heap[B + 2]? = some (.cells #[.int .i64 x.alt, .slice none 0 0] 42)) := (hb0.block (B + 2) (by omega)).trans P2.out
  have hsz0 : B + 3 ≤ w0.heap.size := Nat.le_trans hsz hb0.size
  clear P0 P1 P2 f0 hb0 hsz BW
  have y0_1 : (w0).cell? ⟨B + 1 + 1, 1, none⟩ = some (.slice none 0 0) := cell_block (b := B + 2) q02_0.out rfl
  have g0_1 : (w0).frozen? ⟨B + 1 + 1, 1, none⟩ = false := frozen_block (b := B + 2) q02_0.out
  have q00_1 : Hid ((w0.setCell ⟨B + 1 + 1, 1, none⟩ (.slice o0 x.kids.length c0)).heap[B]? = some (.cells #[.int .i64 x.alt, .slice aa0 x.kids.length ca0] 70)) := (block_other (b := B) (b' := B + 1 + 1) (by omega)).trans q00_0.out
  have q01_1 : Hid ((w0.setCell ⟨B + 1 + 1, 1, none⟩ (.slice o0 x.kids.length c0)).heap[B + 1]? = some (.cells #[.int .i64 0, .slice none 0 0] 42)) := (block_other (b := B + 1) (b' := B + 1 + 1) (by omega)).trans q01_0.out
  have q02_1 : Hid ((w0.setCell ⟨B + 1 + 1, 1, none⟩ (.slice o0 x.kids.length c0)).heap[B + 2]? = some (.cells #[.int .i64 x.alt, .slice o0 x.kids.length c0] 42)) := block_set (b := B + 2) q02_0.out
  have C0 : Hid (Below w.heap.size w (w0.setCell ⟨B + 1 + 1, 1, none⟩ (.slice o0 x.kids.length c0))) := (B0.out.setCell (show w.heap.size ≤ B + 1 + 1 by omega) _)
  have G0_0 : Hid (Fresh (B + 3) (w0.setCell ⟨B + 1 + 1, 1, none⟩ (.slice o0 x.kids.length c0)) (fun W => IRow W (.slice o0 x.kids.length c0) x.kids)) := (F0_0.out.setLow (by omega) _ _)
  have v0 : B + 3 ≤ (w0.setCell ⟨B + 1 + 1, 1, none⟩ (.slice o0 x.kids.length c0)).heap.size := by simpa using hsz0
  have y9_0 : (w0.setCell ⟨B + 1 + 1, 1, none⟩ (.slice o0 x.kids.length c0)).cell? ⟨B + 1 + 1, 0, none⟩ = some (.int .i64 x.alt) := cell_block (b := B + 2) q02_1.out rfl
  have z9_0 : (w0.setCell ⟨B + 1 + 1, 1, none⟩ (.slice o0 x.kids.length c0)).cell? ⟨B + 1, 0, none⟩ = some (.int .i64 0) := cell_block q01_1.out rfl
  have g9_0 : (w0.setCell ⟨B + 1 + 1, 1, none⟩ (.slice o0 x.kids.length c0)).frozen? ⟨B + 1, 0, none⟩ = false := frozen_block q01_1.out
  have y9_1 : (w0.setCell ⟨B + 1 + 1, 1, none⟩ (.slice o0 x.kids.length c0)).cell? ⟨B + 1 + 1, 1, none⟩ = some (.slice o0 x.kids.length c0) := cell_block (b := B + 2) q02_1.out rfl
  have z9_1 : (w0.setCell ⟨B + 1 + 1, 1, none⟩ (.slice o0 x.kids.length c0)).cell? ⟨B + 1, 1, none⟩ = some (.slice none 0 0) := cell_block q01_1.out rfl
  have g9_1 : (w0.setCell ⟨B + 1 + 1, 1, none⟩ (.slice o0 x.kids.length c0)).frozen? ⟨B + 1, 1, none⟩ = false := frozen_block q01_1.out
  go_wp2
  have P1 : Hid ((w0.setCell ⟨B + 1 + 1, 1, none⟩ (.slice o0 x.kids.length c0)).heap[B + 1]? = some (.cells #[.int .i64 0, .slice none 0 0] 42)) := q01_1.out
  clear y0_1 g0_1 y9_0 z9_0 g9_0 y9_1 z9_1 g9_1 q00_0 q00_1 q01_0 q01_1 q02_0 q02_1
  generalize w0.setCell ⟨B + 1 + 1, 1, none⟩ (.slice o0 x.kids.length c0) = WL at *
  have FB : Hid (Below w.heap.size w ((WL.setCell ⟨B + 1, 0, none⟩ (.int .i64 x.alt)).setCell ⟨B + 1, 1, none⟩ (.slice o0 x.kids.length c0))) := ((C0.out.setCell (show w.heap.size ≤ B + 1 by omega) _).setCell (show w.heap.size ≤ B + 1 by omega) _)
  have FF0 : Hid (Fresh w.heap.size ((WL.setCell ⟨B + 1, 0, none⟩ (.int .i64 x.alt)).setCell ⟨B + 1, 1, none⟩ (.slice o0 x.kids.length c0)) (fun W => IRow W (.slice o0 x.kids.length c0) x.kids)) := Fresh.base (((G0_0.out.setLow (by omega) _ _).setLow (by omega) _ _)) (show w.heap.size ≤ B + 3 by omega)
  have rp : ((WL.setCell ⟨B + 1, 0, none⟩ (.int .i64 x.alt)).setCell ⟨B + 1, 1, none⟩ (.slice o0 x.kids.length c0)).heap[B + 1]? = some (.cells #[.int .i64 x.alt, .slice o0 x.kids.length c0] 42) := block_set (block_set P1.out)
  have rr0 : ((WL.setCell ⟨B + 1, 0, none⟩ (.int .i64 x.alt)).setCell ⟨B + 1, 1, none⟩ (.slice o0 x.kids.length c0)).cell? ⟨B + 1, 0, none⟩ = some (.int .i64 x.alt) := cell_block rp rfl
  have rr1 : ((WL.setCell ⟨B + 1, 0, none⟩ (.int .i64 x.alt)).setCell ⟨B + 1, 1, none⟩ (.slice o0 x.kids.length c0)).cell? ⟨B + 1, 1, none⟩ = some (.slice o0 x.kids.length c0) := cell_block rp rfl
  clear rp P1 v0
  generalize (WL.setCell ⟨B + 1, 0, none⟩ (.int .i64 x.alt)).setCell ⟨B + 1, 1, none⟩ (.slice o0 x.kids.length c0) = W9 at *
  (try simp only [Exit.inBlock, Exit.then])
  refine bodyPost_ret (by simp [results, Try.results42, go_sem, rr0, rr1]; try rfl) rfl ?_
  exact ⟨_, _, rfl, FF0.out, FB.out⟩

theorem Try.infoWay : (Try.prog.info? 42).map (fun i => (i.zero, i.size, i.bytes)) = some (some (.agg #[.int .i64 0, .slice none 0 0]), 2, 32) := by kernel_rfl
set_option maxHeartbeats 3200000 in
set_option maxRecDepth 100000 in
theorem gtoWayS (v : Value) (xs : List (WayD)) (w : World) (hz : rowTot wayTot xs ≤ 1048576) (h : RowC 2 WayE w v xs) :
    Calls Try.prog 38 #[v] w fun e w' => ∃ a c, e = .returned (.slice a xs.length c) ∧ Fresh w.heap.size w' (fun W => RowC 2 WayE W (.slice a xs.length c) xs) ∧ Below w.heap.size w w' := by
  obtain ⟨i0, hi, hz0, hz1, hz2⟩ := info_parts Try.infoWay
  have hn := rowTot_len wayTot xs
  have HR : Hid (RowC 2 WayE w v xs) := h
  obtain ⟨a, cap, rfl⟩ := h.slice
  clear h
  go_enter Try.func38, Try.ntmps38
  go_wp2_with (at_make; refine wpList_make_full _ rfl _ _ 38 rfl w.heap.size 42 i0 _ 2 Try.underlying38 hi hz0 hz1 .i64 .i64 _ _ xs.length rfl rfl rfl rfl (by rw [hz2]; omega) (by unfold maxLen; omega) (Nat.le_refl _) ?_; intro w1 hown hg1)
  have HO : Hid (RowTo 2 WayE 42 w.heap.size w.heap.size xs 0 w1) := rowTo_start hown
  have HB1 : Hid (Below w.heap.size w w1) := (Below.refl _ _).grown hg1 (Nat.le_refl _) (fun k h => by cases h)
  clear hown hg1
  go_loopw [4] (fun iv wr => ∃ k : Nat, iv = .int .i64 k ∧ k ≤ xs.length ∧ RowTo 2 WayE 42 w.heap.size w.heap.size xs k wr ∧ Below w.heap.size w wr) (fun iv _ => xs.length - (intOf iv).toNat)
  case atStart => exact ⟨0, rfl, Nat.zero_le _, HO.out, HB1.out⟩
  case round =>
    obtain ⟨k, rfl, hk, hrow, hb⟩ := hrel
    have HW : Hid (RowTo 2 WayE 42 w.heap.size w.heap.size xs k wr) := hrow
    have HB : Hid (Below w.heap.size w wr) := hb
    have HRr : Hid (RowC 2 WayE wr (.slice a xs.length cap) xs) := RowC.below WayE_stable HR.out hb
    have hgt : w.heap.size + 1 ≤ wr.heap.size := by
      obtain ⟨cs, ho⟩ := hrow.own
      exact (World.ownsRow.lt ho w.heap.size rfl).2
    clear hb hrow HO HB1
    by_cases hlt : k < xs.length
    · obtain ⟨b, off, vs, rfl, _, hc, hE⟩ := HRr.out.at hlt
      obtain ⟨r0, rfl, hh0⟩ := hE
      have n0 : wr.cell? ⟨b, off + k * 2, none⟩ = some (.int .i64 xs[k].alt) := hc 0 (by simp)
      have n1 : wr.cell? ⟨b, off + k * 2 + 1, none⟩ = some (r0) := hc 1 (by simp)
      have HT : Hid (∀ W, Below wr.heap.size wr W → _) := fun W hW => gtoWay r0 xs[k] W (by have := rowTot_mem wayTot (List.getElem_mem hlt); omega) (hh0.below hW)
      obtain ⟨aa0, ca0, rfl⟩ := hh0.slice
      clear hc hh0
      go_wp2_with fail
      refine (HT.out _ (Below.refl _ _)).mono ?_
      rintro e w2 ⟨o0, c0, rfl, f0, hb2⟩
      have HB2 : Hid (Below w.heap.size w w2) := HB.out.trans (hb2.mono HB.out.size)
      have HW2 : Hid (RowTo 2 WayE 42 w.heap.size w.heap.size xs k w2) := HW.out.below hb2
      have HE2 : Hid (Fresh (w.heap.size + 1) w2 (fun W => WayE W [.int .i64 xs[k].alt, .slice o0 xs[k].kids.length c0] xs[k])) := fun W h1 h2 => ⟨_, rfl, (f0.base hgt) W h1 h2⟩
      obtain ⟨cs, O2⟩ := HW2.out.own
      obtain ⟨d0, hd0, hf0⟩ := own_cell O2 (k * 2) (by omega)
      obtain ⟨d1, hd1, hf1⟩ := own_cell O2 (k * 2 + 1) (by omega)
      clear O2 hb2 HT HW f0
      go_wp2
      have HN : Hid (RowTo 2 WayE 42 w.heap.size w.heap.size xs (k + 1) (setsW w2 w.heap.size (k * 2) [.int .i64 xs[k].alt, .slice o0 xs[k].kids.length c0])) := HW2.out.next hlt rfl HE2.out
      have HB3 : Hid (Below w.heap.size w (setsW w2 w.heap.size (k * 2) [.int .i64 xs[k].alt, .slice o0 xs[k].kids.length c0])) := setsW_below HB2.out (Nat.le_refl _) _ _
      skip
      go_roundw
      case rel => exact ⟨k + 1, by go_num, by omega, HN.out, HB3.out⟩
      case measure => simp [intOf]; omega
    · obtain rfl : k = xs.length := by omega
      have HF : Hid (Fresh w.heap.size wr (fun W => RowC 2 WayE W (.slice (some ⟨w.heap.size, 0, none⟩) xs.length xs.length) xs)) := HW.out.done
      clear HW
      go_wp2
      go_ret
      exact ⟨_, _, rfl, HF.out, HB.out⟩

set_option maxHeartbeats 3200000 in
set_option maxRecDepth 100000 in
theorem gtoPart (r0 r1 : Value) (x : PartD) (w : World) (hz : partTot x ≤ 1048576) (hh0 : IRow w r0 x.args) (hh1 : RowC 2 WayE w r1 x.ways) :
    Calls Try.prog 31 #[.agg #[.int .i64 x.rule, r0, .int .i64 x.frm, .int .i64 x.upto, r1]] w fun e w' => ∃ o0 c0 o1 c1, e = .returned (.agg #[.int .i64 x.rule, .slice o0 x.args.length c0, .int .i64 x.frm, .int .i64 x.upto, .slice o1 x.ways.length c1]) ∧ Fresh w.heap.size w' (fun W => IRow W (.slice o0 x.args.length c0) x.args) ∧ Fresh w.heap.size w' (fun W => RowC 2 WayE W (.slice o1 x.ways.length c1) x.ways) ∧ Below w.heap.size w w' := by
  have HTt : partTot x = List.length x.args + rowTot wayTot x.ways := rfl
  have R0 : Hid (IRow w r0 x.args) := hh0
  obtain ⟨aa0, ca0, rfl⟩ := hh0.slice
  have hz0 : List.length x.args ≤ 1048576 := by omega
  have R1 : Hid (RowC 2 WayE w r1 x.ways) := hh1
  obtain ⟨aa1, ca1, rfl⟩ := hh1.slice
  have hz1 : rowTot wayTot x.ways ≤ 1048576 := by omega
  clear HTt hz hh0 hh1
  obtain ⟨B, hB⟩ : ∃ B, w.heap.size = B := ⟨_, rfl⟩
  go_enter Try.func31, Try.ntmps31
  go_wp2_with fail
  obtain ⟨k0, k1, k2⟩ := box_three w #[.int .i64 x.rule, .slice aa0 x.args.length ca0, .int .i64 x.frm, .int .i64 x.upto, .slice aa1 x.ways.length ca1] #[.int .i64 0, .slice none 0 0, .int .i64 0, .int .i64 0, .slice none 0 0] #[.int .i64 x.rule, .slice none 0 0, .int .i64 0, .int .i64 0, .slice none 0 0] 57 40 hB
  have P0 : Hid ((((w.alloc (.cells #[.int .i64 x.rule, .slice aa0 x.args.length ca0, .int .i64 x.frm, .int .i64 x.upto, .slice aa1 x.ways.length ca1] 57)).alloc (.cells #[.int .i64 0, .slice none 0 0, .int .i64 0, .int .i64 0, .slice none 0 0] 40)).alloc (.cells #[.int .i64 x.rule, .slice none 0 0, .int .i64 0, .int .i64 0, .slice none 0 0] 40)).heap[B]? = some (.cells #[.int .i64 x.rule, .slice aa0 x.args.length ca0, .int .i64 x.frm, .int .i64 x.upto, .slice aa1 x.ways.length ca1] 57)) := k0
  have P1 : Hid ((((w.alloc (.cells #[.int .i64 x.rule, .slice aa0 x.args.length ca0, .int .i64 x.frm, .int .i64 x.upto, .slice aa1 x.ways.length ca1] 57)).alloc (.cells #[.int .i64 0, .slice none 0 0, .int .i64 0, .int .i64 0, .slice none 0 0] 40)).alloc (.cells #[.int .i64 x.rule, .slice none 0 0, .int .i64 0, .int .i64 0, .slice none 0 0] 40)).heap[B + 1]? = some (.cells #[.int .i64 0, .slice none 0 0, .int .i64 0, .int .i64 0, .slice none 0 0] 40)) := k1
  have P2 : Hid ((((w.alloc (.cells #[.int .i64 x.rule, .slice aa0 x.args.length ca0, .int .i64 x.frm, .int .i64 x.upto, .slice aa1 x.ways.length ca1] 57)).alloc (.cells #[.int .i64 0, .slice none 0 0, .int .i64 0, .int .i64 0, .slice none 0 0] 40)).alloc (.cells #[.int .i64 x.rule, .slice none 0 0, .int .i64 0, .int .i64 0, .slice none 0 0] 40)).heap[B + 2]? = some (.cells #[.int .i64 x.rule, .slice none 0 0, .int .i64 0, .int .i64 0, .slice none 0 0] 40)) := k2
  have BW : Hid (Below w.heap.size w (((w.alloc (.cells #[.int .i64 x.rule, .slice aa0 x.args.length ca0, .int .i64 x.frm, .int .i64 x.upto, .slice aa1 x.ways.length ca1] 57)).alloc (.cells #[.int .i64 0, .slice none 0 0, .int .i64 0, .int .i64 0, .slice none 0 0] 40)).alloc (.cells #[.int .i64 x.rule, .slice none 0 0, .int .i64 0, .int .i64 0, .slice none 0 0] 40))) := (((Below.refl _ _).alloc (Nat.le_refl _) _).alloc (by simp) _).alloc (by simp; omega) _
  have hsz : B + 3 ≤ (((w.alloc (.cells #[.int .i64 x.rule, .slice aa0 x.args.length ca0, .int .i64 x.frm, .int .i64 x.upto, .slice aa1 x.ways.length ca1] 57)).alloc (.cells #[.int .i64 0, .slice none 0 0, .int .i64 0, .int .i64 0, .slice none 0 0] 40)).alloc (.cells #[.int .i64 x.rule, .slice none 0 0, .int .i64 0, .int .i64 0, .slice none 0 0] 40)).heap.size := by simp [hB]
  clear k0 k1 k2
  generalize ((w.alloc (.cells #[.int .i64 x.rule, .slice aa0 x.args.length ca0, .int .i64 x.frm, .int .i64 x.upto, .slice aa1 x.ways.length ca1] 57)).alloc (.cells #[.int .i64 0, .slice none 0 0, .int .i64 0, .int .i64 0, .slice none 0 0] 40)).alloc (.cells #[.int .i64 x.rule, .slice none 0 0, .int .i64 0, .int .i64 0, .slice none 0 0] 40) = W0 at *
  refine (gtoIntS _ x.args W0 hz0 (R0.out.below BW.out)).mono ?_
  rintro e w0 ⟨o0, c0, rfl, f0, hb0⟩
  have B0 : Hid (Below w.heap.size w w0) := BW.out.trans (hb0.mono BW.out.size)
  have F0_0 : Hid (Fresh (B + 3) w0 (fun W => IRow W (.slice o0 x.args.length c0) x.args)) := f0.base hsz
  have q00_0 : Hid (w0.heap[B]? = some (.cells #[.int .i64 x.rule, .slice aa0 x.args.length ca0, .int .i64 x.frm, .int .i64 x.upto, .slice aa1 x.ways.length ca1] 57)) := (hb0.block B (by omega)).trans P0.out
  have q01_0 : Hid (w0.heap[B + 1]? = some (.cells #[.int .i64 0, .slice none 0 0, .int .i64 0, .int .i64 0, .slice none 0 0] 40)) := (hb0.block (B + 1) (by omega)).trans P1.out
  have q02_0 : Hid (w0.heap[B + 2]? = some (.cells #[.int .i64 x.rule, .slice none 0 0, .int .i64 0, .int .i64 0, .slice none 0 0] 40)) := (hb0.block (B + 2) (by omega)).trans P2.out
  have hsz0 : B + 3 ≤ w0.heap.size := Nat.le_trans hsz hb0.size
  clear P0 P1 P2 f0 hb0 hsz BW
  have y0_1 : (w0).cell? ⟨B + 1 + 1, 1, none⟩ = some (.slice none 0 0) := cell_block (b := B + 2) q02_0.out rfl
  have g0_1 : (w0).frozen? ⟨B + 1 + 1, 1, none⟩ = false := frozen_block (b := B + 2) q02_0.out
  have q00_1 : Hid ((w0.setCell ⟨B + 1 + 1, 1, none⟩ (.slice o0 x.args.length c0)).heap[B]? = some (.cells #[.int .i64 x.rule, .slice aa0 x.args.length ca0, .int .i64 x.frm, .int .i64 x.upto, .slice aa1 x.ways.length ca1] 57)) := (block_other (b := B) (b' := B + 1 + 1) (by omega)).trans q00_0.out
  have q01_1 : Hid ((w0.setCell ⟨B + 1 + 1, 1, none⟩ (.slice o0 x.args.length c0)).heap[B + 1]? = some (.cells #[.int .i64 0, .slice none 0 0, .int .i64 0, .int .i64 0, .slice none 0 0] 40)) := (block_other (b := B + 1) (b' := B + 1 + 1) (by omega)).trans q01_0.out
  have q02_1 : Hid ((w0.setCell ⟨B + 1 + 1, 1, none⟩ (.slice o0 x.args.length c0)).heap[B + 2]? = some (.cells #[.int .i64 x.rule, .slice o0 x.args.length c0, .int .i64 0, .int .i64 0, .slice none 0 0] 40)) := block_set (b := B + 2) q02_0.out
  have a0_2 : (w0.setCell ⟨B + 1 + 1, 1, none⟩ (.slice o0 x.args.length c0)).cell? ⟨B, 2, none⟩ = some (.int .i64 x.frm) := cell_block q00_1.out rfl
  have y0_2 : (w0.setCell ⟨B + 1 + 1, 1, none⟩ (.slice o0 x.args.length c0)).cell? ⟨B + 1 + 1, 2, none⟩ = some (.int .i64 0) := cell_block (b := B + 2) q02_1.out rfl
  have g0_2 : (w0.setCell ⟨B + 1 + 1, 1, none⟩ (.slice o0 x.args.length c0)).frozen? ⟨B + 1 + 1, 2, none⟩ = false := frozen_block (b := B + 2) q02_1.out
  have q00_2 : Hid (((w0.setCell ⟨B + 1 + 1, 1, none⟩ (.slice o0 x.args.length c0)).setCell ⟨B + 1 + 1, 2, none⟩ (.int .i64 x.frm)).heap[B]? = some (.cells #[.int .i64 x.rule, .slice aa0 x.args.length ca0, .int .i64 x.frm, .int .i64 x.upto, .slice aa1 x.ways.length ca1] 57)) := (block_other (b := B) (b' := B + 1 + 1) (by omega)).trans q00_1.out
  have q01_2 : Hid (((w0.setCell ⟨B + 1 + 1, 1, none⟩ (.slice o0 x.args.length c0)).setCell ⟨B + 1 + 1, 2, none⟩ (.int .i64 x.frm)).heap[B + 1]? = some (.cells #[.int .i64 0, .slice none 0 0, .int .i64 0, .int .i64 0, .slice none 0 0] 40)) := (block_other (b := B + 1) (b' := B + 1 + 1) (by omega)).trans q01_1.out
  have q02_2 : Hid (((w0.setCell ⟨B + 1 + 1, 1, none⟩ (.slice o0 x.args.length c0)).setCell ⟨B + 1 + 1, 2, none⟩ (.int .i64 x.frm)).heap[B + 2]? = some (.cells #[.int .i64 x.rule, .slice o0 x.args.length c0, .int .i64 x.frm, .int .i64 0, .slice none 0 0] 40)) := block_set (b := B + 2) q02_1.out
  have a0_3 : ((w0.setCell ⟨B + 1 + 1, 1, none⟩ (.slice o0 x.args.length c0)).setCell ⟨B + 1 + 1, 2, none⟩ (.int .i64 x.frm)).cell? ⟨B, 3, none⟩ = some (.int .i64 x.upto) := cell_block q00_2.out rfl
  have y0_3 : ((w0.setCell ⟨B + 1 + 1, 1, none⟩ (.slice o0 x.args.length c0)).setCell ⟨B + 1 + 1, 2, none⟩ (.int .i64 x.frm)).cell? ⟨B + 1 + 1, 3, none⟩ = some (.int .i64 0) := cell_block (b := B + 2) q02_2.out rfl
  have g0_3 : ((w0.setCell ⟨B + 1 + 1, 1, none⟩ (.slice o0 x.args.length c0)).setCell ⟨B + 1 + 1, 2, none⟩ (.int .i64 x.frm)).frozen? ⟨B + 1 + 1, 3, none⟩ = false := frozen_block (b := B + 2) q02_2.out
  have q00_3 : Hid ((((w0.setCell ⟨B + 1 + 1, 1, none⟩ (.slice o0 x.args.length c0)).setCell ⟨B + 1 + 1, 2, none⟩ (.int .i64 x.frm)).setCell ⟨B + 1 + 1, 3, none⟩ (.int .i64 x.upto)).heap[B]? = some (.cells #[.int .i64 x.rule, .slice aa0 x.args.length ca0, .int .i64 x.frm, .int .i64 x.upto, .slice aa1 x.ways.length ca1] 57)) := (block_other (b := B) (b' := B + 1 + 1) (by omega)).trans q00_2.out
  have q01_3 : Hid ((((w0.setCell ⟨B + 1 + 1, 1, none⟩ (.slice o0 x.args.length c0)).setCell ⟨B + 1 + 1, 2, none⟩ (.int .i64 x.frm)).setCell ⟨B + 1 + 1, 3, none⟩ (.int .i64 x.upto)).heap[B + 1]? = some (.cells #[.int .i64 0, .slice none 0 0, .int .i64 0, .int .i64 0, .slice none 0 0] 40)) := (block_other (b := B + 1) (b' := B + 1 + 1) (by omega)).trans q01_2.out
  have q02_3 : Hid ((((w0.setCell ⟨B + 1 + 1, 1, none⟩ (.slice o0 x.args.length c0)).setCell ⟨B + 1 + 1, 2, none⟩ (.int .i64 x.frm)).setCell ⟨B + 1 + 1, 3, none⟩ (.int .i64 x.upto)).heap[B + 2]? = some (.cells #[.int .i64 x.rule, .slice o0 x.args.length c0, .int .i64 x.frm, .int .i64 x.upto, .slice none 0 0] 40)) := block_set (b := B + 2) q02_2.out
  have C0 : Hid (Below w.heap.size w (((w0.setCell ⟨B + 1 + 1, 1, none⟩ (.slice o0 x.args.length c0)).setCell ⟨B + 1 + 1, 2, none⟩ (.int .i64 x.frm)).setCell ⟨B + 1 + 1, 3, none⟩ (.int .i64 x.upto))) := (((B0.out.setCell (show w.heap.size ≤ B + 1 + 1 by omega) _).setCell (show w.heap.size ≤ B + 1 + 1 by omega) _).setCell (show w.heap.size ≤ B + 1 + 1 by omega) _)
  have G0_0 : Hid (Fresh (B + 3) (((w0.setCell ⟨B + 1 + 1, 1, none⟩ (.slice o0 x.args.length c0)).setCell ⟨B + 1 + 1, 2, none⟩ (.int .i64 x.frm)).setCell ⟨B + 1 + 1, 3, none⟩ (.int .i64 x.upto)) (fun W => IRow W (.slice o0 x.args.length c0) x.args)) := (((F0_0.out.setLow (by omega) _ _).setLow (by omega) _ _).setLow (by omega) _ _)
  have v0 : B + 3 ≤ (((w0.setCell ⟨B + 1 + 1, 1, none⟩ (.slice o0 x.args.length c0)).setCell ⟨B + 1 + 1, 2, none⟩ (.int .i64 x.frm)).setCell ⟨B + 1 + 1, 3, none⟩ (.int .i64 x.upto)).heap.size := by simpa using hsz0
  have a0_4 : (((w0.setCell ⟨B + 1 + 1, 1, none⟩ (.slice o0 x.args.length c0)).setCell ⟨B + 1 + 1, 2, none⟩ (.int .i64 x.frm)).setCell ⟨B + 1 + 1, 3, none⟩ (.int .i64 x.upto)).cell? ⟨B, 4, none⟩ = some (.slice aa1 x.ways.length ca1) := cell_block q00_3.out rfl
  go_wp2_with fail
  clear a0_2 a0_3 a0_4 y0_1 g0_1 y0_2 g0_2 y0_3 g0_3
  have P0 : Hid ((((w0.setCell ⟨B + 1 + 1, 1, none⟩ (.slice o0 x.args.length c0)).setCell ⟨B + 1 + 1, 2, none⟩ (.int .i64 x.frm)).setCell ⟨B + 1 + 1, 3, none⟩ (.int .i64 x.upto)).heap[B]? = some (.cells #[.int .i64 x.rule, .slice aa0 x.args.length ca0, .int .i64 x.frm, .int .i64 x.upto, .slice aa1 x.ways.length ca1] 57)) := q00_3.out
  have P1 : Hid ((((w0.setCell ⟨B + 1 + 1, 1, none⟩ (.slice o0 x.args.length c0)).setCell ⟨B + 1 + 1, 2, none⟩ (.int .i64 x.frm)).setCell ⟨B + 1 + 1, 3, none⟩ (.int .i64 x.upto)).heap[B + 1]? = some (.cells #[.int .i64 0, .slice none 0 0, .int .i64 0, .int .i64 0, .slice none 0 0] 40)) := q01_3.out
  have P2 : Hid ((((w0.setCell ⟨B + 1 + 1, 1, none⟩ (.slice o0 x.args.length c0)).setCell ⟨B + 1 + 1, 2, none⟩ (.int .i64 x.frm)).setCell ⟨B + 1 + 1, 3, none⟩ (.int .i64 x.upto)).heap[B + 2]? = some (.cells #[.int .i64 x.rule, .slice o0 x.args.length c0, .int .i64 x.frm, .int .i64 x.upto, .slice none 0 0] 40)) := q02_3.out
  clear q00_0 q00_1 q00_2 q00_3 q01_0 q01_1 q01_2 q01_3 q02_0 q02_1 q02_2 q02_3
  have hsz := v0
  clear v0
  generalize ((w0.setCell ⟨B + 1 + 1, 1, none⟩ (.slice o0 x.args.length c0)).setCell ⟨B + 1 + 1, 2, none⟩ (.int .i64 x.frm)).setCell ⟨B + 1 + 1, 3, none⟩ (.int .i64 x.upto) = W1 at *
  refine (gtoWayS _ x.ways W1 hz1 (RowC.below WayE_stable R1.out C0.out)).mono ?_
  rintro e w1 ⟨o1, c1, rfl, f1, hb1⟩
  have B1 : Hid (Below w.heap.size w w1) := C0.out.trans (hb1.mono C0.out.size)
  have F1_1 : Hid (Fresh (B + 3) w1 (fun W => RowC 2 WayE W (.slice o1 x.ways.length c1) x.ways)) := f1.base hsz
  have F1_0 : Hid (Fresh (B + 3) w1 (fun W => IRow W (.slice o0 x.args.length c0) x.args)) := G0_0.out.below hb1
  have q10_0 : Hid (w1.heap[B]? = some (.cells #[.int .i64 x.rule, .slice aa0 x.args.length ca0, .int .i64 x.frm, .int .i64 x.upto, .slice aa1 x.ways.length ca1] 57)) := (hb1.block B (by omega)).trans P0.out
  have q11_0 : Hid (w1.heap[B + 1]? = some (.cells #[.int .i64 0, .slice none 0 0, .int .i64 0, .int .i64 0, .slice none 0 0] 40)) := (hb1.block (B + 1) (by omega)).trans P1.out
  have q12_0 : Hid (w1.heap[B + 2]? = some (.cells #[.int .i64 x.rule, .slice o0 x.args.length c0, .int .i64 x.frm, .int .i64 x.upto, .slice none 0 0] 40)) := (hb1.block (B + 2) (by omega)).trans P2.out
  have hsz1 : B + 3 ≤ w1.heap.size := Nat.le_trans hsz hb1.size
  clear P0 P1 P2 f1 hb1 hsz
  have y1_4 : (w1).cell? ⟨B + 1 + 1, 4, none⟩ = some (.slice none 0 0) := cell_block (b := B + 2) q12_0.out rfl
  have g1_4 : (w1).frozen? ⟨B + 1 + 1, 4, none⟩ = false := frozen_block (b := B + 2) q12_0.out
  have q10_1 : Hid ((w1.setCell ⟨B + 1 + 1, 4, none⟩ (.slice o1 x.ways.length c1)).heap[B]? = some (.cells #[.int .i64 x.rule, .slice aa0 x.args.length ca0, .int .i64 x.frm, .int .i64 x.upto, .slice aa1 x.ways.length ca1] 57)) := (block_other (b := B) (b' := B + 1 + 1) (by omega)).trans q10_0.out
  have q11_1 : Hid ((w1.setCell ⟨B + 1 + 1, 4, none⟩ (.slice o1 x.ways.length c1)).heap[B + 1]? = some (.cells #[.int .i64 0, .slice none 0 0, .int .i64 0, .int .i64 0, .slice none 0 0] 40)) := (block_other (b := B + 1) (b' := B + 1 + 1) (by omega)).trans q11_0.out
  have q12_1 : Hid ((w1.setCell ⟨B + 1 + 1, 4, none⟩ (.slice o1 x.ways.length c1)).heap[B + 2]? = some (.cells #[.int .i64 x.rule, .slice o0 x.args.length c0, .int .i64 x.frm, .int .i64 x.upto, .slice o1 x.ways.length c1] 40)) := block_set (b := B + 2) q12_0.out
  have C1 : Hid (Below w.heap.size w (w1.setCell ⟨B + 1 + 1, 4, none⟩ (.slice o1 x.ways.length c1))) := (B1.out.setCell (show w.heap.size ≤ B + 1 + 1 by omega) _)
  have G1_0 : Hid (Fresh (B + 3) (w1.setCell ⟨B + 1 + 1, 4, none⟩ (.slice o1 x.ways.length c1)) (fun W => IRow W (.slice o0 x.args.length c0) x.args)) := (F1_0.out.setLow (by omega) _ _)
  have G1_1 : Hid (Fresh (B + 3) (w1.setCell ⟨B + 1 + 1, 4, none⟩ (.slice o1 x.ways.length c1)) (fun W => RowC 2 WayE W (.slice o1 x.ways.length c1) x.ways)) := (F1_1.out.setLow (by omega) _ _)
  have v1 : B + 3 ≤ (w1.setCell ⟨B + 1 + 1, 4, none⟩ (.slice o1 x.ways.length c1)).heap.size := by simpa using hsz1
  have y9_0 : (w1.setCell ⟨B + 1 + 1, 4, none⟩ (.slice o1 x.ways.length c1)).cell? ⟨B + 1 + 1, 0, none⟩ = some (.int .i64 x.rule) := cell_block (b := B + 2) q12_1.out rfl
  have z9_0 : (w1.setCell ⟨B + 1 + 1, 4, none⟩ (.slice o1 x.ways.length c1)).cell? ⟨B + 1, 0, none⟩ = some (.int .i64 0) := cell_block q11_1.out rfl
  have g9_0 : (w1.setCell ⟨B + 1 + 1, 4, none⟩ (.slice o1 x.ways.length c1)).frozen? ⟨B + 1, 0, none⟩ = false := frozen_block q11_1.out
  have y9_1 : (w1.setCell ⟨B + 1 + 1, 4, none⟩ (.slice o1 x.ways.length c1)).cell? ⟨B + 1 + 1, 1, none⟩ = some (.slice o0 x.args.length c0) := cell_block (b := B + 2) q12_1.out rfl
  have z9_1 : (w1.setCell ⟨B + 1 + 1, 4, none⟩ (.slice o1 x.ways.length c1)).cell? ⟨B + 1, 1, none⟩ = some (.slice none 0 0) := cell_block q11_1.out rfl
  have g9_1 : (w1.setCell ⟨B + 1 + 1, 4, none⟩ (.slice o1 x.ways.length c1)).frozen? ⟨B + 1, 1, none⟩ = false := frozen_block q11_1.out
  have y9_2 : (w1.setCell ⟨B + 1 + 1, 4, none⟩ (.slice o1 x.ways.length c1)).cell? ⟨B + 1 + 1, 2, none⟩ = some (.int .i64 x.frm) := cell_block (b := B + 2) q12_1.out rfl
  have z9_2 : (w1.setCell ⟨B + 1 + 1, 4, none⟩ (.slice o1 x.ways.length c1)).cell? ⟨B + 1, 2, none⟩ = some (.int .i64 0) := cell_block q11_1.out rfl
  have g9_2 : (w1.setCell ⟨B + 1 + 1, 4, none⟩ (.slice o1 x.ways.length c1)).frozen? ⟨B + 1, 2, none⟩ = false := frozen_block q11_1.out
  have y9_3 : (w1.setCell ⟨B + 1 + 1, 4, none⟩ (.slice o1 x.ways.length c1)).cell? ⟨B + 1 + 1, 3, none⟩ = some (.int .i64 x.upto) := cell_block (b := B + 2) q12_1.out rfl
  have z9_3 : (w1.setCell ⟨B + 1 + 1, 4, none⟩ (.slice o1 x.ways.length c1)).cell? ⟨B + 1, 3, none⟩ = some (.int .i64 0) := cell_block q11_1.out rfl
  have g9_3 : (w1.setCell ⟨B + 1 + 1, 4, none⟩ (.slice o1 x.ways.length c1)).frozen? ⟨B + 1, 3, none⟩ = false := frozen_block q11_1.out
  have y9_4 : (w1.setCell ⟨B + 1 + 1, 4, none⟩ (.slice o1 x.ways.length c1)).cell? ⟨B + 1 + 1, 4, none⟩ = some (.slice o1 x.ways.length c1) := cell_block (b := B + 2) q12_1.out rfl
  have z9_4 : (w1.setCell ⟨B + 1 + 1, 4, none⟩ (.slice o1 x.ways.length c1)).cell? ⟨B + 1, 4, none⟩ = some (.slice none 0 0) := cell_block q11_1.out rfl
  have g9_4 : (w1.setCell ⟨B + 1 + 1, 4, none⟩ (.slice o1 x.ways.length c1)).frozen? ⟨B + 1, 4, none⟩ = false := frozen_block q11_1.out
  go_wp2
  have P1 : Hid ((w1.setCell ⟨B + 1 + 1, 4, none⟩ (.slice o1 x.ways.length c1)).heap[B + 1]? = some (.cells #[.int .i64 0, .slice none 0 0, .int .i64 0, .int .i64 0, .slice none 0 0] 40)) := q11_1.out
  clear y1_4 g1_4 y9_0 z9_0 g9_0 y9_1 z9_1 g9_1 y9_2 z9_2 g9_2 y9_3 z9_3 g9_3 y9_4 z9_4 g9_4 q10_0 q10_1 q11_0 q11_1 q12_0 q12_1
  generalize w1.setCell ⟨B + 1 + 1, 4, none⟩ (.slice o1 x.ways.length c1) = WL at *
  have FB : Hid (Below w.heap.size w (((((WL.setCell ⟨B + 1, 0, none⟩ (.int .i64 x.rule)).setCell ⟨B + 1, 1, none⟩ (.slice o0 x.args.length c0)).setCell ⟨B + 1, 2, none⟩ (.int .i64 x.frm)).setCell ⟨B + 1, 3, none⟩ (.int .i64 x.upto)).setCell ⟨B + 1, 4, none⟩ (.slice o1 x.ways.length c1))) := (((((C1.out.setCell (show w.heap.size ≤ B + 1 by omega) _).setCell (show w.heap.size ≤ B + 1 by omega) _).setCell (show w.heap.size ≤ B + 1 by omega) _).setCell (show w.heap.size ≤ B + 1 by omega) _).setCell (show w.heap.size ≤ B + 1 by omega) _)
  have FF0 : Hid (Fresh w.heap.size (((((WL.setCell ⟨B + 1, 0, none⟩ (.int .i64 x.rule)).setCell ⟨B + 1, 1, none⟩ (.slice o0 x.args.length c0)).setCell ⟨B + 1, 2, none⟩ (.int .i64 x.frm)).setCell ⟨B + 1, 3, none⟩ (.int .i64 x.upto)).setCell ⟨B + 1, 4, none⟩ (.slice o1 x.ways.length c1)) (fun W => IRow W (.slice o0 x.args.length c0) x.args)) := Fresh.base ((((((G1_0.out.setLow (by omega) _ _).setLow (by omega) _ _).setLow (by omega) _ _).setLow (by omega) _ _).setLow (by omega) _ _)) (show w.heap.size ≤ B + 3 by omega)
  have FF1 : Hid (Fresh w.heap.size (((((WL.setCell ⟨B + 1, 0, none⟩ (.int .i64 x.rule)).setCell ⟨B + 1, 1, none⟩ (.slice o0 x.args.length c0)).setCell ⟨B + 1, 2, none⟩ (.int .i64 x.frm)).setCell ⟨B + 1, 3, none⟩ (.int .i64 x.upto)).setCell ⟨B + 1, 4, none⟩ (.slice o1 x.ways.length c1)) (fun W => RowC 2 WayE W (.slice o1 x.ways.length c1) x.ways)) := Fresh.base ((((((G1_1.out.setLow (by omega) _ _).setLow (by omega) _ _).setLow (by omega) _ _).setLow (by omega) _ _).setLow (by omega) _ _)) (show w.heap.size ≤ B + 3 by omega)
  have rp : (((((WL.setCell ⟨B + 1, 0, none⟩ (.int .i64 x.rule)).setCell ⟨B + 1, 1, none⟩ (.slice o0 x.args.length c0)).setCell ⟨B + 1, 2, none⟩ (.int .i64 x.frm)).setCell ⟨B + 1, 3, none⟩ (.int .i64 x.upto)).setCell ⟨B + 1, 4, none⟩ (.slice o1 x.ways.length c1)).heap[B + 1]? = some (.cells #[.int .i64 x.rule, .slice o0 x.args.length c0, .int .i64 x.frm, .int .i64 x.upto, .slice o1 x.ways.length c1] 40) := block_set (block_set (block_set (block_set (block_set P1.out))))
  have rr0 : (((((WL.setCell ⟨B + 1, 0, none⟩ (.int .i64 x.rule)).setCell ⟨B + 1, 1, none⟩ (.slice o0 x.args.length c0)).setCell ⟨B + 1, 2, none⟩ (.int .i64 x.frm)).setCell ⟨B + 1, 3, none⟩ (.int .i64 x.upto)).setCell ⟨B + 1, 4, none⟩ (.slice o1 x.ways.length c1)).cell? ⟨B + 1, 0, none⟩ = some (.int .i64 x.rule) := cell_block rp rfl
  have rr1 : (((((WL.setCell ⟨B + 1, 0, none⟩ (.int .i64 x.rule)).setCell ⟨B + 1, 1, none⟩ (.slice o0 x.args.length c0)).setCell ⟨B + 1, 2, none⟩ (.int .i64 x.frm)).setCell ⟨B + 1, 3, none⟩ (.int .i64 x.upto)).setCell ⟨B + 1, 4, none⟩ (.slice o1 x.ways.length c1)).cell? ⟨B + 1, 1, none⟩ = some (.slice o0 x.args.length c0) := cell_block rp rfl
  have rr2 : (((((WL.setCell ⟨B + 1, 0, none⟩ (.int .i64 x.rule)).setCell ⟨B + 1, 1, none⟩ (.slice o0 x.args.length c0)).setCell ⟨B + 1, 2, none⟩ (.int .i64 x.frm)).setCell ⟨B + 1, 3, none⟩ (.int .i64 x.upto)).setCell ⟨B + 1, 4, none⟩ (.slice o1 x.ways.length c1)).cell? ⟨B + 1, 2, none⟩ = some (.int .i64 x.frm) := cell_block rp rfl
  have rr3 : (((((WL.setCell ⟨B + 1, 0, none⟩ (.int .i64 x.rule)).setCell ⟨B + 1, 1, none⟩ (.slice o0 x.args.length c0)).setCell ⟨B + 1, 2, none⟩ (.int .i64 x.frm)).setCell ⟨B + 1, 3, none⟩ (.int .i64 x.upto)).setCell ⟨B + 1, 4, none⟩ (.slice o1 x.ways.length c1)).cell? ⟨B + 1, 3, none⟩ = some (.int .i64 x.upto) := cell_block rp rfl
  have rr4 : (((((WL.setCell ⟨B + 1, 0, none⟩ (.int .i64 x.rule)).setCell ⟨B + 1, 1, none⟩ (.slice o0 x.args.length c0)).setCell ⟨B + 1, 2, none⟩ (.int .i64 x.frm)).setCell ⟨B + 1, 3, none⟩ (.int .i64 x.upto)).setCell ⟨B + 1, 4, none⟩ (.slice o1 x.ways.length c1)).cell? ⟨B + 1, 4, none⟩ = some (.slice o1 x.ways.length c1) := cell_block rp rfl
  clear rp P1 v1
  generalize ((((WL.setCell ⟨B + 1, 0, none⟩ (.int .i64 x.rule)).setCell ⟨B + 1, 1, none⟩ (.slice o0 x.args.length c0)).setCell ⟨B + 1, 2, none⟩ (.int .i64 x.frm)).setCell ⟨B + 1, 3, none⟩ (.int .i64 x.upto)).setCell ⟨B + 1, 4, none⟩ (.slice o1 x.ways.length c1) = W9 at *
  (try simp only [Exit.inBlock, Exit.then])
  refine bodyPost_ret (by simp [results, Try.results31, go_sem, rr0, rr1, rr2, rr3, rr4]; try rfl) rfl ?_
  exact ⟨_, _, _, _, rfl, FF0.out, FF1.out, FB.out⟩

theorem Try.infoPart : (Try.prog.info? 40).map (fun i => (i.zero, i.size, i.bytes)) = some (some (.agg #[.int .i64 0, .slice none 0 0, .int .i64 0, .int .i64 0, .slice none 0 0]), 5, 72) := by kernel_rfl
set_option maxHeartbeats 3200000 in
set_option maxRecDepth 100000 in
theorem gtoPartS (v : Value) (xs : List (PartD)) (w : World) (hz : rowTot partTot xs ≤ 1048576) (h : RowC 5 PartE w v xs) :
    Calls Try.prog 20 #[v] w fun e w' => ∃ a c, e = .returned (.slice a xs.length c) ∧ Fresh w.heap.size w' (fun W => RowC 5 PartE W (.slice a xs.length c) xs) ∧ Below w.heap.size w w' := by
  obtain ⟨i0, hi, hz0, hz1, hz2⟩ := info_parts Try.infoPart
  have hn := rowTot_len partTot xs
  have HR : Hid (RowC 5 PartE w v xs) := h
  obtain ⟨a, cap, rfl⟩ := h.slice
  clear h
  go_enter Try.func20, Try.ntmps20
  go_wp2_with (at_make; refine wpList_make_full _ rfl _ _ 27 rfl w.heap.size 40 i0 _ 5 Try.underlying27 hi hz0 hz1 .i64 .i64 _ _ xs.length rfl rfl rfl rfl (by rw [hz2]; omega) (by unfold maxLen; omega) (Nat.le_refl _) ?_; intro w1 hown hg1)
  have HO : Hid (RowTo 5 PartE 40 w.heap.size w.heap.size xs 0 w1) := rowTo_start hown
  have HB1 : Hid (Below w.heap.size w w1) := (Below.refl _ _).grown hg1 (Nat.le_refl _) (fun k h => by cases h)
  clear hown hg1
  go_loopw [4] (fun iv wr => ∃ k : Nat, iv = .int .i64 k ∧ k ≤ xs.length ∧ RowTo 5 PartE 40 w.heap.size w.heap.size xs k wr ∧ Below w.heap.size w wr) (fun iv _ => xs.length - (intOf iv).toNat)
  case atStart => exact ⟨0, rfl, Nat.zero_le _, HO.out, HB1.out⟩
  case round =>
    obtain ⟨k, rfl, hk, hrow, hb⟩ := hrel
    have HW : Hid (RowTo 5 PartE 40 w.heap.size w.heap.size xs k wr) := hrow
    have HB : Hid (Below w.heap.size w wr) := hb
    have HRr : Hid (RowC 5 PartE wr (.slice a xs.length cap) xs) := RowC.below PartE_stable HR.out hb
    have hgt : w.heap.size + 1 ≤ wr.heap.size := by
      obtain ⟨cs, ho⟩ := hrow.own
      exact (World.ownsRow.lt ho w.heap.size rfl).2
    clear hb hrow HO HB1
    by_cases hlt : k < xs.length
    · obtain ⟨b, off, vs, rfl, _, hc, hE⟩ := HRr.out.at hlt
      obtain ⟨r0, r1, rfl, hh0, hh1⟩ := hE
      have n0 : wr.cell? ⟨b, off + k * 5, none⟩ = some (.int .i64 xs[k].rule) := hc 0 (by simp)
      have n1 : wr.cell? ⟨b, off + k * 5 + 1, none⟩ = some (r0) := hc 1 (by simp)
      have n2 : wr.cell? ⟨b, off + k * 5 + 2, none⟩ = some (.int .i64 xs[k].frm) := hc 2 (by simp)
      have n3 : wr.cell? ⟨b, off + k * 5 + 3, none⟩ = some (.int .i64 xs[k].upto) := hc 3 (by simp)
      have n4 : wr.cell? ⟨b, off + k * 5 + 4, none⟩ = some (r1) := hc 4 (by simp)
      have HT : Hid (∀ W, Below wr.heap.size wr W → _) := fun W hW => gtoPart r0 r1 xs[k] W (by have := rowTot_mem partTot (List.getElem_mem hlt); omega) (hh0.below hW) (RowC.below WayE_stable hh1 hW)
      obtain ⟨aa0, ca0, rfl⟩ := hh0.slice
      obtain ⟨aa1, ca1, rfl⟩ := hh1.slice
      clear hc hh0 hh1
      go_wp2_with fail
      refine (HT.out _ (Below.refl _ _)).mono ?_
      rintro e w2 ⟨o0, c0, o1, c1, rfl, f0, f1, hb2⟩
      have HB2 : Hid (Below w.heap.size w w2) := HB.out.trans (hb2.mono HB.out.size)
      have HW2 : Hid (RowTo 5 PartE 40 w.heap.size w.heap.size xs k w2) := HW.out.below hb2
      have HE2 : Hid (Fresh (w.heap.size + 1) w2 (fun W => PartE W [.int .i64 xs[k].rule, .slice o0 xs[k].args.length c0, .int .i64 xs[k].frm, .int .i64 xs[k].upto, .slice o1 xs[k].ways.length c1] xs[k])) := fun W h1 h2 => ⟨_, _, rfl, (f0.base hgt) W h1 h2, (f1.base hgt) W h1 h2⟩
      obtain ⟨cs, O2⟩ := HW2.out.own
      obtain ⟨d0, hd0, hf0⟩ := own_cell O2 (k * 5) (by omega)
      obtain ⟨d1, hd1, hf1⟩ := own_cell O2 (k * 5 + 1) (by omega)
      obtain ⟨d2, hd2, hf2⟩ := own_cell O2 (k * 5 + 2) (by omega)
      obtain ⟨d3, hd3, hf3⟩ := own_cell O2 (k * 5 + 3) (by omega)
      obtain ⟨d4, hd4, hf4⟩ := own_cell O2 (k * 5 + 4) (by omega)
      clear O2 hb2 HT HW f0 f1
      go_wp2
      have HN : Hid (RowTo 5 PartE 40 w.heap.size w.heap.size xs (k + 1) (setsW w2 w.heap.size (k * 5) [.int .i64 xs[k].rule, .slice o0 xs[k].args.length c0, .int .i64 xs[k].frm, .int .i64 xs[k].upto, .slice o1 xs[k].ways.length c1])) := HW2.out.next hlt rfl HE2.out
      have HB3 : Hid (Below w.heap.size w (setsW w2 w.heap.size (k * 5) [.int .i64 xs[k].rule, .slice o0 xs[k].args.length c0, .int .i64 xs[k].frm, .int .i64 xs[k].upto, .slice o1 xs[k].ways.length c1])) := setsW_below HB2.out (Nat.le_refl _) _ _
      skip
      go_roundw
      case rel => exact ⟨k + 1, by go_num, by omega, HN.out, HB3.out⟩
      case measure => simp [intOf]; omega
    · obtain rfl : k = xs.length := by omega
      have HF : Hid (Fresh w.heap.size wr (fun W => RowC 5 PartE W (.slice (some ⟨w.heap.size, 0, none⟩) xs.length xs.length) xs)) := HW.out.done
      clear HW
      go_wp2
      go_ret
      exact ⟨_, _, rfl, HF.out, HB.out⟩

set_option maxHeartbeats 3200000 in
set_option maxRecDepth 100000 in
theorem gtoForest (r0 : Value) (x : List PartD) (w : World) (hz : forestTot x ≤ 1048576) (hh0 : RowC 5 PartE w r0 x) :
    Calls Try.prog 8 #[.agg #[r0]] w fun e w' => ∃ o0 c0, e = .returned (.agg #[.slice o0 x.length c0]) ∧ Fresh w.heap.size w' (fun W => RowC 5 PartE W (.slice o0 x.length c0) x) ∧ Below w.heap.size w w' := by
  have HTt : forestTot x = rowTot partTot x := rfl
  have R0 : Hid (RowC 5 PartE w r0 x) := hh0
  obtain ⟨aa0, ca0, rfl⟩ := hh0.slice
  have hz0 : rowTot partTot x ≤ 1048576 := by omega
  clear HTt hz hh0
  obtain ⟨B, hB⟩ : ∃ B, w.heap.size = B := ⟨_, rfl⟩
  go_enter Try.func8, Try.ntmps8
  go_wp2_with fail
  obtain ⟨k0, k1, k2⟩ := box_three w #[.slice aa0 x.length ca0] #[.slice none 0 0] #[.slice none 0 0] 24 29 hB
  have P0 : Hid ((((w.alloc (.cells #[.slice aa0 x.length ca0] 24)).alloc (.cells #[.slice none 0 0] 29)).alloc (.cells #[.slice none 0 0] 29)).heap[B]? = some (.cells #[.slice aa0 x.length ca0] 24)) := k0
  have P1 : Hid ((((w.alloc (.cells #[.slice aa0 x.length ca0] 24)).alloc (.cells #[.slice none 0 0] 29)).alloc (.cells #[.slice none 0 0] 29)).heap[B + 1]? = some (.cells #[.slice none 0 0] 29)) := k1
  have P2 : Hid ((((w.alloc (.cells #[.slice aa0 x.length ca0] 24)).alloc (.cells #[.slice none 0 0] 29)).alloc (.cells #[.slice none 0 0] 29)).heap[B + 2]? = some (.cells #[.slice none 0 0] 29)) := k2
  have BW : Hid (Below w.heap.size w (((w.alloc (.cells #[.slice aa0 x.length ca0] 24)).alloc (.cells #[.slice none 0 0] 29)).alloc (.cells #[.slice none 0 0] 29))) := (((Below.refl _ _).alloc (Nat.le_refl _) _).alloc (by simp) _).alloc (by simp; omega) _
  have hsz : B + 3 ≤ (((w.alloc (.cells #[.slice aa0 x.length ca0] 24)).alloc (.cells #[.slice none 0 0] 29)).alloc (.cells #[.slice none 0 0] 29)).heap.size := by simp [hB]
  clear k0 k1 k2
  generalize ((w.alloc (.cells #[.slice aa0 x.length ca0] 24)).alloc (.cells #[.slice none 0 0] 29)).alloc (.cells #[.slice none 0 0] 29) = W0 at *
  refine (gtoPartS _ x W0 hz0 (RowC.below PartE_stable R0.out BW.out)).mono ?_
  rintro e w0 ⟨o0, c0, rfl, f0, hb0⟩
  have B0 : Hid (Below w.heap.size w w0) := BW.out.trans (hb0.mono BW.out.size)
  have F0_0 : Hid (Fresh (B + 3) w0 (fun W => RowC 5 PartE W (.slice o0 x.length c0) x)) := f0.base hsz
  have q00_0 : Hid (w0.heap[B]? = some (.cells #[.slice aa0 x.length ca0] 24)) := (hb0.block B (by omega)).trans P0.out
  have q01_0 : Hid (w0.heap[B + 1]? = some (.cells #[.slice none 0 0] 29)) := (hb0.block (B + 1) (by omega)).trans P1.out
  have q02_0 : Hid (w0.heap[B + 2]? = some (.cells #[.slice none 0 0] 29)) := (hb0.block (B + 2) (by omega)).trans P2.out
  have hsz0 : B + 3 ≤ w0.heap.size := Nat.le_trans hsz hb0.size
  clear P0 P1 P2 f0 hb0 hsz BW
  have y0_0 : (w0).cell? ⟨B + 1 + 1, 0, none⟩ = some (.slice none 0 0) := cell_block (b := B + 2) q02_0.out rfl
  have g0_0 : (w0).frozen? ⟨B + 1 + 1, 0, none⟩ = false := frozen_block (b := B + 2) q02_0.out
  have q00_1 : Hid ((w0.setCell ⟨B + 1 + 1, 0, none⟩ (.slice o0 x.length c0)).heap[B]? = some (.cells #[.slice aa0 x.length ca0] 24)) := (block_other (b := B) (b' := B + 1 + 1) (by omega)).trans q00_0.out
  have q01_1 : Hid ((w0.setCell ⟨B + 1 + 1, 0, none⟩ (.slice o0 x.length c0)).heap[B + 1]? = some (.cells #[.slice none 0 0] 29)) := (block_other (b := B + 1) (b' := B + 1 + 1) (by omega)).trans q01_0.out
  have q02_1 : Hid ((w0.setCell ⟨B + 1 + 1, 0, none⟩ (.slice o0 x.length c0)).heap[B + 2]? = some (.cells #[.slice o0 x.length c0] 29)) := block_set (b := B + 2) q02_0.out
  have C0 : Hid (Below w.heap.size w (w0.setCell ⟨B + 1 + 1, 0, none⟩ (.slice o0 x.length c0))) := (B0.out.setCell (show w.heap.size ≤ B + 1 + 1 by omega) _)
  have G0_0 : Hid (Fresh (B + 3) (w0.setCell ⟨B + 1 + 1, 0, none⟩ (.slice o0 x.length c0)) (fun W => RowC 5 PartE W (.slice o0 x.length c0) x)) := (F0_0.out.setLow (by omega) _ _)
  have v0 : B + 3 ≤ (w0.setCell ⟨B + 1 + 1, 0, none⟩ (.slice o0 x.length c0)).heap.size := by simpa using hsz0
  have y9_0 : (w0.setCell ⟨B + 1 + 1, 0, none⟩ (.slice o0 x.length c0)).cell? ⟨B + 1 + 1, 0, none⟩ = some (.slice o0 x.length c0) := cell_block (b := B + 2) q02_1.out rfl
  have z9_0 : (w0.setCell ⟨B + 1 + 1, 0, none⟩ (.slice o0 x.length c0)).cell? ⟨B + 1, 0, none⟩ = some (.slice none 0 0) := cell_block q01_1.out rfl
  have g9_0 : (w0.setCell ⟨B + 1 + 1, 0, none⟩ (.slice o0 x.length c0)).frozen? ⟨B + 1, 0, none⟩ = false := frozen_block q01_1.out
  go_wp2
  have P1 : Hid ((w0.setCell ⟨B + 1 + 1, 0, none⟩ (.slice o0 x.length c0)).heap[B + 1]? = some (.cells #[.slice none 0 0] 29)) := q01_1.out
  clear y0_0 g0_0 y9_0 z9_0 g9_0 q00_0 q00_1 q01_0 q01_1 q02_0 q02_1
  generalize w0.setCell ⟨B + 1 + 1, 0, none⟩ (.slice o0 x.length c0) = WL at *
  have FB : Hid (Below w.heap.size w (WL.setCell ⟨B + 1, 0, none⟩ (.slice o0 x.length c0))) := (C0.out.setCell (show w.heap.size ≤ B + 1 by omega) _)
  have FF0 : Hid (Fresh w.heap.size (WL.setCell ⟨B + 1, 0, none⟩ (.slice o0 x.length c0)) (fun W => RowC 5 PartE W (.slice o0 x.length c0) x)) := Fresh.base ((G0_0.out.setLow (by omega) _ _)) (show w.heap.size ≤ B + 3 by omega)
  have rp : (WL.setCell ⟨B + 1, 0, none⟩ (.slice o0 x.length c0)).heap[B + 1]? = some (.cells #[.slice o0 x.length c0] 29) := block_set P1.out
  have rr0 : (WL.setCell ⟨B + 1, 0, none⟩ (.slice o0 x.length c0)).cell? ⟨B + 1, 0, none⟩ = some (.slice o0 x.length c0) := cell_block rp rfl
  clear rp P1 v0
  generalize WL.setCell ⟨B + 1, 0, none⟩ (.slice o0 x.length c0) = W9 at *
  (try simp only [Exit.inBlock, Exit.then])
  refine bodyPost_ret (by simp [results, Try.results8, go_sem, rr0]; try rfl) rfl ?_
  exact ⟨_, _, rfl, FF0.out, FB.out⟩

end Go.Proofs.Ytpcfcheicdnogaa
