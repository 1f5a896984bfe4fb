/- The laws' helpers: one is the same as its like (printed by mk/kitset.py). -/
import Derived.Test.YtpcfcheicdnogaaWData
import Derived.Test.YtpcfcheicdnogaaGEq
namespace Go.Proofs.Ytpcfcheicdnogaa
open Go.RowKit

theorem geqIntS (u v : Value) (xs : List Int) (w : World) (hz : List.length xs ≤ 1048576) (h : IRow w u xs) (h' : IRow w v xs) :
    Calls Try.prog 39 #[u, v] w fun e w' => e = .returned (.bool true) ∧ Below w.heap.size w w' := by
  refine (eqIntS_same u v xs w hz h h').mono ?_
  rintro e w' ⟨rfl, q, rfl⟩
  exact ⟨rfl, bel_drewN (Below.refl _ _) q⟩
theorem gkeep4 {W W' : World} {a0 a1 a2 a3 : Addr} {x0 x1 x2 x3 : Value} (h : W.cell? a0 = some x0 ∧ W.cell? a1 = some x1 ∧ W.cell? a2 = some x2 ∧ W.cell? a3 = some x3) (hb : Below W.heap.size W W') : W'.cell? a0 = some x0 ∧ W'.cell? a1 = some x1 ∧ W'.cell? a2 = some x2 ∧ W'.cell? a3 = some x3 :=
  ⟨cell_keep h.1 hb, cell_keep h.2.1 hb, cell_keep h.2.2.1 hb, cell_keep h.2.2.2 hb⟩
theorem gkeep10 {W W' : World} {a0 a1 a2 a3 a4 a5 a6 a7 a8 a9 : Addr} {x0 x1 x2 x3 x4 x5 x6 x7 x8 x9 : Value} (h : W.cell? a0 = some x0 ∧ W.cell? a1 = some x1 ∧ W.cell? a2 = some x2 ∧ W.cell? a3 = some x3 ∧ W.cell? a4 = some x4 ∧ W.cell? a5 = some x5 ∧ W.cell? a6 = some x6 ∧ W.cell? a7 = some x7 ∧ W.cell? a8 = some x8 ∧ W.cell? a9 = some x9) (hb : Below W.heap.size W W') : W'.cell? a0 = some x0 ∧ W'.cell? a1 = some x1 ∧ W'.cell? a2 = some x2 ∧ W'.cell? a3 = some x3 ∧ W'.cell? a4 = some x4 ∧ W'.cell? a5 = some x5 ∧ W'.cell? a6 = some x6 ∧ W'.cell? a7 = some x7 ∧ W'.cell? a8 = some x8 ∧ W'.cell? a9 = some x9 :=
  ⟨cell_keep h.1 hb, cell_keep h.2.1 hb, cell_keep h.2.2.1 hb, cell_keep h.2.2.2.1 hb, cell_keep h.2.2.2.2.1 hb, cell_keep h.2.2.2.2.2.1 hb, cell_keep h.2.2.2.2.2.2.1 hb, cell_keep h.2.2.2.2.2.2.2.1 hb, cell_keep h.2.2.2.2.2.2.2.2.1 hb, cell_keep h.2.2.2.2.2.2.2.2.2 hb⟩

set_option maxHeartbeats 1600000 in
theorem geqWay (r0 u0 : Value) (x : WayD) (w : World) (hz : wayTot x ≤ 1048576) (hh0 : IRow w r0 x.kids) (gg0 : IRow w u0 x.kids) :
    Calls Try.prog 43 #[.agg #[.int .i64 x.alt, r0], .agg #[.int .i64 x.alt, u0]] w fun e w' => e = .returned (.bool true) ∧ Below w.heap.size w w' := by
  have HTt : wayTot x = List.length x.kids := rfl
  have BW : Hid (Below w.heap.size w ((w.alloc (.cells #[.int .i64 x.alt, r0] 42)).alloc (.cells #[.int .i64 x.alt, u0] 42))) := ((Below.refl _ _).alloc (Nat.le_refl _) _).alloc (by simp) _
  have R0 : Hid (IRow w r0 x.kids) := hh0
  have U0 : Hid (IRow w u0 x.kids) := gg0
  obtain ⟨aa0, ca0, rfl⟩ := hh0.slice
  obtain ⟨ba0, da0, rfl⟩ := gg0.slice
  clear hh0 gg0
  go_enter Try.func43, Try.ntmps43
  go_wp2_with fail
  refine (geqIntS _ _ x.kids _ (by omega) (R0.out.below BW.out) (U0.out.below BW.out)).mono ?_
  rintro e w0 ⟨rfl, hb0⟩
  have B0 : Hid (Below w.heap.size w w0) := BW.out.trans (hb0.mono BW.out.size)
  clear hb0
  go_wp2
  go_ret
  exact ⟨rfl, B0.out⟩

set_option maxHeartbeats 3200000 in
theorem geqWayS (u v : Value) (xs : List (WayD)) (w : World) (hz : rowTot wayTot xs ≤ 1048576) (h : RowC 2 WayE w u xs) (h' : RowC 2 WayE w v xs) :
    Calls Try.prog 40 #[u, v] w fun e w' => e = .returned (.bool true) ∧ Below w.heap.size w w' := by
  have HX : Hid (RowC 2 WayE w u xs) := h
  have HY : Hid (RowC 2 WayE w v xs) := h'
  have hn := rowTot_len wayTot xs
  obtain ⟨a, cap, rfl⟩ := h.slice
  obtain ⟨a', cap', rfl⟩ := h'.slice
  clear h h'
  go_enter Try.func40, Try.ntmps40
  go_wp2
  go_loopw [5] (fun iv wr => ∃ k : Nat, iv = .int .i64 k ∧ k ≤ xs.length ∧ Below w.heap.size w wr) (fun iv _ => xs.length - (intOf iv).toNat)
  case atStart => exact ⟨0, rfl, Nat.zero_le _, Below.refl _ _⟩
  case round =>
    obtain ⟨k, rfl, hk, hb⟩ := hrel
    have HB : Hid (Below w.heap.size w wr) := hb
    have HXr : Hid (RowC 2 WayE wr (.slice a xs.length cap) xs) := RowC.below WayE_stable HX.out hb
    have HYr : Hid (RowC 2 WayE wr (.slice a' xs.length cap') xs) := RowC.below WayE_stable HY.out hb
    clear hb
    by_cases hlt : k < xs.length
    · obtain ⟨b, off, vs, rfl, _, hc, hE⟩ := HXr.out.at hlt
      obtain ⟨b', off', vs', rfl, _, hc', hE'⟩ := HYr.out.at hlt
      obtain ⟨r0, rfl, hh0⟩ := hE
      obtain ⟨u0, rfl, gg0⟩ := hE'
      have n0 : wr.cell? ⟨b, off + k * 2, none⟩ = some (.int .i64 xs[k].alt) := hc 0 (by simp)
      have n1 : wr.cell? ⟨b, off + k * 2 + 1, none⟩ = some (r0) := hc 1 (by simp)
      have m0 : wr.cell? ⟨b', off' + k * 2, none⟩ = some (.int .i64 xs[k].alt) := hc' 0 (by simp)
      have m1 : wr.cell? ⟨b', off' + k * 2 + 1, none⟩ = some (u0) := hc' 1 (by simp)
      have i4 : (k : Int) < (xs.length : Int) := by omega
      have HE : Hid (_) := geqWay r0 u0 xs[k] wr.drew (by have := rowTot_mem wayTot (List.getElem_mem hlt); omega) (hh0.below (bel_drewN (Below.refl _ _) 1)) (gg0.below (bel_drewN (Below.refl _ _) 1))
      obtain ⟨aa0, ca0, rfl⟩ := hh0.slice
      obtain ⟨ba0, da0, rfl⟩ := gg0.slice
      clear hc hc' hh0 gg0
      go_wp2
      go_region_held3 (fun W => W.cell? ⟨b, off + k * 2, none⟩ = some (.int .i64 xs[k].alt) ∧ W.cell? ⟨b, off + k * 2 + 1, none⟩ = some (.slice aa0 xs[k].kids.length ca0) ∧ W.cell? ⟨b', off' + k * 2, none⟩ = some (.int .i64 xs[k].alt) ∧ W.cell? ⟨b', off' + k * 2 + 1, none⟩ = some (.slice ba0 xs[k].kids.length da0))
        ((first | exact gkeep4 (by assumption) hb2 | go_keep))
        ((first | (go_at_call 43; refine Calls.mono HE.out ?_; rintro e w2 ⟨rfl, hb2⟩)))
      have HB2 : Hid (Below w.heap.size w w2) := HB.out.trans ((bel_of_drew hb2).mono HB.out.size)
      clear hb2
      go_wp2
      go_roundw
      case rel => exact ⟨k + 1, by go_num, by omega, HB2.out⟩
      case measure => simp [intOf]; omega
    · obtain rfl : k = xs.length := by omega
      go_wp2
      go_ret
      exact ⟨rfl, HB.out⟩

set_option maxHeartbeats 1600000 in
theorem geqPart (r0 r1 u0 u1 : Value) (x : PartD) (w : World) (hz : partTot x ≤ 1048576) (hh0 : IRow w r0 x.args) (gg0 : IRow w u0 x.args) (hh1 : RowC 2 WayE w r1 x.ways) (gg1 : RowC 2 WayE w u1 x.ways) :
    Calls Try.prog 33 #[.agg #[.int .i64 x.rule, r0, .int .i64 x.frm, .int .i64 x.upto, r1], .agg #[.int .i64 x.rule, u0, .int .i64 x.frm, .int .i64 x.upto, u1]] w fun e w' => e = .returned (.bool true) ∧ Below w.heap.size w w' := by
  have HTt : partTot x = List.length x.args + rowTot wayTot x.ways := rfl
  have BW : Hid (Below w.heap.size w ((w.alloc (.cells #[.int .i64 x.rule, r0, .int .i64 x.frm, .int .i64 x.upto, r1] 40)).alloc (.cells #[.int .i64 x.rule, u0, .int .i64 x.frm, .int .i64 x.upto, u1] 40))) := ((Below.refl _ _).alloc (Nat.le_refl _) _).alloc (by simp) _
  have R0 : Hid (IRow w r0 x.args) := hh0
  have U0 : Hid (IRow w u0 x.args) := gg0
  obtain ⟨aa0, ca0, rfl⟩ := hh0.slice
  obtain ⟨ba0, da0, rfl⟩ := gg0.slice
  have R1 : Hid (RowC 2 WayE w r1 x.ways) := hh1
  have U1 : Hid (RowC 2 WayE w u1 x.ways) := gg1
  obtain ⟨aa1, ca1, rfl⟩ := hh1.slice
  obtain ⟨ba1, da1, rfl⟩ := gg1.slice
  clear hh0 gg0 hh1 gg1
  go_enter Try.func33, Try.ntmps33
  go_wp2_with fail
  refine (geqIntS _ _ x.args _ (by omega) (R0.out.below BW.out) (U0.out.below BW.out)).mono ?_
  rintro e w0 ⟨rfl, hb0⟩
  have B0 : Hid (Below w.heap.size w w0) := BW.out.trans (hb0.mono BW.out.size)
  have K0_2 : w0.cell? ⟨w.heap.size, 2, none⟩ = some (.int .i64 x.frm) := cell_keep (box_two w #[.int .i64 x.rule, .slice aa0 x.args.length ca0, .int .i64 x.frm, .int .i64 x.upto, .slice aa1 x.ways.length ca1] #[.int .i64 x.rule, .slice ba0 x.args.length da0, .int .i64 x.frm, .int .i64 x.upto, .slice ba1 x.ways.length da1] 40 40 2 _ rfl) hb0
  have L0_2 : w0.cell? ⟨w.heap.size + 1, 2, none⟩ = some (.int .i64 x.frm) := cell_keep (box_two' w #[.int .i64 x.rule, .slice aa0 x.args.length ca0, .int .i64 x.frm, .int .i64 x.upto, .slice aa1 x.ways.length ca1] #[.int .i64 x.rule, .slice ba0 x.args.length da0, .int .i64 x.frm, .int .i64 x.upto, .slice ba1 x.ways.length da1] 40 40 2 _ rfl) hb0
  have K0_3 : w0.cell? ⟨w.heap.size, 3, none⟩ = some (.int .i64 x.upto) := cell_keep (box_two w #[.int .i64 x.rule, .slice aa0 x.args.length ca0, .int .i64 x.frm, .int .i64 x.upto, .slice aa1 x.ways.length ca1] #[.int .i64 x.rule, .slice ba0 x.args.length da0, .int .i64 x.frm, .int .i64 x.upto, .slice ba1 x.ways.length da1] 40 40 3 _ rfl) hb0
  have L0_3 : w0.cell? ⟨w.heap.size + 1, 3, none⟩ = some (.int .i64 x.upto) := cell_keep (box_two' w #[.int .i64 x.rule, .slice aa0 x.args.length ca0, .int .i64 x.frm, .int .i64 x.upto, .slice aa1 x.ways.length ca1] #[.int .i64 x.rule, .slice ba0 x.args.length da0, .int .i64 x.frm, .int .i64 x.upto, .slice ba1 x.ways.length da1] 40 40 3 _ rfl) hb0
  have K0_4 : w0.cell? ⟨w.heap.size, 4, none⟩ = some (.slice aa1 x.ways.length ca1) := cell_keep (box_two w #[.int .i64 x.rule, .slice aa0 x.args.length ca0, .int .i64 x.frm, .int .i64 x.upto, .slice aa1 x.ways.length ca1] #[.int .i64 x.rule, .slice ba0 x.args.length da0, .int .i64 x.frm, .int .i64 x.upto, .slice ba1 x.ways.length da1] 40 40 4 _ rfl) hb0
  have L0_4 : w0.cell? ⟨w.heap.size + 1, 4, none⟩ = some (.slice ba1 x.ways.length da1) := cell_keep (box_two' w #[.int .i64 x.rule, .slice aa0 x.args.length ca0, .int .i64 x.frm, .int .i64 x.upto, .slice aa1 x.ways.length ca1] #[.int .i64 x.rule, .slice ba0 x.args.length da0, .int .i64 x.frm, .int .i64 x.upto, .slice ba1 x.ways.length da1] 40 40 4 _ rfl) hb0
  clear hb0
  go_wp2_with fail
  refine (geqWayS _ _ x.ways _ (by omega) (RowC.below WayE_stable R1.out B0.out) (RowC.below WayE_stable U1.out B0.out)).mono ?_
  rintro e w1 ⟨rfl, hb1⟩
  have B1 : Hid (Below w.heap.size w w1) := B0.out.trans (hb1.mono B0.out.size)
  clear hb1
  go_wp2
  go_ret
  exact ⟨rfl, B1.out⟩

set_option maxHeartbeats 3200000 in
theorem geqPartS (u v : Value) (xs : List (PartD)) (w : World) (hz : rowTot partTot xs ≤ 1048576) (h : RowC 5 PartE w u xs) (h' : RowC 5 PartE w v xs) :
    Calls Try.prog 23 #[u, v] w fun e w' => e = .returned (.bool true) ∧ Below w.heap.size w w' := by
  have HX : Hid (RowC 5 PartE w u xs) := h
  have HY : Hid (RowC 5 PartE w v xs) := h'
  have hn := rowTot_len partTot xs
  obtain ⟨a, cap, rfl⟩ := h.slice
  obtain ⟨a', cap', rfl⟩ := h'.slice
  clear h h'
  go_enter Try.func23, Try.ntmps23
  go_wp2
  go_loopw [5] (fun iv wr => ∃ k : Nat, iv = .int .i64 k ∧ k ≤ xs.length ∧ Below w.heap.size w wr) (fun iv _ => xs.length - (intOf iv).toNat)
  case atStart => exact ⟨0, rfl, Nat.zero_le _, Below.refl _ _⟩
  case round =>
    obtain ⟨k, rfl, hk, hb⟩ := hrel
    have HB : Hid (Below w.heap.size w wr) := hb
    have HXr : Hid (RowC 5 PartE wr (.slice a xs.length cap) xs) := RowC.below PartE_stable HX.out hb
    have HYr : Hid (RowC 5 PartE wr (.slice a' xs.length cap') xs) := RowC.below PartE_stable HY.out hb
    clear hb
    by_cases hlt : k < xs.length
    · obtain ⟨b, off, vs, rfl, _, hc, hE⟩ := HXr.out.at hlt
      obtain ⟨b', off', vs', rfl, _, hc', hE'⟩ := HYr.out.at hlt
      obtain ⟨r0, r1, rfl, hh0, hh1⟩ := hE
      obtain ⟨u0, u1, rfl, gg0, gg1⟩ := hE'
      have n0 : wr.cell? ⟨b, off + k * 5, none⟩ = some (.int .i64 xs[k].rule) := hc 0 (by simp)
      have n1 : wr.cell? ⟨b, off + k * 5 + 1, none⟩ = some (r0) := hc 1 (by simp)
      have n2 : wr.cell? ⟨b, off + k * 5 + 2, none⟩ = some (.int .i64 xs[k].frm) := hc 2 (by simp)
      have n3 : wr.cell? ⟨b, off + k * 5 + 3, none⟩ = some (.int .i64 xs[k].upto) := hc 3 (by simp)
      have n4 : wr.cell? ⟨b, off + k * 5 + 4, none⟩ = some (r1) := hc 4 (by simp)
      have m0 : wr.cell? ⟨b', off' + k * 5, none⟩ = some (.int .i64 xs[k].rule) := hc' 0 (by simp)
      have m1 : wr.cell? ⟨b', off' + k * 5 + 1, none⟩ = some (u0) := hc' 1 (by simp)
      have m2 : wr.cell? ⟨b', off' + k * 5 + 2, none⟩ = some (.int .i64 xs[k].frm) := hc' 2 (by simp)
      have m3 : wr.cell? ⟨b', off' + k * 5 + 3, none⟩ = some (.int .i64 xs[k].upto) := hc' 3 (by simp)
      have m4 : wr.cell? ⟨b', off' + k * 5 + 4, none⟩ = some (u1) := hc' 4 (by simp)
      have i4 : (k : Int) < (xs.length : Int) := by omega
      have HE : Hid (_) := geqPart r0 r1 u0 u1 xs[k] wr.drew (by have := rowTot_mem partTot (List.getElem_mem hlt); omega) (hh0.below (bel_drewN (Below.refl _ _) 1)) (gg0.below (bel_drewN (Below.refl _ _) 1)) (RowC.below WayE_stable hh1 (bel_drewN (Below.refl _ _) 1)) (RowC.below WayE_stable gg1 (bel_drewN (Below.refl _ _) 1))
      obtain ⟨aa0, ca0, rfl⟩ := hh0.slice
      obtain ⟨ba0, da0, rfl⟩ := gg0.slice
      obtain ⟨aa1, ca1, rfl⟩ := hh1.slice
      obtain ⟨ba1, da1, rfl⟩ := gg1.slice
      clear hc hc' hh0 gg0 hh1 gg1
      go_wp2
      go_region_held3 (fun W => W.cell? ⟨b, off + k * 5, none⟩ = some (.int .i64 xs[k].rule) ∧ W.cell? ⟨b, off + k * 5 + 1, none⟩ = some (.slice aa0 xs[k].args.length ca0) ∧ W.cell? ⟨b, off + k * 5 + 2, none⟩ = some (.int .i64 xs[k].frm) ∧ W.cell? ⟨b, off + k * 5 + 3, none⟩ = some (.int .i64 xs[k].upto) ∧ W.cell? ⟨b, off + k * 5 + 4, none⟩ = some (.slice aa1 xs[k].ways.length ca1) ∧ W.cell? ⟨b', off' + k * 5, none⟩ = some (.int .i64 xs[k].rule) ∧ W.cell? ⟨b', off' + k * 5 + 1, none⟩ = some (.slice ba0 xs[k].args.length da0) ∧ W.cell? ⟨b', off' + k * 5 + 2, none⟩ = some (.int .i64 xs[k].frm) ∧ W.cell? ⟨b', off' + k * 5 + 3, none⟩ = some (.int .i64 xs[k].upto) ∧ W.cell? ⟨b', off' + k * 5 + 4, none⟩ = some (.slice ba1 xs[k].ways.length da1))
        ((first | exact gkeep10 (by assumption) hb2 | go_keep))
        ((first | (go_at_call 33; refine Calls.mono HE.out ?_; rintro e w2 ⟨rfl, hb2⟩)))
      have HB2 : Hid (Below w.heap.size w w2) := HB.out.trans ((bel_of_drew hb2).mono HB.out.size)
      clear hb2
      go_wp2
      go_roundw
      case rel => exact ⟨k + 1, by go_num, by omega, HB2.out⟩
      case measure => simp [intOf]; omega
    · obtain rfl : k = xs.length := by omega
      go_wp2
      go_ret
      exact ⟨rfl, HB.out⟩

set_option maxHeartbeats 1600000 in
theorem geqForest (r0 u0 : Value) (x : List PartD) (w : World) (hz : forestTot x ≤ 1048576) (hh0 : RowC 5 PartE w r0 x) (gg0 : RowC 5 PartE w u0 x) :
    Calls Try.prog 10 #[.agg #[r0], .agg #[u0]] w fun e w' => e = .returned (.bool true) ∧ Below w.heap.size w w' := by
  have HTt : forestTot x = rowTot partTot x := rfl
  have BW : Hid (Below w.heap.size w ((w.alloc (.cells #[r0] 29)).alloc (.cells #[u0] 29))) := ((Below.refl _ _).alloc (Nat.le_refl _) _).alloc (by simp) _
  have R0 : Hid (RowC 5 PartE w r0 x) := hh0
  have U0 : Hid (RowC 5 PartE w u0 x) := gg0
  obtain ⟨aa0, ca0, rfl⟩ := hh0.slice
  obtain ⟨ba0, da0, rfl⟩ := gg0.slice
  clear hh0 gg0
  go_enter Try.func10, Try.ntmps10
  go_wp2_with fail
  refine (geqPartS _ _ x _ (by omega) (RowC.below PartE_stable R0.out BW.out) (RowC.below PartE_stable U0.out BW.out)).mono ?_
  rintro e w0 ⟨rfl, hb0⟩
  have B0 : Hid (Below w.heap.size w w0) := BW.out.trans (hb0.mono BW.out.size)
  clear hb0
  go_wp2
  go_ret
  exact ⟨rfl, B0.out⟩

end Go.Proofs.Ytpcfcheicdnogaa
