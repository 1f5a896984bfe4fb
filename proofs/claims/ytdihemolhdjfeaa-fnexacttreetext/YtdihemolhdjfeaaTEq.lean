/- The laws' helpers: one is the same as its like (printed by mk/kitset.py). -/
import Derived.Test.YtdihemolhdjfeaaTData
import Derived.Test.YtdihemolhdjfeaaGEq
namespace Go.Proofs.Ytdihemolhdjfeaa
open Go.RowKit

theorem geqIntS (u v : Value) (xs : List Int) (w : World) (hz : List.length xs ≤ 1048576) (h : IRow w u xs) (h' : IRow w v xs) :
    Calls Try.prog 45 #[u, v] w fun e w' => e = .returned (.bool true) ∧ Below w.heap.size w w' := by
  refine (eqIntS_same u v xs w hz h h').mono ?_
  rintro e w' ⟨rfl, q, rfl⟩
  exact ⟨rfl, bel_drewN (Below.refl _ _) q⟩
theorem gkeep12 {W W' : World} {a0 a1 a2 a3 a4 a5 a6 a7 a8 a9 a10 a11 : Addr} {x0 x1 x2 x3 x4 x5 x6 x7 x8 x9 x10 x11 : Value} (h : W.cell? a0 = some x0 ∧ W.cell? a1 = some x1 ∧ W.cell? a2 = some x2 ∧ W.cell? a3 = some x3 ∧ W.cell? a4 = some x4 ∧ W.cell? a5 = some x5 ∧ W.cell? a6 = some x6 ∧ W.cell? a7 = some x7 ∧ W.cell? a8 = some x8 ∧ W.cell? a9 = some x9 ∧ W.cell? a10 = some x10 ∧ W.cell? a11 = some x11) (hb : Below W.heap.size W W') : W'.cell? a0 = some x0 ∧ W'.cell? a1 = some x1 ∧ W'.cell? a2 = some x2 ∧ W'.cell? a3 = some x3 ∧ W'.cell? a4 = some x4 ∧ W'.cell? a5 = some x5 ∧ W'.cell? a6 = some x6 ∧ W'.cell? a7 = some x7 ∧ W'.cell? a8 = some x8 ∧ W'.cell? a9 = some x9 ∧ W'.cell? a10 = some x10 ∧ W'.cell? a11 = some x11 :=
  ⟨cell_keep h.1 hb, cell_keep h.2.1 hb, cell_keep h.2.2.1 hb, cell_keep h.2.2.2.1 hb, cell_keep h.2.2.2.2.1 hb, cell_keep h.2.2.2.2.2.1 hb, cell_keep h.2.2.2.2.2.2.1 hb, cell_keep h.2.2.2.2.2.2.2.1 hb, cell_keep h.2.2.2.2.2.2.2.2.1 hb, cell_keep h.2.2.2.2.2.2.2.2.2.1 hb, cell_keep h.2.2.2.2.2.2.2.2.2.2.1 hb, cell_keep h.2.2.2.2.2.2.2.2.2.2.2 hb⟩

set_option maxHeartbeats 1600000 in
theorem geqTreeNode (r0 r1 u0 u1 : Value) (x : TNodeD) (w : World) (hz : treeNodeTot x ≤ 1048576) (hh0 : IRow w r0 x.args) (gg0 : IRow w u0 x.args) (hh1 : IRow w r1 x.kids) (gg1 : IRow w u1 x.kids) :
    Calls Try.prog 35 #[.agg #[.int .i64 x.rule, .int .i64 x.alt, r0, .int .i64 x.frm, .int .i64 x.upto, r1], .agg #[.int .i64 x.rule, .int .i64 x.alt, u0, .int .i64 x.frm, .int .i64 x.upto, u1]] w fun e w' => e = .returned (.bool true) ∧ Below w.heap.size w w' := by
  have HTt : treeNodeTot x = List.length x.args + List.length x.kids := rfl
  have BW : Hid (Below w.heap.size w ((w.alloc (.cells #[.int .i64 x.rule, .int .i64 x.alt, r0, .int .i64 x.frm, .int .i64 x.upto, r1] 49)).alloc (.cells #[.int .i64 x.rule, .int .i64 x.alt, u0, .int .i64 x.frm, .int .i64 x.upto, u1] 49))) := ((Below.refl _ _).alloc (Nat.le_refl _) _).alloc (by simp) _
  have R0 : Hid (IRow w r0 x.args) := hh0
  have U0 : Hid (IRow w u0 x.args) := gg0
  obtain ⟨aa0, ca0, rfl⟩ := hh0.slice
  obtain ⟨ba0, da0, rfl⟩ := gg0.slice
  have R1 : Hid (IRow w r1 x.kids) := hh1
  have U1 : Hid (IRow w u1 x.kids) := gg1
  obtain ⟨aa1, ca1, rfl⟩ := hh1.slice
  obtain ⟨ba1, da1, rfl⟩ := gg1.slice
  clear hh0 gg0 hh1 gg1
  go_enter Try.func35, Try.ntmps35
  go_wp2_with fail
  refine (geqIntS _ _ x.args _ (by omega) (R0.out.below BW.out) (U0.out.below BW.out)).mono ?_
  rintro e w0 ⟨rfl, hb0⟩
  have B0 : Hid (Below w.heap.size w w0) := BW.out.trans (hb0.mono BW.out.size)
  have K0_3 : w0.cell? ⟨w.heap.size, 3, none⟩ = some (.int .i64 x.frm) := cell_keep (box_two w #[.int .i64 x.rule, .int .i64 x.alt, .slice aa0 x.args.length ca0, .int .i64 x.frm, .int .i64 x.upto, .slice aa1 x.kids.length ca1] #[.int .i64 x.rule, .int .i64 x.alt, .slice ba0 x.args.length da0, .int .i64 x.frm, .int .i64 x.upto, .slice ba1 x.kids.length da1] 49 49 3 _ rfl) hb0
  have L0_3 : w0.cell? ⟨w.heap.size + 1, 3, none⟩ = some (.int .i64 x.frm) := cell_keep (box_two' w #[.int .i64 x.rule, .int .i64 x.alt, .slice aa0 x.args.length ca0, .int .i64 x.frm, .int .i64 x.upto, .slice aa1 x.kids.length ca1] #[.int .i64 x.rule, .int .i64 x.alt, .slice ba0 x.args.length da0, .int .i64 x.frm, .int .i64 x.upto, .slice ba1 x.kids.length da1] 49 49 3 _ rfl) hb0
  have K0_4 : w0.cell? ⟨w.heap.size, 4, none⟩ = some (.int .i64 x.upto) := cell_keep (box_two w #[.int .i64 x.rule, .int .i64 x.alt, .slice aa0 x.args.length ca0, .int .i64 x.frm, .int .i64 x.upto, .slice aa1 x.kids.length ca1] #[.int .i64 x.rule, .int .i64 x.alt, .slice ba0 x.args.length da0, .int .i64 x.frm, .int .i64 x.upto, .slice ba1 x.kids.length da1] 49 49 4 _ rfl) hb0
  have L0_4 : w0.cell? ⟨w.heap.size + 1, 4, none⟩ = some (.int .i64 x.upto) := cell_keep (box_two' w #[.int .i64 x.rule, .int .i64 x.alt, .slice aa0 x.args.length ca0, .int .i64 x.frm, .int .i64 x.upto, .slice aa1 x.kids.length ca1] #[.int .i64 x.rule, .int .i64 x.alt, .slice ba0 x.args.length da0, .int .i64 x.frm, .int .i64 x.upto, .slice ba1 x.kids.length da1] 49 49 4 _ rfl) hb0
  have K0_5 : w0.cell? ⟨w.heap.size, 5, none⟩ = some (.slice aa1 x.kids.length ca1) := cell_keep (box_two w #[.int .i64 x.rule, .int .i64 x.alt, .slice aa0 x.args.length ca0, .int .i64 x.frm, .int .i64 x.upto, .slice aa1 x.kids.length ca1] #[.int .i64 x.rule, .int .i64 x.alt, .slice ba0 x.args.length da0, .int .i64 x.frm, .int .i64 x.upto, .slice ba1 x.kids.length da1] 49 49 5 _ rfl) hb0
  have L0_5 : w0.cell? ⟨w.heap.size + 1, 5, none⟩ = some (.slice ba1 x.kids.length da1) := cell_keep (box_two' w #[.int .i64 x.rule, .int .i64 x.alt, .slice aa0 x.args.length ca0, .int .i64 x.frm, .int .i64 x.upto, .slice aa1 x.kids.length ca1] #[.int .i64 x.rule, .int .i64 x.alt, .slice ba0 x.args.length da0, .int .i64 x.frm, .int .i64 x.upto, .slice ba1 x.kids.length da1] 49 49 5 _ rfl) hb0
  clear hb0
  go_wp2_with fail
  refine (geqIntS _ _ x.kids _ (by omega) (R1.out.below B0.out) (U1.out.below B0.out)).mono ?_
  rintro e w1 ⟨rfl, hb1⟩
  have B1 : Hid (Below w.heap.size w w1) := B0.out.trans (hb1.mono B0.out.size)
  clear hb1
  go_wp2
  go_ret
  exact ⟨rfl, B1.out⟩

set_option maxHeartbeats 3200000 in
theorem geqTreeNodeS (u v : Value) (xs : List (TNodeD)) (w : World) (hz : rowTot treeNodeTot xs ≤ 1048576) (h : RowC 6 TreeNodeE w u xs) (h' : RowC 6 TreeNodeE w v xs) :
    Calls Try.prog 26 #[u, v] w fun e w' => e = .returned (.bool true) ∧ Below w.heap.size w w' := by
  have HX : Hid (RowC 6 TreeNodeE w u xs) := h
  have HY : Hid (RowC 6 TreeNodeE w v xs) := h'
  have hn := rowTot_len treeNodeTot xs
  obtain ⟨a, cap, rfl⟩ := h.slice
  obtain ⟨a', cap', rfl⟩ := h'.slice
  clear h h'
  go_enter Try.func26, Try.ntmps26
  go_wp2
  go_loopw [5] (fun iv wr => ∃ k : Nat, iv = .int .i64 k ∧ k ≤ xs.length ∧ Below w.heap.size w wr) (fun iv _ => xs.length - (intOf iv).toNat)
  case atStart => exact ⟨0, rfl, Nat.zero_le _, Below.refl _ _⟩
  case round =>
    obtain ⟨k, rfl, hk, hb⟩ := hrel
    have HB : Hid (Below w.heap.size w wr) := hb
    have HXr : Hid (RowC 6 TreeNodeE wr (.slice a xs.length cap) xs) := RowC.below TreeNodeE_stable HX.out hb
    have HYr : Hid (RowC 6 TreeNodeE wr (.slice a' xs.length cap') xs) := RowC.below TreeNodeE_stable HY.out hb
    clear hb
    by_cases hlt : k < xs.length
    · obtain ⟨b, off, vs, rfl, _, hc, hE⟩ := HXr.out.at hlt
      obtain ⟨b', off', vs', rfl, _, hc', hE'⟩ := HYr.out.at hlt
      obtain ⟨r0, r1, rfl, hh0, hh1⟩ := hE
      obtain ⟨u0, u1, rfl, gg0, gg1⟩ := hE'
      have n0 : wr.cell? ⟨b, off + k * 6, none⟩ = some (.int .i64 xs[k].rule) := hc 0 (by simp)
      have n1 : wr.cell? ⟨b, off + k * 6 + 1, none⟩ = some (.int .i64 xs[k].alt) := hc 1 (by simp)
      have n2 : wr.cell? ⟨b, off + k * 6 + 2, none⟩ = some (r0) := hc 2 (by simp)
      have n3 : wr.cell? ⟨b, off + k * 6 + 3, none⟩ = some (.int .i64 xs[k].frm) := hc 3 (by simp)
      have n4 : wr.cell? ⟨b, off + k * 6 + 4, none⟩ = some (.int .i64 xs[k].upto) := hc 4 (by simp)
      have n5 : wr.cell? ⟨b, off + k * 6 + 5, none⟩ = some (r1) := hc 5 (by simp)
      have m0 : wr.cell? ⟨b', off' + k * 6, none⟩ = some (.int .i64 xs[k].rule) := hc' 0 (by simp)
      have m1 : wr.cell? ⟨b', off' + k * 6 + 1, none⟩ = some (.int .i64 xs[k].alt) := hc' 1 (by simp)
      have m2 : wr.cell? ⟨b', off' + k * 6 + 2, none⟩ = some (u0) := hc' 2 (by simp)
      have m3 : wr.cell? ⟨b', off' + k * 6 + 3, none⟩ = some (.int .i64 xs[k].frm) := hc' 3 (by simp)
      have m4 : wr.cell? ⟨b', off' + k * 6 + 4, none⟩ = some (.int .i64 xs[k].upto) := hc' 4 (by simp)
      have m5 : wr.cell? ⟨b', off' + k * 6 + 5, none⟩ = some (u1) := hc' 5 (by simp)
      have i4 : (k : Int) < (xs.length : Int) := by omega
      have HE : Hid (_) := geqTreeNode r0 r1 u0 u1 xs[k] wr.drew (by have := rowTot_mem treeNodeTot (List.getElem_mem hlt); omega) (hh0.below (bel_drewN (Below.refl _ _) 1)) (gg0.below (bel_drewN (Below.refl _ _) 1)) (hh1.below (bel_drewN (Below.refl _ _) 1)) (gg1.below (bel_drewN (Below.refl _ _) 1))
      obtain ⟨aa0, ca0, rfl⟩ := hh0.slice
      obtain ⟨ba0, da0, rfl⟩ := gg0.slice
      obtain ⟨aa1, ca1, rfl⟩ := hh1.slice
      obtain ⟨ba1, da1, rfl⟩ := gg1.slice
      clear hc hc' hh0 gg0 hh1 gg1
      go_wp2
      go_region_held3 (fun W => W.cell? ⟨b, off + k * 6, none⟩ = some (.int .i64 xs[k].rule) ∧ W.cell? ⟨b, off + k * 6 + 1, none⟩ = some (.int .i64 xs[k].alt) ∧ W.cell? ⟨b, off + k * 6 + 2, none⟩ = some (.slice aa0 xs[k].args.length ca0) ∧ W.cell? ⟨b, off + k * 6 + 3, none⟩ = some (.int .i64 xs[k].frm) ∧ W.cell? ⟨b, off + k * 6 + 4, none⟩ = some (.int .i64 xs[k].upto) ∧ W.cell? ⟨b, off + k * 6 + 5, none⟩ = some (.slice aa1 xs[k].kids.length ca1) ∧ W.cell? ⟨b', off' + k * 6, none⟩ = some (.int .i64 xs[k].rule) ∧ W.cell? ⟨b', off' + k * 6 + 1, none⟩ = some (.int .i64 xs[k].alt) ∧ W.cell? ⟨b', off' + k * 6 + 2, none⟩ = some (.slice ba0 xs[k].args.length da0) ∧ W.cell? ⟨b', off' + k * 6 + 3, none⟩ = some (.int .i64 xs[k].frm) ∧ W.cell? ⟨b', off' + k * 6 + 4, none⟩ = some (.int .i64 xs[k].upto) ∧ W.cell? ⟨b', off' + k * 6 + 5, none⟩ = some (.slice ba1 xs[k].kids.length da1))
        ((first | exact gkeep12 (by assumption) hb2 | go_keep))
        ((first | (go_at_call 35; refine Calls.mono HE.out ?_; rintro e w2 ⟨rfl, hb2⟩)))
      have HB2 : Hid (Below w.heap.size w w2) := HB.out.trans ((bel_of_drew hb2).mono HB.out.size)
      clear hb2
      go_wp2
      go_roundw
      case rel => exact ⟨k + 1, by go_num, by omega, HB2.out⟩
      case measure => simp [intOf]; omega
    · obtain rfl : k = xs.length := by omega
      go_wp2
      go_ret
      exact ⟨rfl, HB.out⟩

set_option maxHeartbeats 1600000 in
theorem geqTree (r0 u0 : Value) (x : List TNodeD) (w : World) (hz : treeTot x ≤ 1048576) (hh0 : RowC 6 TreeNodeE w r0 x) (gg0 : RowC 6 TreeNodeE w u0 x) :
    Calls Try.prog 12 #[.agg #[r0], .agg #[u0]] w fun e w' => e = .returned (.bool true) ∧ Below w.heap.size w w' := by
  have HTt : treeTot x = rowTot treeNodeTot x := rfl
  have BW : Hid (Below w.heap.size w ((w.alloc (.cells #[r0] 37)).alloc (.cells #[u0] 37))) := ((Below.refl _ _).alloc (Nat.le_refl _) _).alloc (by simp) _
  have R0 : Hid (RowC 6 TreeNodeE w r0 x) := hh0
  have U0 : Hid (RowC 6 TreeNodeE w u0 x) := gg0
  obtain ⟨aa0, ca0, rfl⟩ := hh0.slice
  obtain ⟨ba0, da0, rfl⟩ := gg0.slice
  clear hh0 gg0
  go_enter Try.func12, Try.ntmps12
  go_wp2_with fail
  refine (geqTreeNodeS _ _ x _ (by omega) (RowC.below TreeNodeE_stable R0.out BW.out) (RowC.below TreeNodeE_stable U0.out BW.out)).mono ?_
  rintro e w0 ⟨rfl, hb0⟩
  have B0 : Hid (Below w.heap.size w w0) := BW.out.trans (hb0.mono BW.out.size)
  clear hb0
  go_wp2
  go_ret
  exact ⟨rfl, B0.out⟩

end Go.Proofs.Ytdihemolhdjfeaa
