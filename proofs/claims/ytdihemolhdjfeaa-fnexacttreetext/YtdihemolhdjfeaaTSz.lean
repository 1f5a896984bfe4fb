/- The laws' helpers: how great they are (printed by mk/kitset.py). -/
import Derived.Test.YtdihemolhdjfeaaTData
import Derived.Test.YtdihemolhdjfeaaXKit
namespace Go.Proofs.Ytdihemolhdjfeaa
open Go.RowKit

theorem gszIntS (v : Value) (xs : List Int) (left : Int) (w : World) (h0 : 0 ≤ left) (h1 : left ≤ 1048576) (hin : RowInn i64 xs) (h : IRow w v xs) :
    Calls Try.prog 38 #[v, .int .i64 left] w fun e w' => ∃ r : Int, e = .returned (.int .i64 r) ∧ (r = -1 ∨ (0 ≤ r ∧ r + (List.length xs : Nat) = left)) ∧ Below w.heap.size w w' := by
  obtain ⟨a, cap, rfl⟩ := h.slice
  refine (szIntS_any a xs.length cap left w h0 h1 hin.1).mono ?_
  rintro e w' ⟨r, rfl, hr, rfl⟩
  exact ⟨r, rfl, hr.imp id (fun h => ⟨h.1, by have := h.2; omega⟩), Below.refl _ _⟩

set_option maxHeartbeats 1600000 in
theorem gszTreeNode (r0 r1 : Value) (x : TNodeD) (left : Int) (w : World) (h0 : 0 ≤ left) (h1 : left ≤ 1048576) (hin : TreeNodeIn x) (hh0 : IRow w r0 x.args) (hh1 : IRow w r1 x.kids) :
    Calls Try.prog 29 #[.agg #[.int .i64 x.rule, .int .i64 x.alt, r0, .int .i64 x.frm, .int .i64 x.upto, r1], .int .i64 left] w fun e w' => ∃ r : Int, e = .returned (.int .i64 r) ∧ (r = -1 ∨ (0 ≤ r ∧ r + (treeNodeTot x : Nat) = left)) ∧ Below w.heap.size w w' := by
  have BW : Hid (Below w.heap.size w (w.alloc (.cells #[.int .i64 x.rule, .int .i64 x.alt, r0, .int .i64 x.frm, .int .i64 x.upto, r1] 76))) := (Below.refl _ _).alloc (Nat.le_refl _) _
  have HTt : Hid (treeNodeTot x = List.length x.args + List.length x.kids) := rfl
  obtain ⟨iRule, iAlt, iArgs, iFrom, iTo, iKids⟩ := hin
  have R0 : Hid (IRow w r0 x.args) := hh0
  obtain ⟨aa0, ca0, rfl⟩ := hh0.slice
  have R1 : Hid (IRow w r1 x.kids) := hh1
  obtain ⟨aa1, ca1, rfl⟩ := hh1.slice
  clear hh0 hh1
  go_enter Try.func29, Try.ntmps29
  go_wp2_with fail
  refine (gszIntS _ x.args left _ (by omega) (by omega) iArgs (R0.out.below BW.out)).mono ?_
  rintro e w0 ⟨l0, rfl, hl0, hb0⟩
  have B0 : Hid (Below w.heap.size w w0) := BW.out.trans (hb0.mono BW.out.size)
  have K0_3 : w0.cell? ⟨w.heap.size, 3, none⟩ = some (.int .i64 x.frm) := cell_keep (box_at w #[.int .i64 x.rule, .int .i64 x.alt, .slice aa0 x.args.length ca0, .int .i64 x.frm, .int .i64 x.upto, .slice aa1 x.kids.length ca1] 76 3 _ rfl) hb0
  have K0_4 : w0.cell? ⟨w.heap.size, 4, none⟩ = some (.int .i64 x.upto) := cell_keep (box_at w #[.int .i64 x.rule, .int .i64 x.alt, .slice aa0 x.args.length ca0, .int .i64 x.frm, .int .i64 x.upto, .slice aa1 x.kids.length ca1] 76 4 _ rfl) hb0
  have K0_5 : w0.cell? ⟨w.heap.size, 5, none⟩ = some (.slice aa1 x.kids.length ca1) := cell_keep (box_at w #[.int .i64 x.rule, .int .i64 x.alt, .slice aa0 x.args.length ca0, .int .i64 x.frm, .int .i64 x.upto, .slice aa1 x.kids.length ca1] 76 5 _ rfl) hb0
  clear hb0
  rcases hl0 with rfl | ⟨p0, q0'⟩
  · go_wp2
    go_ret
    exact ⟨_, rfl, .inl rfl, B0.out⟩
  · have t0 : ¬ l0 < 0 := by omega
    go_wp2_with fail
    refine (gszIntS _ x.kids l0 _ (by omega) (by omega) iKids (R1.out.below B0.out)).mono ?_
    rintro e w1 ⟨l1, rfl, hl1, hb1⟩
    have B1 : Hid (Below w.heap.size w w1) := B0.out.trans (hb1.mono B0.out.size)
    clear hb1
    rcases hl1 with rfl | ⟨p1, q1'⟩
    · go_wp2
      go_ret
      exact ⟨_, rfl, .inl rfl, B1.out⟩
    · have t1 : ¬ l1 < 0 := by omega
      go_wp2
      go_ret
      exact ⟨_, rfl, .inr ⟨by omega, by have := HTt.out; omega⟩, B1.out⟩

set_option maxHeartbeats 1600000 in
theorem gszTreeNodeS (v : Value) (xs : List (TNodeD)) (left : Int) (w : World) (h0 : 0 ≤ left) (h1 : left ≤ 1048576) (hin : RowInn TreeNodeIn xs) (h : RowC 6 TreeNodeE w v xs) :
    Calls Try.prog 16 #[v, .int .i64 left] w fun e w' => ∃ r : Int, e = .returned (.int .i64 r) ∧ (r = -1 ∨ (0 ≤ r ∧ r + (rowTot treeNodeTot xs : Nat) = left)) ∧ Below w.heap.size w w' := by
  have HR : Hid (RowC 6 TreeNodeE w v xs) := h
  have HIn : Hid (∀ x ∈ xs, TreeNodeIn x) := hin.2
  have hm := hin.1
  obtain ⟨a, cap, rfl⟩ := h.slice
  clear h hin
  unfold maxLen at hm
  by_cases hl : left < xs.length
  · have h2 : left - (xs.length : Int) < 0 := by omega
    go_enter Try.func16, Try.ntmps16
    go_wp2
    go_ret
    exact ⟨_, rfl, .inl rfl, Below.refl _ _⟩
  · go_enter Try.func16, Try.ntmps16
    go_wp2
    go_loopw [1, 5] (fun rv iv wr => ∃ (r : Int) (k : Nat), rv = .int .i64 r ∧ iv = .int .i64 k ∧ k ≤ xs.length ∧ 0 ≤ r ∧ r + xs.length + (((xs.take k).map treeNodeTot).sum : Nat) = left ∧ Below w.heap.size w wr) (fun _ iv _ => xs.length - (intOf iv).toNat)
    case atStart => exact ⟨_, 0, rfl, rfl, Nat.zero_le _, by omega, by simp, Below.refl _ _⟩
    case round =>
      obtain ⟨rr, k, rfl, rfl, hk, hr, ht, hb⟩ := hrel
      have HB : Hid (Below w.heap.size w wr) := hb
      have HRr : Hid (RowC 6 TreeNodeE wr (.slice a xs.length cap) xs) := RowC.below TreeNodeE_stable HR.out hb
      clear hb
      by_cases hlt : k < xs.length
      · obtain ⟨b, off, vs, rfl, _, hc, hE⟩ := HRr.out.at hlt
        obtain ⟨r0, r1, rfl, hh0, hh1⟩ := hE
        have n0 : wr.cell? ⟨b, off + k * 6, none⟩ = some (.int .i64 xs[k].rule) := hc 0 (by simp)
        have n1 : wr.cell? ⟨b, off + k * 6 + 1, none⟩ = some (.int .i64 xs[k].alt) := hc 1 (by simp)
        have n2 : wr.cell? ⟨b, off + k * 6 + 2, none⟩ = some (r0) := hc 2 (by simp)
        have n3 : wr.cell? ⟨b, off + k * 6 + 3, none⟩ = some (.int .i64 xs[k].frm) := hc 3 (by simp)
        have n4 : wr.cell? ⟨b, off + k * 6 + 4, none⟩ = some (.int .i64 xs[k].upto) := hc 4 (by simp)
        have n5 : wr.cell? ⟨b, off + k * 6 + 5, none⟩ = some (r1) := hc 5 (by simp)
        have hnx := rowTot_next treeNodeTot xs k hlt
        have HS : Hid (∀ W, Below wr.heap.size wr W → _) := fun W hW => gszTreeNode r0 r1 xs[k] rr W hr (by omega) (HIn.out _ (List.getElem_mem hlt)) (hh0.below hW) (hh1.below hW)
        obtain ⟨aa0, ca0, rfl⟩ := hh0.slice
        obtain ⟨aa1, ca1, rfl⟩ := hh1.slice
        clear hc hh0 hh1
        go_wp2_with fail
        refine (HS.out _ (Below.refl _ _)).mono ?_
        rintro e w1 ⟨r1, rfl, hr1, hb1⟩
        have HB1 : Hid (Below w.heap.size w w1) := HB.out.trans (hb1.mono HB.out.size)
        clear hb1
        rcases hr1 with rfl | ⟨hr1, hr2⟩
        · go_wp2
          go_ret
          exact ⟨_, rfl, .inl rfl, HB1.out⟩
        · have hr3 : ¬ r1 < 0 := by omega
          go_wp2
          go_roundw
          case rel => exact ⟨r1, k + 1, rfl, by go_num, by omega, hr1, by omega, HB1.out⟩
          case measure => simp [intOf]; omega
      · obtain rfl : k = xs.length := by omega
        rw [List.take_of_length_le (Nat.le_refl _)] at ht
        have HE : Hid (rr + (rowTot treeNodeTot xs : Nat) = left) := by rw [Hid, rowTot]; omega
        go_wp2
        go_ret
        exact ⟨_, rfl, .inr ⟨hr, HE.out⟩, HB.out⟩

set_option maxHeartbeats 1600000 in
theorem gszTree (r0 : Value) (x : List TNodeD) (left : Int) (w : World) (h0 : 0 ≤ left) (h1 : left ≤ 1048576) (hin : TreeIn x) (hh0 : RowC 6 TreeNodeE w r0 x) :
    Calls Try.prog 6 #[.agg #[r0], .int .i64 left] w fun e w' => ∃ r : Int, e = .returned (.int .i64 r) ∧ (r = -1 ∨ (0 ≤ r ∧ r + (treeTot x : Nat) = left)) ∧ Below w.heap.size w w' := by
  have BW : Hid (Below w.heap.size w (w.alloc (.cells #[r0] 27))) := (Below.refl _ _).alloc (Nat.le_refl _) _
  have HTt : Hid (treeTot x = rowTot treeNodeTot x) := rfl
  have iNodes := hin
  have R0 : Hid (RowC 6 TreeNodeE w r0 x) := hh0
  obtain ⟨aa0, ca0, rfl⟩ := hh0.slice
  clear hh0
  go_enter Try.func6, Try.ntmps6
  go_wp2_with fail
  refine (gszTreeNodeS _ x left _ (by omega) (by omega) iNodes (RowC.below TreeNodeE_stable R0.out BW.out)).mono ?_
  rintro e w0 ⟨l0, rfl, hl0, hb0⟩
  have B0 : Hid (Below w.heap.size w w0) := BW.out.trans (hb0.mono BW.out.size)
  clear hb0
  rcases hl0 with rfl | ⟨p0, q0'⟩
  · go_wp2
    go_ret
    exact ⟨_, rfl, .inl rfl, B0.out⟩
  · have t0 : ¬ l0 < 0 := by omega
    go_wp2
    go_ret
    exact ⟨_, rfl, .inr ⟨by omega, by have := HTt.out; omega⟩, B0.out⟩

end Go.Proofs.Ytdihemolhdjfeaa
