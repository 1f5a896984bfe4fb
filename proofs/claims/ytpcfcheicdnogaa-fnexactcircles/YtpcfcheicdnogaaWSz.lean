/- The laws' helpers: how great they are (printed by mk/kitset.py). -/
import Derived.Test.YtpcfcheicdnogaaWData
import Derived.Test.YtpcfcheicdnogaaXKit
namespace Go.Proofs.Ytpcfcheicdnogaa
open Go.RowKit

theorem gszIntS (v : Value) (xs : List Int) (left : Int) (w : World) (h0 : 0 ≤ left) (h1 : left ≤ 1048576) (hin : RowInn i64 xs) (h : IRow w v xs) :
    Calls Try.prog 35 #[v, .int .i64 left] w fun e w' => ∃ r : Int, e = .returned (.int .i64 r) ∧ (r = -1 ∨ (0 ≤ r ∧ r + (List.length xs : Nat) = left)) ∧ Below w.heap.size w w' := by
  obtain ⟨a, cap, rfl⟩ := h.slice
  refine (szIntS_any a xs.length cap left w h0 h1 hin.1).mono ?_
  rintro e w' ⟨r, rfl, hr, rfl⟩
  exact ⟨r, rfl, hr.imp id (fun h => ⟨h.1, by have := h.2; omega⟩), Below.refl _ _⟩

set_option maxHeartbeats 1600000 in
theorem gszWay (r0 : Value) (x : WayD) (left : Int) (w : World) (h0 : 0 ≤ left) (h1 : left ≤ 1048576) (hin : WayIn x) (hh0 : IRow w r0 x.kids) :
    Calls Try.prog 41 #[.agg #[.int .i64 x.alt, r0], .int .i64 left] w fun e w' => ∃ r : Int, e = .returned (.int .i64 r) ∧ (r = -1 ∨ (0 ≤ r ∧ r + (wayTot x : Nat) = left)) ∧ Below w.heap.size w w' := by
  have BW : Hid (Below w.heap.size w (w.alloc (.cells #[.int .i64 x.alt, r0] 70))) := (Below.refl _ _).alloc (Nat.le_refl _) _
  have HTt : Hid (wayTot x = List.length x.kids) := rfl
  obtain ⟨iAlt, iKids⟩ := hin
  have R0 : Hid (IRow w r0 x.kids) := hh0
  obtain ⟨aa0, ca0, rfl⟩ := hh0.slice
  clear hh0
  go_enter Try.func41, Try.ntmps41
  go_wp2_with fail
  refine (gszIntS _ x.kids left _ (by omega) (by omega) iKids (R0.out.below BW.out)).mono ?_
  rintro e w0 ⟨l0, rfl, hl0, hb0⟩
  have B0 : Hid (Below w.heap.size w w0) := BW.out.trans (hb0.mono BW.out.size)
  clear hb0
  rcases hl0 with rfl | ⟨p0, q0'⟩
  · go_wp2
    go_ret
    exact ⟨_, rfl, .inl rfl, B0.out⟩
  · have t0 : ¬ l0 < 0 := by omega
    go_wp2
    go_ret
    exact ⟨_, rfl, .inr ⟨by omega, by have := HTt.out; omega⟩, B0.out⟩

set_option maxHeartbeats 1600000 in
theorem gszWayS (v : Value) (xs : List (WayD)) (left : Int) (w : World) (h0 : 0 ≤ left) (h1 : left ≤ 1048576) (hin : RowInn WayIn xs) (h : RowC 2 WayE w v xs) :
    Calls Try.prog 36 #[v, .int .i64 left] w fun e w' => ∃ r : Int, e = .returned (.int .i64 r) ∧ (r = -1 ∨ (0 ≤ r ∧ r + (rowTot wayTot xs : Nat) = left)) ∧ Below w.heap.size w w' := by
  have HR : Hid (RowC 2 WayE w v xs) := h
  have HIn : Hid (∀ x ∈ xs, WayIn x) := hin.2
  have hm := hin.1
  obtain ⟨a, cap, rfl⟩ := h.slice
  clear h hin
  unfold maxLen at hm
  by_cases hl : left < xs.length
  · have h2 : left - (xs.length : Int) < 0 := by omega
    go_enter Try.func36, Try.ntmps36
    go_wp2
    go_ret
    exact ⟨_, rfl, .inl rfl, Below.refl _ _⟩
  · go_enter Try.func36, Try.ntmps36
    go_wp2
    go_loopw [1, 5] (fun rv iv wr => ∃ (r : Int) (k : Nat), rv = .int .i64 r ∧ iv = .int .i64 k ∧ k ≤ xs.length ∧ 0 ≤ r ∧ r + xs.length + (((xs.take k).map wayTot).sum : Nat) = left ∧ Below w.heap.size w wr) (fun _ iv _ => xs.length - (intOf iv).toNat)
    case atStart => exact ⟨_, 0, rfl, rfl, Nat.zero_le _, by omega, by simp, Below.refl _ _⟩
    case round =>
      obtain ⟨rr, k, rfl, rfl, hk, hr, ht, hb⟩ := hrel
      have HB : Hid (Below w.heap.size w wr) := hb
      have HRr : Hid (RowC 2 WayE wr (.slice a xs.length cap) xs) := RowC.below WayE_stable HR.out hb
      clear hb
      by_cases hlt : k < xs.length
      · obtain ⟨b, off, vs, rfl, _, hc, hE⟩ := HRr.out.at hlt
        obtain ⟨r0, rfl, hh0⟩ := hE
        have n0 : wr.cell? ⟨b, off + k * 2, none⟩ = some (.int .i64 xs[k].alt) := hc 0 (by simp)
        have n1 : wr.cell? ⟨b, off + k * 2 + 1, none⟩ = some (r0) := hc 1 (by simp)
        have hnx := rowTot_next wayTot xs k hlt
        have HS : Hid (∀ W, Below wr.heap.size wr W → _) := fun W hW => gszWay r0 xs[k] rr W hr (by omega) (HIn.out _ (List.getElem_mem hlt)) (hh0.below hW)
        obtain ⟨aa0, ca0, rfl⟩ := hh0.slice
        clear hc hh0
        go_wp2_with fail
        refine (HS.out _ (Below.refl _ _)).mono ?_
        rintro e w1 ⟨r1, rfl, hr1, hb1⟩
        have HB1 : Hid (Below w.heap.size w w1) := HB.out.trans (hb1.mono HB.out.size)
        clear hb1
        rcases hr1 with rfl | ⟨hr1, hr2⟩
        · go_wp2
          go_ret
          exact ⟨_, rfl, .inl rfl, HB1.out⟩
        · have hr3 : ¬ r1 < 0 := by omega
          go_wp2
          go_roundw
          case rel => exact ⟨r1, k + 1, rfl, by go_num, by omega, hr1, by omega, HB1.out⟩
          case measure => simp [intOf]; omega
      · obtain rfl : k = xs.length := by omega
        rw [List.take_of_length_le (Nat.le_refl _)] at ht
        have HE : Hid (rr + (rowTot wayTot xs : Nat) = left) := by rw [Hid, rowTot]; omega
        go_wp2
        go_ret
        exact ⟨_, rfl, .inr ⟨hr, HE.out⟩, HB.out⟩

set_option maxHeartbeats 1600000 in
theorem gszPart (r0 r1 : Value) (x : PartD) (left : Int) (w : World) (h0 : 0 ≤ left) (h1 : left ≤ 1048576) (hin : PartIn x) (hh0 : IRow w r0 x.args) (hh1 : RowC 2 WayE w r1 x.ways) :
    Calls Try.prog 29 #[.agg #[.int .i64 x.rule, r0, .int .i64 x.frm, .int .i64 x.upto, r1], .int .i64 left] w fun e w' => ∃ r : Int, e = .returned (.int .i64 r) ∧ (r = -1 ∨ (0 ≤ r ∧ r + (partTot x : Nat) = left)) ∧ Below w.heap.size w w' := by
  have BW : Hid (Below w.heap.size w (w.alloc (.cells #[.int .i64 x.rule, r0, .int .i64 x.frm, .int .i64 x.upto, r1] 57))) := (Below.refl _ _).alloc (Nat.le_refl _) _
  have HTt : Hid (partTot x = List.length x.args + rowTot wayTot x.ways) := rfl
  obtain ⟨iRule, iArgs, iFrom, iTo, iWays⟩ := hin
  have R0 : Hid (IRow w r0 x.args) := hh0
  obtain ⟨aa0, ca0, rfl⟩ := hh0.slice
  have R1 : Hid (RowC 2 WayE w r1 x.ways) := hh1
  obtain ⟨aa1, ca1, rfl⟩ := hh1.slice
  clear hh0 hh1
  go_enter Try.func29, Try.ntmps29
  go_wp2_with fail
  refine (gszIntS _ x.args left _ (by omega) (by omega) iArgs (R0.out.below BW.out)).mono ?_
  rintro e w0 ⟨l0, rfl, hl0, hb0⟩
  have B0 : Hid (Below w.heap.size w w0) := BW.out.trans (hb0.mono BW.out.size)
  have K0_2 : w0.cell? ⟨w.heap.size, 2, none⟩ = some (.int .i64 x.frm) := cell_keep (box_at w #[.int .i64 x.rule, .slice aa0 x.args.length ca0, .int .i64 x.frm, .int .i64 x.upto, .slice aa1 x.ways.length ca1] 57 2 _ rfl) hb0
  have K0_3 : w0.cell? ⟨w.heap.size, 3, none⟩ = some (.int .i64 x.upto) := cell_keep (box_at w #[.int .i64 x.rule, .slice aa0 x.args.length ca0, .int .i64 x.frm, .int .i64 x.upto, .slice aa1 x.ways.length ca1] 57 3 _ rfl) hb0
  have K0_4 : w0.cell? ⟨w.heap.size, 4, none⟩ = some (.slice aa1 x.ways.length ca1) := cell_keep (box_at w #[.int .i64 x.rule, .slice aa0 x.args.length ca0, .int .i64 x.frm, .int .i64 x.upto, .slice aa1 x.ways.length ca1] 57 4 _ rfl) hb0
  clear hb0
  rcases hl0 with rfl | ⟨p0, q0'⟩
  · go_wp2
    go_ret
    exact ⟨_, rfl, .inl rfl, B0.out⟩
  · have t0 : ¬ l0 < 0 := by omega
    go_wp2_with fail
    refine (gszWayS _ x.ways l0 _ (by omega) (by omega) iWays (RowC.below WayE_stable R1.out B0.out)).mono ?_
    rintro e w1 ⟨l1, rfl, hl1, hb1⟩
    have B1 : Hid (Below w.heap.size w w1) := B0.out.trans (hb1.mono B0.out.size)
    clear hb1
    rcases hl1 with rfl | ⟨p1, q1'⟩
    · go_wp2
      go_ret
      exact ⟨_, rfl, .inl rfl, B1.out⟩
    · have t1 : ¬ l1 < 0 := by omega
      go_wp2
      go_ret
      exact ⟨_, rfl, .inr ⟨by omega, by have := HTt.out; omega⟩, B1.out⟩

set_option maxHeartbeats 1600000 in
theorem gszPartS (v : Value) (xs : List (PartD)) (left : Int) (w : World) (h0 : 0 ≤ left) (h1 : left ≤ 1048576) (hin : RowInn PartIn xs) (h : RowC 5 PartE w v xs) :
    Calls Try.prog 15 #[v, .int .i64 left] w fun e w' => ∃ r : Int, e = .returned (.int .i64 r) ∧ (r = -1 ∨ (0 ≤ r ∧ r + (rowTot partTot xs : Nat) = left)) ∧ Below w.heap.size w w' := by
  have HR : Hid (RowC 5 PartE w v xs) := h
  have HIn : Hid (∀ x ∈ xs, PartIn x) := hin.2
  have hm := hin.1
  obtain ⟨a, cap, rfl⟩ := h.slice
  clear h hin
  unfold maxLen at hm
  by_cases hl : left < xs.length
  · have h2 : left - (xs.length : Int) < 0 := by omega
    go_enter Try.func15, Try.ntmps15
    go_wp2
    go_ret
    exact ⟨_, rfl, .inl rfl, Below.refl _ _⟩
  · go_enter Try.func15, Try.ntmps15
    go_wp2
    go_loopw [1, 5] (fun rv iv wr => ∃ (r : Int) (k : Nat), rv = .int .i64 r ∧ iv = .int .i64 k ∧ k ≤ xs.length ∧ 0 ≤ r ∧ r + xs.length + (((xs.take k).map partTot).sum : Nat) = left ∧ Below w.heap.size w wr) (fun _ iv _ => xs.length - (intOf iv).toNat)
    case atStart => exact ⟨_, 0, rfl, rfl, Nat.zero_le _, by omega, by simp, Below.refl _ _⟩
    case round =>
      obtain ⟨rr, k, rfl, rfl, hk, hr, ht, hb⟩ := hrel
      have HB : Hid (Below w.heap.size w wr) := hb
      have HRr : Hid (RowC 5 PartE wr (.slice a xs.length cap) xs) := RowC.below PartE_stable HR.out hb
      clear hb
      by_cases hlt : k < xs.length
      · obtain ⟨b, off, vs, rfl, _, hc, hE⟩ := HRr.out.at hlt
        obtain ⟨r0, r1, rfl, hh0, hh1⟩ := hE
        have n0 : wr.cell? ⟨b, off + k * 5, none⟩ = some (.int .i64 xs[k].rule) := hc 0 (by simp)
        have n1 : wr.cell? ⟨b, off + k * 5 + 1, none⟩ = some (r0) := hc 1 (by simp)
        have n2 : wr.cell? ⟨b, off + k * 5 + 2, none⟩ = some (.int .i64 xs[k].frm) := hc 2 (by simp)
        have n3 : wr.cell? ⟨b, off + k * 5 + 3, none⟩ = some (.int .i64 xs[k].upto) := hc 3 (by simp)
        have n4 : wr.cell? ⟨b, off + k * 5 + 4, none⟩ = some (r1) := hc 4 (by simp)
        have hnx := rowTot_next partTot xs k hlt
        have HS : Hid (∀ W, Below wr.heap.size wr W → _) := fun W hW => gszPart r0 r1 xs[k] rr W hr (by omega) (HIn.out _ (List.getElem_mem hlt)) (hh0.below hW) (RowC.below WayE_stable hh1 hW)
        obtain ⟨aa0, ca0, rfl⟩ := hh0.slice
        obtain ⟨aa1, ca1, rfl⟩ := hh1.slice
        clear hc hh0 hh1
        go_wp2_with fail
        refine (HS.out _ (Below.refl _ _)).mono ?_
        rintro e w1 ⟨r1, rfl, hr1, hb1⟩
        have HB1 : Hid (Below w.heap.size w w1) := HB.out.trans (hb1.mono HB.out.size)
        clear hb1
        rcases hr1 with rfl | ⟨hr1, hr2⟩
        · go_wp2
          go_ret
          exact ⟨_, rfl, .inl rfl, HB1.out⟩
        · have hr3 : ¬ r1 < 0 := by omega
          go_wp2
          go_roundw
          case rel => exact ⟨r1, k + 1, rfl, by go_num, by omega, hr1, by omega, HB1.out⟩
          case measure => simp [intOf]; omega
      · obtain rfl : k = xs.length := by omega
        rw [List.take_of_length_le (Nat.le_refl _)] at ht
        have HE : Hid (rr + (rowTot partTot xs : Nat) = left) := by rw [Hid, rowTot]; omega
        go_wp2
        go_ret
        exact ⟨_, rfl, .inr ⟨hr, HE.out⟩, HB.out⟩

set_option maxHeartbeats 1600000 in
theorem gszForest (r0 : Value) (x : List PartD) (left : Int) (w : World) (h0 : 0 ≤ left) (h1 : left ≤ 1048576) (hin : ForestIn x) (hh0 : RowC 5 PartE w r0 x) :
    Calls Try.prog 6 #[.agg #[r0], .int .i64 left] w fun e w' => ∃ r : Int, e = .returned (.int .i64 r) ∧ (r = -1 ∨ (0 ≤ r ∧ r + (forestTot x : Nat) = left)) ∧ Below w.heap.size w w' := by
  have BW : Hid (Below w.heap.size w (w.alloc (.cells #[r0] 24))) := (Below.refl _ _).alloc (Nat.le_refl _) _
  have HTt : Hid (forestTot x = rowTot partTot x) := rfl
  have iParts := hin
  have R0 : Hid (RowC 5 PartE w r0 x) := hh0
  obtain ⟨aa0, ca0, rfl⟩ := hh0.slice
  clear hh0
  go_enter Try.func6, Try.ntmps6
  go_wp2_with fail
  refine (gszPartS _ x left _ (by omega) (by omega) iParts (RowC.below PartE_stable R0.out BW.out)).mono ?_
  rintro e w0 ⟨l0, rfl, hl0, hb0⟩
  have B0 : Hid (Below w.heap.size w w0) := BW.out.trans (hb0.mono BW.out.size)
  clear hb0
  rcases hl0 with rfl | ⟨p0, q0'⟩
  · go_wp2
    go_ret
    exact ⟨_, rfl, .inl rfl, B0.out⟩
  · have t0 : ¬ l0 < 0 := by omega
    go_wp2
    go_ret
    exact ⟨_, rfl, .inr ⟨by omega, by have := HTt.out; omega⟩, B0.out⟩

end Go.Proofs.Ytpcfcheicdnogaa
