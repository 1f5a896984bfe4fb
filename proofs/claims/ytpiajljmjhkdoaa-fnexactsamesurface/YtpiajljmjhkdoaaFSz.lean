/- The laws' helpers: how great they are (printed by mk/kitset.py). -/
import Derived.Test.YtpiajljmjhkdoaaFData
import Derived.Test.YtpiajljmjhkdoaaGSz
namespace Go.Proofs.Ytpiajljmjhkdoaa
open Go.RowKit

theorem gszIntS (v : Value) (xs : List Int) (left : Int) (w : World) (h0 : 0 ≤ left) (h1 : left ≤ 1048576) (hin : RowInn i64 xs) (h : IRow w v xs) :
    Calls Try.prog 33 #[v, .int .i64 left] w fun e w' => ∃ r : Int, e = .returned (.int .i64 r) ∧ (r = -1 ∨ (0 ≤ r ∧ r + (List.length xs : Nat) = left)) ∧ Below w.heap.size w w' := by
  obtain ⟨a, cap, rfl⟩ := h.slice
  refine (szIntS_any a xs.length cap left w h0 h1 hin.1).mono ?_
  rintro e w' ⟨r, rfl, hr, rfl⟩
  exact ⟨r, rfl, hr.imp id (fun h => ⟨h.1, by have := h.2; omega⟩), Below.refl _ _⟩

set_option maxHeartbeats 1600000 in
theorem gszSNode (r0 r1 : Value) (x : SNodeD) (left : Int) (w : World) (h0 : 0 ≤ left) (h1 : left ≤ 1048576) (hin : SNodeIn x) (hh0 : RowC 1 ExprE w r0 x.args) (hh1 : IRow w r1 x.kids) :
    Calls Try.prog 22 #[.agg #[.int .i64 x.kind, .string x.text, r0, .string x.bind, r1], .int .i64 left] w fun e w' => ∃ r : Int, e = .returned (.int .i64 r) ∧ (r = -1 ∨ (0 ≤ r ∧ r + (sNodeTot x : Nat) = left)) ∧ Below w.heap.size w w' := by
  have BW : Hid (Below w.heap.size w (w.alloc (.cells #[.int .i64 x.kind, .string x.text, r0, .string x.bind, r1] 57))) := (Below.refl _ _).alloc (Nat.le_refl _) _
  have HTt : Hid (sNodeTot x = x.text.size + rowTot exprTot x.args + x.bind.size + List.length x.kids) := rfl
  obtain ⟨iKind, iText, iArgs, iBind, iKids⟩ := hin
  have sText : x.text.size ≤ 9223372036854775807 := by have := iText; unfold StrIn maxLen at this; omega
  have sBind : x.bind.size ≤ 9223372036854775807 := by have := iBind; unfold StrIn maxLen at this; omega
  have R0 : Hid (RowC 1 ExprE w r0 x.args) := hh0
  obtain ⟨aa0, ca0, rfl⟩ := hh0.slice
  have R1 : Hid (IRow w r1 x.kids) := hh1
  obtain ⟨aa1, ca1, rfl⟩ := hh1.slice
  clear hh0 hh1
  by_cases z1 : left < x.text.size
  · have q1 : left - (x.text.size : Int) < 0 := by omega
    go_enter Try.func22, Try.ntmps22
    go_wp2
    go_ret
    exact ⟨_, rfl, .inl rfl, BW.out⟩
  · have q1 : ¬ left - (x.text.size : Int) < 0 := by omega
    go_enter Try.func22, Try.ntmps22
    go_wp2_with fail
    refine (gszExprS _ x.args (left - (x.text.size : Int)) _ (by omega) (by omega) iArgs (RowC.below ExprE_stable R0.out BW.out)).mono ?_
    rintro e w0 ⟨l0, rfl, hl0, hb0⟩
    have B0 : Hid (Below w.heap.size w w0) := BW.out.trans (hb0.mono BW.out.size)
    have K0_3 : w0.cell? ⟨w.heap.size, 3, none⟩ = some (.string x.bind) := cell_keep (box_at w #[.int .i64 x.kind, .string x.text, .slice aa0 x.args.length ca0, .string x.bind, .slice aa1 x.kids.length ca1] 57 3 _ rfl) hb0
    have K0_4 : w0.cell? ⟨w.heap.size, 4, none⟩ = some (.slice aa1 x.kids.length ca1) := cell_keep (box_at w #[.int .i64 x.kind, .string x.text, .slice aa0 x.args.length ca0, .string x.bind, .slice aa1 x.kids.length ca1] 57 4 _ rfl) hb0
    clear hb0
    rcases hl0 with rfl | ⟨p0, q0'⟩
    · go_wp2
      go_ret
      exact ⟨_, rfl, .inl rfl, B0.out⟩
    · have t0 : ¬ l0 < 0 := by omega
      by_cases z3 : l0 < x.bind.size
      · have q3 : l0 - (x.bind.size : Int) < 0 := by omega
        go_wp2
        go_ret
        exact ⟨_, rfl, .inl rfl, B0.out⟩
      · have q3 : ¬ l0 - (x.bind.size : Int) < 0 := by omega
        go_wp2_with fail
        refine (gszIntS _ x.kids (l0 - (x.bind.size : Int)) _ (by omega) (by omega) iKids (R1.out.below B0.out)).mono ?_
        rintro e w1 ⟨l1, rfl, hl1, hb1⟩
        have B1 : Hid (Below w.heap.size w w1) := B0.out.trans (hb1.mono B0.out.size)
        clear hb1
        rcases hl1 with rfl | ⟨p1, q1'⟩
        · go_wp2
          go_ret
          exact ⟨_, rfl, .inl rfl, B1.out⟩
        · have t1 : ¬ l1 < 0 := by omega
          go_wp2
          go_ret
          exact ⟨_, rfl, .inr ⟨by omega, by have := HTt.out; omega⟩, B1.out⟩

set_option maxHeartbeats 1600000 in
theorem gszSNodeS (v : Value) (xs : List (SNodeD)) (left : Int) (w : World) (h0 : 0 ≤ left) (h1 : left ≤ 1048576) (hin : RowInn SNodeIn xs) (h : RowC 5 SNodeE w v xs) :
    Calls Try.prog 9 #[v, .int .i64 left] w fun e w' => ∃ r : Int, e = .returned (.int .i64 r) ∧ (r = -1 ∨ (0 ≤ r ∧ r + (rowTot sNodeTot xs : Nat) = left)) ∧ Below w.heap.size w w' := by
  have HR : Hid (RowC 5 SNodeE w v xs) := h
  have HIn : Hid (∀ x ∈ xs, SNodeIn x) := hin.2
  have hm := hin.1
  obtain ⟨a, cap, rfl⟩ := h.slice
  clear h hin
  unfold maxLen at hm
  by_cases hl : left < xs.length
  · have h2 : left - (xs.length : Int) < 0 := by omega
    go_enter Try.func9, Try.ntmps9
    go_wp2
    go_ret
    exact ⟨_, rfl, .inl rfl, Below.refl _ _⟩
  · go_enter Try.func9, Try.ntmps9
    go_wp2
    go_loopw [1, 5] (fun rv iv wr => ∃ (r : Int) (k : Nat), rv = .int .i64 r ∧ iv = .int .i64 k ∧ k ≤ xs.length ∧ 0 ≤ r ∧ r + xs.length + (((xs.take k).map sNodeTot).sum : Nat) = left ∧ Below w.heap.size w wr) (fun _ iv _ => xs.length - (intOf iv).toNat)
    case atStart => exact ⟨_, 0, rfl, rfl, Nat.zero_le _, by omega, by simp, Below.refl _ _⟩
    case round =>
      obtain ⟨rr, k, rfl, rfl, hk, hr, ht, hb⟩ := hrel
      have HB : Hid (Below w.heap.size w wr) := hb
      have HRr : Hid (RowC 5 SNodeE wr (.slice a xs.length cap) xs) := RowC.below SNodeE_stable HR.out hb
      clear hb
      by_cases hlt : k < xs.length
      · obtain ⟨b, off, vs, rfl, _, hc, hE⟩ := HRr.out.at hlt
        obtain ⟨r0, r1, rfl, hh0, hh1⟩ := hE
        have n0 : wr.cell? ⟨b, off + k * 5, none⟩ = some (.int .i64 xs[k].kind) := hc 0 (by simp)
        have n1 : wr.cell? ⟨b, off + k * 5 + 1, none⟩ = some (.string xs[k].text) := hc 1 (by simp)
        have n2 : wr.cell? ⟨b, off + k * 5 + 2, none⟩ = some (r0) := hc 2 (by simp)
        have n3 : wr.cell? ⟨b, off + k * 5 + 3, none⟩ = some (.string xs[k].bind) := hc 3 (by simp)
        have n4 : wr.cell? ⟨b, off + k * 5 + 4, none⟩ = some (r1) := hc 4 (by simp)
        have hnx := rowTot_next sNodeTot xs k hlt
        have HS : Hid (∀ W, Below wr.heap.size wr W → _) := fun W hW => gszSNode r0 r1 xs[k] rr W hr (by omega) (HIn.out _ (List.getElem_mem hlt)) (RowC.below ExprE_stable hh0 hW) (hh1.below hW)
        obtain ⟨aa0, ca0, rfl⟩ := hh0.slice
        obtain ⟨aa1, ca1, rfl⟩ := hh1.slice
        clear hc hh0 hh1
        go_wp2_with fail
        refine (HS.out _ (Below.refl _ _)).mono ?_
        rintro e w1 ⟨r1, rfl, hr1, hb1⟩
        have HB1 : Hid (Below w.heap.size w w1) := HB.out.trans (hb1.mono HB.out.size)
        clear hb1
        rcases hr1 with rfl | ⟨hr1, hr2⟩
        · go_wp2
          go_ret
          exact ⟨_, rfl, .inl rfl, HB1.out⟩
        · have hr3 : ¬ r1 < 0 := by omega
          go_wp2
          go_roundw
          case rel => exact ⟨r1, k + 1, rfl, by go_num, by omega, hr1, by omega, HB1.out⟩
          case measure => simp [intOf]; omega
      · obtain rfl : k = xs.length := by omega
        rw [List.take_of_length_le (Nat.le_refl _)] at ht
        have HE : Hid (rr + (rowTot sNodeTot xs : Nat) = left) := by rw [Hid, rowTot]; omega
        go_wp2
        go_ret
        exact ⟨_, rfl, .inr ⟨hr, HE.out⟩, HB.out⟩

set_option maxHeartbeats 1600000 in
theorem gszSRule (r0 : Value) (x : SRuleD) (left : Int) (w : World) (h0 : 0 ≤ left) (h1 : left ≤ 1048576) (hin : SRuleIn x) (hh0 : SRow w r0 x.params) :
    Calls Try.prog 23 #[.agg #[.string x.name, r0, .int .i64 x.body], .int .i64 left] w fun e w' => ∃ r : Int, e = .returned (.int .i64 r) ∧ (r = -1 ∨ (0 ≤ r ∧ r + (sRuleTot x : Nat) = left)) ∧ Below w.heap.size w w' := by
  have BW : Hid (Below w.heap.size w (w.alloc (.cells #[.string x.name, r0, .int .i64 x.body] 59))) := (Below.refl _ _).alloc (Nat.le_refl _) _
  have HTt : Hid (sRuleTot x = x.name.size + rowTot ByteArray.size x.params) := rfl
  obtain ⟨iName, iParams, iBody⟩ := hin
  have sName : x.name.size ≤ 9223372036854775807 := by have := iName; unfold StrIn maxLen at this; omega
  have R0 : Hid (SRow w r0 x.params) := hh0
  obtain ⟨aa0, ca0, rfl⟩ := hh0.slice
  clear hh0
  by_cases z0 : left < x.name.size
  · have q0 : left - (x.name.size : Int) < 0 := by omega
    go_enter Try.func23, Try.ntmps23
    go_wp2
    go_ret
    exact ⟨_, rfl, .inl rfl, BW.out⟩
  · have q0 : ¬ left - (x.name.size : Int) < 0 := by omega
    go_enter Try.func23, Try.ntmps23
    go_wp2_with fail
    refine (gszStringS _ x.params (left - (x.name.size : Int)) _ (by omega) (by omega) iParams (R0.out.below BW.out)).mono ?_
    rintro e w0 ⟨l0, rfl, hl0, hb0⟩
    have B0 : Hid (Below w.heap.size w w0) := BW.out.trans (hb0.mono BW.out.size)
    have K0_2 : w0.cell? ⟨w.heap.size, 2, none⟩ = some (.int .i64 x.body) := cell_keep (box_at w #[.string x.name, .slice aa0 x.params.length ca0, .int .i64 x.body] 59 2 _ rfl) hb0
    clear hb0
    rcases hl0 with rfl | ⟨p0, q0'⟩
    · go_wp2
      go_ret
      exact ⟨_, rfl, .inl rfl, B0.out⟩
    · have t0 : ¬ l0 < 0 := by omega
      go_wp2
      go_ret
      exact ⟨_, rfl, .inr ⟨by omega, by have := HTt.out; omega⟩, B0.out⟩

set_option maxHeartbeats 1600000 in
theorem gszSRuleS (v : Value) (xs : List (SRuleD)) (left : Int) (w : World) (h0 : 0 ≤ left) (h1 : left ≤ 1048576) (hin : RowInn SRuleIn xs) (h : RowC 3 SRuleE w v xs) :
    Calls Try.prog 10 #[v, .int .i64 left] w fun e w' => ∃ r : Int, e = .returned (.int .i64 r) ∧ (r = -1 ∨ (0 ≤ r ∧ r + (rowTot sRuleTot xs : Nat) = left)) ∧ Below w.heap.size w w' := by
  have HR : Hid (RowC 3 SRuleE w v xs) := h
  have HIn : Hid (∀ x ∈ xs, SRuleIn x) := hin.2
  have hm := hin.1
  obtain ⟨a, cap, rfl⟩ := h.slice
  clear h hin
  unfold maxLen at hm
  by_cases hl : left < xs.length
  · have h2 : left - (xs.length : Int) < 0 := by omega
    go_enter Try.func10, Try.ntmps10
    go_wp2
    go_ret
    exact ⟨_, rfl, .inl rfl, Below.refl _ _⟩
  · go_enter Try.func10, Try.ntmps10
    go_wp2
    go_loopw [1, 5] (fun rv iv wr => ∃ (r : Int) (k : Nat), rv = .int .i64 r ∧ iv = .int .i64 k ∧ k ≤ xs.length ∧ 0 ≤ r ∧ r + xs.length + (((xs.take k).map sRuleTot).sum : Nat) = left ∧ Below w.heap.size w wr) (fun _ iv _ => xs.length - (intOf iv).toNat)
    case atStart => exact ⟨_, 0, rfl, rfl, Nat.zero_le _, by omega, by simp, Below.refl _ _⟩
    case round =>
      obtain ⟨rr, k, rfl, rfl, hk, hr, ht, hb⟩ := hrel
      have HB : Hid (Below w.heap.size w wr) := hb
      have HRr : Hid (RowC 3 SRuleE wr (.slice a xs.length cap) xs) := RowC.below SRuleE_stable HR.out hb
      clear hb
      by_cases hlt : k < xs.length
      · obtain ⟨b, off, vs, rfl, _, hc, hE⟩ := HRr.out.at hlt
        obtain ⟨r0, rfl, hh0⟩ := hE
        have n0 : wr.cell? ⟨b, off + k * 3, none⟩ = some (.string xs[k].name) := hc 0 (by simp)
        have n1 : wr.cell? ⟨b, off + k * 3 + 1, none⟩ = some (r0) := hc 1 (by simp)
        have n2 : wr.cell? ⟨b, off + k * 3 + 2, none⟩ = some (.int .i64 xs[k].body) := hc 2 (by simp)
        have hnx := rowTot_next sRuleTot xs k hlt
        have HS : Hid (∀ W, Below wr.heap.size wr W → _) := fun W hW => gszSRule r0 xs[k] rr W hr (by omega) (HIn.out _ (List.getElem_mem hlt)) (hh0.below hW)
        obtain ⟨aa0, ca0, rfl⟩ := hh0.slice
        clear hc hh0
        go_wp2_with fail
        refine (HS.out _ (Below.refl _ _)).mono ?_
        rintro e w1 ⟨r1, rfl, hr1, hb1⟩
        have HB1 : Hid (Below w.heap.size w w1) := HB.out.trans (hb1.mono HB.out.size)
        clear hb1
        rcases hr1 with rfl | ⟨hr1, hr2⟩
        · go_wp2
          go_ret
          exact ⟨_, rfl, .inl rfl, HB1.out⟩
        · have hr3 : ¬ r1 < 0 := by omega
          go_wp2
          go_roundw
          case rel => exact ⟨r1, k + 1, rfl, by go_num, by omega, hr1, by omega, HB1.out⟩
          case measure => simp [intOf]; omega
      · obtain rfl : k = xs.length := by omega
        rw [List.take_of_length_le (Nat.le_refl _)] at ht
        have HE : Hid (rr + (rowTot sRuleTot xs : Nat) = left) := by rw [Hid, rowTot]; omega
        go_wp2
        go_ret
        exact ⟨_, rfl, .inr ⟨hr, HE.out⟩, HB.out⟩

set_option maxHeartbeats 1600000 in
theorem gszSurface (r0 r1 : Value) (x : SurfD) (left : Int) (w : World) (h0 : 0 ≤ left) (h1 : left ≤ 1048576) (hin : SurfaceIn x) (hh0 : RowC 5 SNodeE w r0 x.nodes) (hh1 : RowC 3 SRuleE w r1 x.rules) :
    Calls Try.prog 4 #[.agg #[r0, r1], .int .i64 left] w fun e w' => ∃ r : Int, e = .returned (.int .i64 r) ∧ (r = -1 ∨ (0 ≤ r ∧ r + (surfaceTot x : Nat) = left)) ∧ Below w.heap.size w w' := by
  have BW : Hid (Below w.heap.size w (w.alloc (.cells #[r0, r1] 25))) := (Below.refl _ _).alloc (Nat.le_refl _) _
  have HTt : Hid (surfaceTot x = rowTot sNodeTot x.nodes + rowTot sRuleTot x.rules) := rfl
  obtain ⟨iNodes, iRules⟩ := hin
  have R0 : Hid (RowC 5 SNodeE w r0 x.nodes) := hh0
  obtain ⟨aa0, ca0, rfl⟩ := hh0.slice
  have R1 : Hid (RowC 3 SRuleE w r1 x.rules) := hh1
  obtain ⟨aa1, ca1, rfl⟩ := hh1.slice
  clear hh0 hh1
  go_enter Try.func4, Try.ntmps4
  go_wp2_with fail
  refine (gszSNodeS _ x.nodes left _ (by omega) (by omega) iNodes (RowC.below SNodeE_stable R0.out BW.out)).mono ?_
  rintro e w0 ⟨l0, rfl, hl0, hb0⟩
  have B0 : Hid (Below w.heap.size w w0) := BW.out.trans (hb0.mono BW.out.size)
  have K0_1 : w0.cell? ⟨w.heap.size, 1, none⟩ = some (.slice aa1 x.rules.length ca1) := cell_keep (box_at w #[.slice aa0 x.nodes.length ca0, .slice aa1 x.rules.length ca1] 25 1 _ rfl) hb0
  clear hb0
  rcases hl0 with rfl | ⟨p0, q0'⟩
  · go_wp2
    go_ret
    exact ⟨_, rfl, .inl rfl, B0.out⟩
  · have t0 : ¬ l0 < 0 := by omega
    go_wp2_with fail
    refine (gszSRuleS _ x.rules l0 _ (by omega) (by omega) iRules (RowC.below SRuleE_stable R1.out B0.out)).mono ?_
    rintro e w1 ⟨l1, rfl, hl1, hb1⟩
    have B1 : Hid (Below w.heap.size w w1) := B0.out.trans (hb1.mono B0.out.size)
    clear hb1
    rcases hl1 with rfl | ⟨p1, q1'⟩
    · go_wp2
      go_ret
      exact ⟨_, rfl, .inl rfl, B1.out⟩
    · have t1 : ¬ l1 < 0 := by omega
      go_wp2
      go_ret
      exact ⟨_, rfl, .inr ⟨by omega, by have := HTt.out; omega⟩, B1.out⟩

end Go.Proofs.Ytpiajljmjhkdoaa
