/- The laws' helpers: one is the same as its like (printed by mk/kitset.py). -/
import Derived.Test.YtpiajljmjhkdoaaFData
import Derived.Test.YtpiajljmjhkdoaaGEq
namespace Go.Proofs.Ytpiajljmjhkdoaa
open Go.RowKit

theorem geqIntS (u v : Value) (xs : List Int) (w : World) (hz : List.length xs ≤ 1048576) (h : IRow w u xs) (h' : IRow w v xs) :
    Calls Try.prog 41 #[u, v] w fun e w' => e = .returned (.bool true) ∧ Below w.heap.size w w' := by
  refine (eqIntS_same u v xs w hz h h').mono ?_
  rintro e w' ⟨rfl, q, rfl⟩
  exact ⟨rfl, bel_drewN (Below.refl _ _) q⟩
theorem gkeep4 {W W' : World} {a0 a1 a2 a3 : Addr} {x0 x1 x2 x3 : Value} (h : W.cell? a0 = some x0 ∧ W.cell? a1 = some x1 ∧ W.cell? a2 = some x2 ∧ W.cell? a3 = some x3) (hb : Below W.heap.size W W') : W'.cell? a0 = some x0 ∧ W'.cell? a1 = some x1 ∧ W'.cell? a2 = some x2 ∧ W'.cell? a3 = some x3 :=
  ⟨cell_keep h.1 hb, cell_keep h.2.1 hb, cell_keep h.2.2.1 hb, cell_keep h.2.2.2 hb⟩
theorem gkeep10 {W W' : World} {a0 a1 a2 a3 a4 a5 a6 a7 a8 a9 : Addr} {x0 x1 x2 x3 x4 x5 x6 x7 x8 x9 : Value} (h : W.cell? a0 = some x0 ∧ W.cell? a1 = some x1 ∧ W.cell? a2 = some x2 ∧ W.cell? a3 = some x3 ∧ W.cell? a4 = some x4 ∧ W.cell? a5 = some x5 ∧ W.cell? a6 = some x6 ∧ W.cell? a7 = some x7 ∧ W.cell? a8 = some x8 ∧ W.cell? a9 = some x9) (hb : Below W.heap.size W W') : W'.cell? a0 = some x0 ∧ W'.cell? a1 = some x1 ∧ W'.cell? a2 = some x2 ∧ W'.cell? a3 = some x3 ∧ W'.cell? a4 = some x4 ∧ W'.cell? a5 = some x5 ∧ W'.cell? a6 = some x6 ∧ W'.cell? a7 = some x7 ∧ W'.cell? a8 = some x8 ∧ W'.cell? a9 = some x9 :=
  ⟨cell_keep h.1 hb, cell_keep h.2.1 hb, cell_keep h.2.2.1 hb, cell_keep h.2.2.2.1 hb, cell_keep h.2.2.2.2.1 hb, cell_keep h.2.2.2.2.2.1 hb, cell_keep h.2.2.2.2.2.2.1 hb, cell_keep h.2.2.2.2.2.2.2.1 hb, cell_keep h.2.2.2.2.2.2.2.2.1 hb, cell_keep h.2.2.2.2.2.2.2.2.2 hb⟩

set_option maxHeartbeats 1600000 in
theorem geqSNode (r0 r1 u0 u1 : Value) (x : SNodeD) (w : World) (hz : sNodeTot x ≤ 1048576) (hh0 : RowC 1 ExprE w r0 x.args) (gg0 : RowC 1 ExprE w u0 x.args) (hh1 : IRow w r1 x.kids) (gg1 : IRow w u1 x.kids) :
    Calls Try.prog 30 #[.agg #[.int .i64 x.kind, .string x.text, r0, .string x.bind, r1], .agg #[.int .i64 x.kind, .string x.text, u0, .string x.bind, u1]] w fun e w' => e = .returned (.bool true) ∧ Below w.heap.size w w' := by
  have HTt : sNodeTot x = x.text.size + rowTot exprTot x.args + x.bind.size + List.length x.kids := rfl
  have BW : Hid (Below w.heap.size w ((w.alloc (.cells #[.int .i64 x.kind, .string x.text, r0, .string x.bind, r1] 39)).alloc (.cells #[.int .i64 x.kind, .string x.text, u0, .string x.bind, u1] 39))) := ((Below.refl _ _).alloc (Nat.le_refl _) _).alloc (by simp) _
  have eText := beq_yes (rfl : x.text = x.text)
  have eBind := beq_yes (rfl : x.bind = x.bind)
  have R0 : Hid (RowC 1 ExprE w r0 x.args) := hh0
  have U0 : Hid (RowC 1 ExprE w u0 x.args) := gg0
  obtain ⟨aa0, ca0, rfl⟩ := hh0.slice
  obtain ⟨ba0, da0, rfl⟩ := gg0.slice
  have R1 : Hid (IRow w r1 x.kids) := hh1
  have U1 : Hid (IRow w u1 x.kids) := gg1
  obtain ⟨aa1, ca1, rfl⟩ := hh1.slice
  obtain ⟨ba1, da1, rfl⟩ := gg1.slice
  clear hh0 gg0 hh1 gg1
  go_enter Try.func30, Try.ntmps30
  go_wp2_with fail
  refine (geqExprS _ _ x.args _ (by omega) (RowC.below ExprE_stable R0.out BW.out) (RowC.below ExprE_stable U0.out BW.out)).mono ?_
  rintro e w0 ⟨rfl, hb0⟩
  have B0 : Hid (Below w.heap.size w w0) := BW.out.trans (hb0.mono BW.out.size)
  have K0_3 : w0.cell? ⟨w.heap.size, 3, none⟩ = some (.string x.bind) := cell_keep (box_two w #[.int .i64 x.kind, .string x.text, .slice aa0 x.args.length ca0, .string x.bind, .slice aa1 x.kids.length ca1] #[.int .i64 x.kind, .string x.text, .slice ba0 x.args.length da0, .string x.bind, .slice ba1 x.kids.length da1] 39 39 3 _ rfl) hb0
  have L0_3 : w0.cell? ⟨w.heap.size + 1, 3, none⟩ = some (.string x.bind) := cell_keep (box_two' w #[.int .i64 x.kind, .string x.text, .slice aa0 x.args.length ca0, .string x.bind, .slice aa1 x.kids.length ca1] #[.int .i64 x.kind, .string x.text, .slice ba0 x.args.length da0, .string x.bind, .slice ba1 x.kids.length da1] 39 39 3 _ rfl) hb0
  have K0_4 : w0.cell? ⟨w.heap.size, 4, none⟩ = some (.slice aa1 x.kids.length ca1) := cell_keep (box_two w #[.int .i64 x.kind, .string x.text, .slice aa0 x.args.length ca0, .string x.bind, .slice aa1 x.kids.length ca1] #[.int .i64 x.kind, .string x.text, .slice ba0 x.args.length da0, .string x.bind, .slice ba1 x.kids.length da1] 39 39 4 _ rfl) hb0
  have L0_4 : w0.cell? ⟨w.heap.size + 1, 4, none⟩ = some (.slice ba1 x.kids.length da1) := cell_keep (box_two' w #[.int .i64 x.kind, .string x.text, .slice aa0 x.args.length ca0, .string x.bind, .slice aa1 x.kids.length ca1] #[.int .i64 x.kind, .string x.text, .slice ba0 x.args.length da0, .string x.bind, .slice ba1 x.kids.length da1] 39 39 4 _ rfl) hb0
  clear hb0
  go_wp2_with fail
  refine (geqIntS _ _ x.kids _ (by omega) (R1.out.below B0.out) (U1.out.below B0.out)).mono ?_
  rintro e w1 ⟨rfl, hb1⟩
  have B1 : Hid (Below w.heap.size w w1) := B0.out.trans (hb1.mono B0.out.size)
  clear hb1
  go_wp2
  go_ret
  exact ⟨rfl, B1.out⟩

set_option maxHeartbeats 3200000 in
theorem geqSNodeS (u v : Value) (xs : List (SNodeD)) (w : World) (hz : rowTot sNodeTot xs ≤ 1048576) (h : RowC 5 SNodeE w u xs) (h' : RowC 5 SNodeE w v xs) :
    Calls Try.prog 20 #[u, v] w fun e w' => e = .returned (.bool true) ∧ Below w.heap.size w w' := by
  have HX : Hid (RowC 5 SNodeE w u xs) := h
  have HY : Hid (RowC 5 SNodeE w v xs) := h'
  have hn := rowTot_len sNodeTot xs
  obtain ⟨a, cap, rfl⟩ := h.slice
  obtain ⟨a', cap', rfl⟩ := h'.slice
  clear h h'
  go_enter Try.func20, Try.ntmps20
  go_wp2
  go_loopw [5] (fun iv wr => ∃ k : Nat, iv = .int .i64 k ∧ k ≤ xs.length ∧ Below w.heap.size w wr) (fun iv _ => xs.length - (intOf iv).toNat)
  case atStart => exact ⟨0, rfl, Nat.zero_le _, Below.refl _ _⟩
  case round =>
    obtain ⟨k, rfl, hk, hb⟩ := hrel
    have HB : Hid (Below w.heap.size w wr) := hb
    have HXr : Hid (RowC 5 SNodeE wr (.slice a xs.length cap) xs) := RowC.below SNodeE_stable HX.out hb
    have HYr : Hid (RowC 5 SNodeE wr (.slice a' xs.length cap') xs) := RowC.below SNodeE_stable HY.out hb
    clear hb
    by_cases hlt : k < xs.length
    · obtain ⟨b, off, vs, rfl, _, hc, hE⟩ := HXr.out.at hlt
      obtain ⟨b', off', vs', rfl, _, hc', hE'⟩ := HYr.out.at hlt
      obtain ⟨r0, r1, rfl, hh0, hh1⟩ := hE
      obtain ⟨u0, u1, rfl, gg0, gg1⟩ := hE'
      have n0 : wr.cell? ⟨b, off + k * 5, none⟩ = some (.int .i64 xs[k].kind) := hc 0 (by simp)
      have n1 : wr.cell? ⟨b, off + k * 5 + 1, none⟩ = some (.string xs[k].text) := hc 1 (by simp)
      have n2 : wr.cell? ⟨b, off + k * 5 + 2, none⟩ = some (r0) := hc 2 (by simp)
      have n3 : wr.cell? ⟨b, off + k * 5 + 3, none⟩ = some (.string xs[k].bind) := hc 3 (by simp)
      have n4 : wr.cell? ⟨b, off + k * 5 + 4, none⟩ = some (r1) := hc 4 (by simp)
      have m0 : wr.cell? ⟨b', off' + k * 5, none⟩ = some (.int .i64 xs[k].kind) := hc' 0 (by simp)
      have m1 : wr.cell? ⟨b', off' + k * 5 + 1, none⟩ = some (.string xs[k].text) := hc' 1 (by simp)
      have m2 : wr.cell? ⟨b', off' + k * 5 + 2, none⟩ = some (u0) := hc' 2 (by simp)
      have m3 : wr.cell? ⟨b', off' + k * 5 + 3, none⟩ = some (.string xs[k].bind) := hc' 3 (by simp)
      have m4 : wr.cell? ⟨b', off' + k * 5 + 4, none⟩ = some (u1) := hc' 4 (by simp)
      have i4 : (k : Int) < (xs.length : Int) := by omega
      have HE : Hid (_) := geqSNode r0 r1 u0 u1 xs[k] wr.drew (by have := rowTot_mem sNodeTot (List.getElem_mem hlt); omega) (RowC.below ExprE_stable hh0 (bel_drewN (Below.refl _ _) 1)) (RowC.below ExprE_stable gg0 (bel_drewN (Below.refl _ _) 1)) (hh1.below (bel_drewN (Below.refl _ _) 1)) (gg1.below (bel_drewN (Below.refl _ _) 1))
      obtain ⟨aa0, ca0, rfl⟩ := hh0.slice
      obtain ⟨ba0, da0, rfl⟩ := gg0.slice
      obtain ⟨aa1, ca1, rfl⟩ := hh1.slice
      obtain ⟨ba1, da1, rfl⟩ := gg1.slice
      clear hc hc' hh0 gg0 hh1 gg1
      go_wp2
      go_region_held3 (fun W => W.cell? ⟨b, off + k * 5, none⟩ = some (.int .i64 xs[k].kind) ∧ W.cell? ⟨b, off + k * 5 + 1, none⟩ = some (.string xs[k].text) ∧ W.cell? ⟨b, off + k * 5 + 2, none⟩ = some (.slice aa0 xs[k].args.length ca0) ∧ W.cell? ⟨b, off + k * 5 + 3, none⟩ = some (.string xs[k].bind) ∧ W.cell? ⟨b, off + k * 5 + 4, none⟩ = some (.slice aa1 xs[k].kids.length ca1) ∧ W.cell? ⟨b', off' + k * 5, none⟩ = some (.int .i64 xs[k].kind) ∧ W.cell? ⟨b', off' + k * 5 + 1, none⟩ = some (.string xs[k].text) ∧ W.cell? ⟨b', off' + k * 5 + 2, none⟩ = some (.slice ba0 xs[k].args.length da0) ∧ W.cell? ⟨b', off' + k * 5 + 3, none⟩ = some (.string xs[k].bind) ∧ W.cell? ⟨b', off' + k * 5 + 4, none⟩ = some (.slice ba1 xs[k].kids.length da1))
        ((first | exact gkeep10 (by assumption) hb2 | go_keep))
        ((first | (go_at_call 30; refine Calls.mono HE.out ?_; rintro e w2 ⟨rfl, hb2⟩)))
      have HB2 : Hid (Below w.heap.size w w2) := HB.out.trans ((bel_of_drew hb2).mono HB.out.size)
      clear hb2
      go_wp2
      go_roundw
      case rel => exact ⟨k + 1, by go_num, by omega, HB2.out⟩
      case measure => simp [intOf]; omega
    · obtain rfl : k = xs.length := by omega
      go_wp2
      go_ret
      exact ⟨rfl, HB.out⟩

set_option maxHeartbeats 1600000 in
theorem geqSRule (r0 u0 : Value) (x : SRuleD) (w : World) (hz : sRuleTot x ≤ 1048576) (hh0 : SRow w r0 x.params) (gg0 : SRow w u0 x.params) :
    Calls Try.prog 31 #[.agg #[.string x.name, r0, .int .i64 x.body], .agg #[.string x.name, u0, .int .i64 x.body]] w fun e w' => e = .returned (.bool true) ∧ Below w.heap.size w w' := by
  have HTt : sRuleTot x = x.name.size + rowTot ByteArray.size x.params := rfl
  have BW : Hid (Below w.heap.size w ((w.alloc (.cells #[.string x.name, r0, .int .i64 x.body] 44)).alloc (.cells #[.string x.name, u0, .int .i64 x.body] 44))) := ((Below.refl _ _).alloc (Nat.le_refl _) _).alloc (by simp) _
  have eName := beq_yes (rfl : x.name = x.name)
  have R0 : Hid (SRow w r0 x.params) := hh0
  have U0 : Hid (SRow w u0 x.params) := gg0
  obtain ⟨aa0, ca0, rfl⟩ := hh0.slice
  obtain ⟨ba0, da0, rfl⟩ := gg0.slice
  clear hh0 gg0
  go_enter Try.func31, Try.ntmps31
  go_wp2_with fail
  refine (geqStringS _ _ x.params _ (by omega) (R0.out.below BW.out) (U0.out.below BW.out)).mono ?_
  rintro e w0 ⟨rfl, hb0⟩
  have B0 : Hid (Below w.heap.size w w0) := BW.out.trans (hb0.mono BW.out.size)
  have K0_2 : w0.cell? ⟨w.heap.size, 2, none⟩ = some (.int .i64 x.body) := cell_keep (box_two w #[.string x.name, .slice aa0 x.params.length ca0, .int .i64 x.body] #[.string x.name, .slice ba0 x.params.length da0, .int .i64 x.body] 44 44 2 _ rfl) hb0
  have L0_2 : w0.cell? ⟨w.heap.size + 1, 2, none⟩ = some (.int .i64 x.body) := cell_keep (box_two' w #[.string x.name, .slice aa0 x.params.length ca0, .int .i64 x.body] #[.string x.name, .slice ba0 x.params.length da0, .int .i64 x.body] 44 44 2 _ rfl) hb0
  clear hb0
  go_wp2
  go_ret
  exact ⟨rfl, B0.out⟩

set_option maxHeartbeats 3200000 in
theorem geqSRuleS (u v : Value) (xs : List (SRuleD)) (w : World) (hz : rowTot sRuleTot xs ≤ 1048576) (h : RowC 3 SRuleE w u xs) (h' : RowC 3 SRuleE w v xs) :
    Calls Try.prog 21 #[u, v] w fun e w' => e = .returned (.bool true) ∧ Below w.heap.size w w' := by
  have HX : Hid (RowC 3 SRuleE w u xs) := h
  have HY : Hid (RowC 3 SRuleE w v xs) := h'
  have hn := rowTot_len sRuleTot xs
  obtain ⟨a, cap, rfl⟩ := h.slice
  obtain ⟨a', cap', rfl⟩ := h'.slice
  clear h h'
  go_enter Try.func21, Try.ntmps21
  go_wp2
  go_loopw [5] (fun iv wr => ∃ k : Nat, iv = .int .i64 k ∧ k ≤ xs.length ∧ Below w.heap.size w wr) (fun iv _ => xs.length - (intOf iv).toNat)
  case atStart => exact ⟨0, rfl, Nat.zero_le _, Below.refl _ _⟩
  case round =>
    obtain ⟨k, rfl, hk, hb⟩ := hrel
    have HB : Hid (Below w.heap.size w wr) := hb
    have HXr : Hid (RowC 3 SRuleE wr (.slice a xs.length cap) xs) := RowC.below SRuleE_stable HX.out hb
    have HYr : Hid (RowC 3 SRuleE wr (.slice a' xs.length cap') xs) := RowC.below SRuleE_stable HY.out hb
    clear hb
    by_cases hlt : k < xs.length
    · obtain ⟨b, off, vs, rfl, _, hc, hE⟩ := HXr.out.at hlt
      obtain ⟨b', off', vs', rfl, _, hc', hE'⟩ := HYr.out.at hlt
      obtain ⟨r0, rfl, hh0⟩ := hE
      obtain ⟨u0, rfl, gg0⟩ := hE'
      have n0 : wr.cell? ⟨b, off + k * 3, none⟩ = some (.string xs[k].name) := hc 0 (by simp)
      have n1 : wr.cell? ⟨b, off + k * 3 + 1, none⟩ = some (r0) := hc 1 (by simp)
      have n2 : wr.cell? ⟨b, off + k * 3 + 2, none⟩ = some (.int .i64 xs[k].body) := hc 2 (by simp)
      have m0 : wr.cell? ⟨b', off' + k * 3, none⟩ = some (.string xs[k].name) := hc' 0 (by simp)
      have m1 : wr.cell? ⟨b', off' + k * 3 + 1, none⟩ = some (u0) := hc' 1 (by simp)
      have m2 : wr.cell? ⟨b', off' + k * 3 + 2, none⟩ = some (.int .i64 xs[k].body) := hc' 2 (by simp)
      have i4 : (k : Int) < (xs.length : Int) := by omega
      have HE : Hid (_) := geqSRule r0 u0 xs[k] wr.drew (by have := rowTot_mem sRuleTot (List.getElem_mem hlt); omega) (hh0.below (bel_drewN (Below.refl _ _) 1)) (gg0.below (bel_drewN (Below.refl _ _) 1))
      obtain ⟨aa0, ca0, rfl⟩ := hh0.slice
      obtain ⟨ba0, da0, rfl⟩ := gg0.slice
      clear hc hc' hh0 gg0
      go_wp2
      go_region_held3 (fun W => W.cell? ⟨b, off + k * 3, none⟩ = some (.string xs[k].name) ∧ W.cell? ⟨b, off + k * 3 + 1, none⟩ = some (.slice aa0 xs[k].params.length ca0) ∧ W.cell? ⟨b, off + k * 3 + 2, none⟩ = some (.int .i64 xs[k].body) ∧ W.cell? ⟨b', off' + k * 3, none⟩ = some (.string xs[k].name) ∧ W.cell? ⟨b', off' + k * 3 + 1, none⟩ = some (.slice ba0 xs[k].params.length da0) ∧ W.cell? ⟨b', off' + k * 3 + 2, none⟩ = some (.int .i64 xs[k].body))
        ((first | exact gkeep6 (by assumption) hb2 | go_keep))
        ((first | (go_at_call 31; refine Calls.mono HE.out ?_; rintro e w2 ⟨rfl, hb2⟩)))
      have HB2 : Hid (Below w.heap.size w w2) := HB.out.trans ((bel_of_drew hb2).mono HB.out.size)
      clear hb2
      go_wp2
      go_roundw
      case rel => exact ⟨k + 1, by go_num, by omega, HB2.out⟩
      case measure => simp [intOf]; omega
    · obtain rfl : k = xs.length := by omega
      go_wp2
      go_ret
      exact ⟨rfl, HB.out⟩

set_option maxHeartbeats 1600000 in
theorem geqSurface (r0 r1 u0 u1 : Value) (x : SurfD) (w : World) (hz : surfaceTot x ≤ 1048576) (hh0 : RowC 5 SNodeE w r0 x.nodes) (gg0 : RowC 5 SNodeE w u0 x.nodes) (hh1 : RowC 3 SRuleE w r1 x.rules) (gg1 : RowC 3 SRuleE w u1 x.rules) :
    Calls Try.prog 8 #[.agg #[r0, r1], .agg #[u0, u1]] w fun e w' => e = .returned (.bool true) ∧ Below w.heap.size w w' := by
  have HTt : surfaceTot x = rowTot sNodeTot x.nodes + rowTot sRuleTot x.rules := rfl
  have BW : Hid (Below w.heap.size w ((w.alloc (.cells #[r0, r1] 31)).alloc (.cells #[u0, u1] 31))) := ((Below.refl _ _).alloc (Nat.le_refl _) _).alloc (by simp) _
  have R0 : Hid (RowC 5 SNodeE w r0 x.nodes) := hh0
  have U0 : Hid (RowC 5 SNodeE w u0 x.nodes) := gg0
  obtain ⟨aa0, ca0, rfl⟩ := hh0.slice
  obtain ⟨ba0, da0, rfl⟩ := gg0.slice
  have R1 : Hid (RowC 3 SRuleE w r1 x.rules) := hh1
  have U1 : Hid (RowC 3 SRuleE w u1 x.rules) := gg1
  obtain ⟨aa1, ca1, rfl⟩ := hh1.slice
  obtain ⟨ba1, da1, rfl⟩ := gg1.slice
  clear hh0 gg0 hh1 gg1
  go_enter Try.func8, Try.ntmps8
  go_wp2_with fail
  refine (geqSNodeS _ _ x.nodes _ (by omega) (RowC.below SNodeE_stable R0.out BW.out) (RowC.below SNodeE_stable U0.out BW.out)).mono ?_
  rintro e w0 ⟨rfl, hb0⟩
  have B0 : Hid (Below w.heap.size w w0) := BW.out.trans (hb0.mono BW.out.size)
  have K0_1 : w0.cell? ⟨w.heap.size, 1, none⟩ = some (.slice aa1 x.rules.length ca1) := cell_keep (box_two w #[.slice aa0 x.nodes.length ca0, .slice aa1 x.rules.length ca1] #[.slice ba0 x.nodes.length da0, .slice ba1 x.rules.length da1] 31 31 1 _ rfl) hb0
  have L0_1 : w0.cell? ⟨w.heap.size + 1, 1, none⟩ = some (.slice ba1 x.rules.length da1) := cell_keep (box_two' w #[.slice aa0 x.nodes.length ca0, .slice aa1 x.rules.length ca1] #[.slice ba0 x.nodes.length da0, .slice ba1 x.rules.length da1] 31 31 1 _ rfl) hb0
  clear hb0
  go_wp2_with fail
  refine (geqSRuleS _ _ x.rules _ (by omega) (RowC.below SRuleE_stable R1.out B0.out) (RowC.below SRuleE_stable U1.out B0.out)).mono ?_
  rintro e w1 ⟨rfl, hb1⟩
  have B1 : Hid (Below w.heap.size w w1) := B0.out.trans (hb1.mono B0.out.size)
  clear hb1
  go_wp2
  go_ret
  exact ⟨rfl, B1.out⟩

end Go.Proofs.Ytpiajljmjhkdoaa
