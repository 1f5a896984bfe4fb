/- The laws' helpers on grammars: one is the same as its like (printed by mk/gkit.py). -/
/- The laws' marks on rows of structs: how many are marked, and what is kept (printed by mk/marks.py). -/
import Derived.Test.YtofpoiccghpliaaGreatDoorGRule
import Derived.Test.YtofpoiccghpliaaGreatDoorXMark
import Derived.Test.YtofpoiccghpliaaGreatDoorMK
namespace Go.Proofs.YtofpoiccghpliaaGreatDoor
open Go.RowKit

theorem geqStringS (u v : Value) (xs : List ByteArray) (w : World) (hz : rowTot ByteArray.size xs ≤ 1048576) (h : SRow w u xs) (h' : SRow w v xs) :
    Calls Tryz.prog 8 #[u, v] w fun e w' => e = .returned (.bool true) ∧ Below w.heap.size w w' := by
  refine (eqStringS_same u v xs w (by have := rowTot_len ByteArray.size xs; omega) h h').mono ?_
  rintro e w' ⟨rfl, q, rfl⟩
  exact ⟨rfl, bel_drewN (Below.refl _ _) q⟩
theorem geqExpr (u v : Value) (x : List NodeD) (w : World) (hz : exprTot x ≤ 1048576) (h : NRow w u x) (h' : NRow w v x) :
    Calls Tryz.prog 117 #[.agg #[u], .agg #[v]] w fun e w' => e = .returned (.bool true) ∧ Below w.heap.size w w' := by
  have e : exprTot x = x.length + (x.map fun y => y.name.size + y.kids.length).sum := rfl
  refine eqExpr_same u v x w (by omega) (fun y hy => ?_) h h'
  have : y.name.size + y.kids.length ≤ (x.map fun y => y.name.size + y.kids.length).sum := sum_mem (fun y : NodeD => y.name.size + y.kids.length) hy
  omega
theorem gkeep2 {W W' : World} {a0 a1 : Addr} {x0 x1 : Value} (h : W.cell? a0 = some x0 ∧ W.cell? a1 = some x1) (hb : Below W.heap.size W W') : W'.cell? a0 = some x0 ∧ W'.cell? a1 = some x1 :=
  ⟨cell_keep h.1 hb, cell_keep h.2 hb⟩
theorem gkeep6 {W W' : World} {a0 a1 a2 a3 a4 a5 : Addr} {x0 x1 x2 x3 x4 x5 : Value} (h : W.cell? a0 = some x0 ∧ W.cell? a1 = some x1 ∧ W.cell? a2 = some x2 ∧ W.cell? a3 = some x3 ∧ W.cell? a4 = some x4 ∧ W.cell? a5 = some x5) (hb : Below W.heap.size W W') : W'.cell? a0 = some x0 ∧ W'.cell? a1 = some x1 ∧ W'.cell? a2 = some x2 ∧ W'.cell? a3 = some x3 ∧ W'.cell? a4 = some x4 ∧ W'.cell? a5 = some x5 :=
  ⟨cell_keep h.1 hb, cell_keep h.2.1 hb, cell_keep h.2.2.1 hb, cell_keep h.2.2.2.1 hb, cell_keep h.2.2.2.2.1 hb, cell_keep h.2.2.2.2.2 hb⟩
theorem gkeep8 {W W' : World} {a0 a1 a2 a3 a4 a5 a6 a7 : Addr} {x0 x1 x2 x3 x4 x5 x6 x7 : Value} (h : W.cell? a0 = some x0 ∧ W.cell? a1 = some x1 ∧ W.cell? a2 = some x2 ∧ W.cell? a3 = some x3 ∧ W.cell? a4 = some x4 ∧ W.cell? a5 = some x5 ∧ W.cell? a6 = some x6 ∧ W.cell? a7 = some x7) (hb : Below W.heap.size W W') : W'.cell? a0 = some x0 ∧ W'.cell? a1 = some x1 ∧ W'.cell? a2 = some x2 ∧ W'.cell? a3 = some x3 ∧ W'.cell? a4 = some x4 ∧ W'.cell? a5 = some x5 ∧ W'.cell? a6 = some x6 ∧ W'.cell? a7 = some x7 :=
  ⟨cell_keep h.1 hb, cell_keep h.2.1 hb, cell_keep h.2.2.1 hb, cell_keep h.2.2.2.1 hb, cell_keep h.2.2.2.2.1 hb, cell_keep h.2.2.2.2.2.1 hb, cell_keep h.2.2.2.2.2.2.1 hb, cell_keep h.2.2.2.2.2.2.2 hb⟩

set_option maxHeartbeats 3200000 in
theorem geqExprS (u v : Value) (xs : List (List NodeD)) (w : World) (hz : rowTot exprTot xs ≤ 1048576) (h : RowC 1 ExprE w u xs) (h' : RowC 1 ExprE w v xs) :
    Calls Tryz.prog 107 #[u, v] w fun e w' => e = .returned (.bool true) ∧ Below w.heap.size w w' := by
  have HX : Hid (RowC 1 ExprE w u xs) := h
  have HY : Hid (RowC 1 ExprE w v xs) := h'
  have hn := rowTot_len exprTot xs
  obtain ⟨a, cap, rfl⟩ := h.slice
  obtain ⟨a', cap', rfl⟩ := h'.slice
  clear h h'
  go_enter Tryz.func107, Tryz.ntmps107
  go_wp2
  go_loopw [5] (fun iv wr => ∃ k : Nat, iv = .int .i64 k ∧ k ≤ xs.length ∧ Below w.heap.size w wr) (fun iv _ => xs.length - (intOf iv).toNat)
  case atStart => exact ⟨0, rfl, Nat.zero_le _, Below.refl _ _⟩
  case round =>
    obtain ⟨k, rfl, hk, hb⟩ := hrel
    have HB : Hid (Below w.heap.size w wr) := hb
    have HXr : Hid (RowC 1 ExprE wr (.slice a xs.length cap) xs) := RowC.below ExprE_stable HX.out hb
    have HYr : Hid (RowC 1 ExprE wr (.slice a' xs.length cap') xs) := RowC.below ExprE_stable HY.out hb
    clear hb
    by_cases hlt : k < xs.length
    · obtain ⟨b, off, vs, rfl, _, hc, hE⟩ := HXr.out.at hlt
      obtain ⟨b', off', vs', rfl, _, hc', hE'⟩ := HYr.out.at hlt
      obtain ⟨r0, rfl, hh0⟩ := hE
      obtain ⟨u0, rfl, gg0⟩ := hE'
      have n0 : wr.cell? ⟨b, off + k, none⟩ = some (r0) := by have h := hc 0 (by simp); rw [Nat.mul_one] at h; exact h
      have m0 : wr.cell? ⟨b', off' + k, none⟩ = some (u0) := by have h := hc' 0 (by simp); rw [Nat.mul_one] at h; exact h
      have i4 : (k : Int) < (xs.length : Int) := by omega
      have HE : Hid (_) := geqExpr r0 u0 xs[k] wr.drew (by have := rowTot_mem exprTot (List.getElem_mem hlt); omega) (hh0.below (bel_drewN (Below.refl _ _) 1)) (gg0.below (bel_drewN (Below.refl _ _) 1))
      obtain ⟨aa0, ca0, rfl⟩ := hh0.slice
      obtain ⟨ba0, da0, rfl⟩ := gg0.slice
      clear hc hc' hh0 gg0
      go_wp2
      go_region_held3 (fun W => W.cell? ⟨b, off + k, none⟩ = some (.slice aa0 xs[k].length ca0) ∧ W.cell? ⟨b', off' + k, none⟩ = some (.slice ba0 xs[k].length da0))
        ((first | exact gkeep2 (by assumption) hb2 | go_keep))
        ((first | (go_at_call 117; refine Calls.mono HE.out ?_; rintro e w2 ⟨rfl, hb2⟩)))
      have HB2 : Hid (Below w.heap.size w w2) := HB.out.trans ((bel_of_drew hb2).mono HB.out.size)
      clear hb2
      go_wp2
      go_roundw
      case rel => exact ⟨k + 1, by go_num, by omega, HB2.out⟩
      case measure => simp [intOf]; omega
    · obtain rfl : k = xs.length := by omega
      go_wp2
      go_ret
      exact ⟨rfl, HB.out⟩

set_option maxHeartbeats 1600000 in
theorem geqSym (r0 u0 : Value) (x : SymD) (w : World) (hz : symTot x ≤ 1048576) (hh0 : RowC 1 ExprE w r0 x.args) (gg0 : RowC 1 ExprE w u0 x.args) :
    Calls Tryz.prog 96 #[.agg #[.int .i64 x.kind, .string x.text, r0, .string x.bind], .agg #[.int .i64 x.kind, .string x.text, u0, .string x.bind]] w fun e w' => e = .returned (.bool true) ∧ Below w.heap.size w w' := by
  have HTt : symTot x = x.text.size + rowTot exprTot x.args + x.bind.size := rfl
  have BW : Hid (Below w.heap.size w ((w.alloc (.cells #[.int .i64 x.kind, .string x.text, r0, .string x.bind] 66)).alloc (.cells #[.int .i64 x.kind, .string x.text, u0, .string x.bind] 66))) := ((Below.refl _ _).alloc (Nat.le_refl _) _).alloc (by simp) _
  have eText := beq_yes (rfl : x.text = x.text)
  have eBind := beq_yes (rfl : x.bind = x.bind)
  have R0 : Hid (RowC 1 ExprE w r0 x.args) := hh0
  have U0 : Hid (RowC 1 ExprE w u0 x.args) := gg0
  obtain ⟨aa0, ca0, rfl⟩ := hh0.slice
  obtain ⟨ba0, da0, rfl⟩ := gg0.slice
  clear hh0 gg0
  go_enter Tryz.func96, Tryz.ntmps96
  go_wp2_with fail
  refine (geqExprS _ _ x.args _ (by omega) (RowC.below ExprE_stable R0.out BW.out) (RowC.below ExprE_stable U0.out BW.out)).mono ?_
  rintro e w0 ⟨rfl, hb0⟩
  have B0 : Hid (Below w.heap.size w w0) := BW.out.trans (hb0.mono BW.out.size)
  have K0_3 : w0.cell? ⟨w.heap.size, 3, none⟩ = some (.string x.bind) := cell_keep (box_two w #[.int .i64 x.kind, .string x.text, .slice aa0 x.args.length ca0, .string x.bind] #[.int .i64 x.kind, .string x.text, .slice ba0 x.args.length da0, .string x.bind] 66 66 3 _ rfl) hb0
  have L0_3 : w0.cell? ⟨w.heap.size + 1, 3, none⟩ = some (.string x.bind) := cell_keep (box_two' w #[.int .i64 x.kind, .string x.text, .slice aa0 x.args.length ca0, .string x.bind] #[.int .i64 x.kind, .string x.text, .slice ba0 x.args.length da0, .string x.bind] 66 66 3 _ rfl) hb0
  clear hb0
  go_wp2
  go_ret
  exact ⟨rfl, B0.out⟩

set_option maxHeartbeats 3200000 in
theorem geqSymS (u v : Value) (xs : List (SymD)) (w : World) (hz : rowTot symTot xs ≤ 1048576) (h : RowC 4 SymE w u xs) (h' : RowC 4 SymE w v xs) :
    Calls Tryz.prog 78 #[u, v] w fun e w' => e = .returned (.bool true) ∧ Below w.heap.size w w' := by
  have HX : Hid (RowC 4 SymE w u xs) := h
  have HY : Hid (RowC 4 SymE w v xs) := h'
  have hn := rowTot_len symTot xs
  obtain ⟨a, cap, rfl⟩ := h.slice
  obtain ⟨a', cap', rfl⟩ := h'.slice
  clear h h'
  go_enter Tryz.func78, Tryz.ntmps78
  go_wp2
  go_loopw [5] (fun iv wr => ∃ k : Nat, iv = .int .i64 k ∧ k ≤ xs.length ∧ Below w.heap.size w wr) (fun iv _ => xs.length - (intOf iv).toNat)
  case atStart => exact ⟨0, rfl, Nat.zero_le _, Below.refl _ _⟩
  case round =>
    obtain ⟨k, rfl, hk, hb⟩ := hrel
    have HB : Hid (Below w.heap.size w wr) := hb
    have HXr : Hid (RowC 4 SymE wr (.slice a xs.length cap) xs) := RowC.below SymE_stable HX.out hb
    have HYr : Hid (RowC 4 SymE wr (.slice a' xs.length cap') xs) := RowC.below SymE_stable HY.out hb
    clear hb
    by_cases hlt : k < xs.length
    · obtain ⟨b, off, vs, rfl, _, hc, hE⟩ := HXr.out.at hlt
      obtain ⟨b', off', vs', rfl, _, hc', hE'⟩ := HYr.out.at hlt
      obtain ⟨r0, rfl, hh0⟩ := hE
      obtain ⟨u0, rfl, gg0⟩ := hE'
      have n0 : wr.cell? ⟨b, off + k * 4, none⟩ = some (.int .i64 xs[k].kind) := hc 0 (by simp)
      have n1 : wr.cell? ⟨b, off + k * 4 + 1, none⟩ = some (.string xs[k].text) := hc 1 (by simp)
      have n2 : wr.cell? ⟨b, off + k * 4 + 2, none⟩ = some (r0) := hc 2 (by simp)
      have n3 : wr.cell? ⟨b, off + k * 4 + 3, none⟩ = some (.string xs[k].bind) := hc 3 (by simp)
      have m0 : wr.cell? ⟨b', off' + k * 4, none⟩ = some (.int .i64 xs[k].kind) := hc' 0 (by simp)
      have m1 : wr.cell? ⟨b', off' + k * 4 + 1, none⟩ = some (.string xs[k].text) := hc' 1 (by simp)
      have m2 : wr.cell? ⟨b', off' + k * 4 + 2, none⟩ = some (u0) := hc' 2 (by simp)
      have m3 : wr.cell? ⟨b', off' + k * 4 + 3, none⟩ = some (.string xs[k].bind) := hc' 3 (by simp)
      have i4 : (k : Int) < (xs.length : Int) := by omega
      have HE : Hid (_) := geqSym r0 u0 xs[k] wr.drew (by have := rowTot_mem symTot (List.getElem_mem hlt); omega) (RowC.below ExprE_stable hh0 (bel_drewN (Below.refl _ _) 1)) (RowC.below ExprE_stable gg0 (bel_drewN (Below.refl _ _) 1))
      obtain ⟨aa0, ca0, rfl⟩ := hh0.slice
      obtain ⟨ba0, da0, rfl⟩ := gg0.slice
      clear hc hc' hh0 gg0
      go_wp2
      go_region_held3 (fun W => W.cell? ⟨b, off + k * 4, none⟩ = some (.int .i64 xs[k].kind) ∧ W.cell? ⟨b, off + k * 4 + 1, none⟩ = some (.string xs[k].text) ∧ W.cell? ⟨b, off + k * 4 + 2, none⟩ = some (.slice aa0 xs[k].args.length ca0) ∧ W.cell? ⟨b, off + k * 4 + 3, none⟩ = some (.string xs[k].bind) ∧ W.cell? ⟨b', off' + k * 4, none⟩ = some (.int .i64 xs[k].kind) ∧ W.cell? ⟨b', off' + k * 4 + 1, none⟩ = some (.string xs[k].text) ∧ W.cell? ⟨b', off' + k * 4 + 2, none⟩ = some (.slice ba0 xs[k].args.length da0) ∧ W.cell? ⟨b', off' + k * 4 + 3, none⟩ = some (.string xs[k].bind))
        ((first | exact gkeep8 (by assumption) hb2 | go_keep))
        ((first | (go_at_call 96; refine Calls.mono HE.out ?_; rintro e w2 ⟨rfl, hb2⟩)))
      have HB2 : Hid (Below w.heap.size w w2) := HB.out.trans ((bel_of_drew hb2).mono HB.out.size)
      clear hb2
      go_wp2
      go_roundw
      case rel => exact ⟨k + 1, by go_num, by omega, HB2.out⟩
      case measure => simp [intOf]; omega
    · obtain rfl : k = xs.length := by omega
      go_wp2
      go_ret
      exact ⟨rfl, HB.out⟩

set_option maxHeartbeats 1600000 in
theorem geqAlt (r0 u0 : Value) (x : List SymD) (w : World) (hz : altTot x ≤ 1048576) (hh0 : RowC 4 SymE w r0 x) (gg0 : RowC 4 SymE w u0 x) :
    Calls Tryz.prog 63 #[.agg #[r0], .agg #[u0]] w fun e w' => e = .returned (.bool true) ∧ Below w.heap.size w w' := by
  have HTt : altTot x = rowTot symTot x := rfl
  have BW : Hid (Below w.heap.size w ((w.alloc (.cells #[r0] 63)).alloc (.cells #[u0] 63))) := ((Below.refl _ _).alloc (Nat.le_refl _) _).alloc (by simp) _
  have R0 : Hid (RowC 4 SymE w r0 x) := hh0
  have U0 : Hid (RowC 4 SymE w u0 x) := gg0
  obtain ⟨aa0, ca0, rfl⟩ := hh0.slice
  obtain ⟨ba0, da0, rfl⟩ := gg0.slice
  clear hh0 gg0
  go_enter Tryz.func63, Tryz.ntmps63
  go_wp2_with fail
  refine (geqSymS _ _ x _ (by omega) (RowC.below SymE_stable R0.out BW.out) (RowC.below SymE_stable U0.out BW.out)).mono ?_
  rintro e w0 ⟨rfl, hb0⟩
  have B0 : Hid (Below w.heap.size w w0) := BW.out.trans (hb0.mono BW.out.size)
  clear hb0
  go_wp2
  go_ret
  exact ⟨rfl, B0.out⟩

set_option maxHeartbeats 3200000 in
theorem geqAltS (u v : Value) (xs : List (List SymD)) (w : World) (hz : rowTot altTot xs ≤ 1048576) (h : RowC 1 AltE w u xs) (h' : RowC 1 AltE w v xs) :
    Calls Tryz.prog 46 #[u, v] w fun e w' => e = .returned (.bool true) ∧ Below w.heap.size w w' := by
  have HX : Hid (RowC 1 AltE w u xs) := h
  have HY : Hid (RowC 1 AltE w v xs) := h'
  have hn := rowTot_len altTot xs
  obtain ⟨a, cap, rfl⟩ := h.slice
  obtain ⟨a', cap', rfl⟩ := h'.slice
  clear h h'
  go_enter Tryz.func46, Tryz.ntmps46
  go_wp2
  go_loopw [5] (fun iv wr => ∃ k : Nat, iv = .int .i64 k ∧ k ≤ xs.length ∧ Below w.heap.size w wr) (fun iv _ => xs.length - (intOf iv).toNat)
  case atStart => exact ⟨0, rfl, Nat.zero_le _, Below.refl _ _⟩
  case round =>
    obtain ⟨k, rfl, hk, hb⟩ := hrel
    have HB : Hid (Below w.heap.size w wr) := hb
    have HXr : Hid (RowC 1 AltE wr (.slice a xs.length cap) xs) := RowC.below AltE_stable HX.out hb
    have HYr : Hid (RowC 1 AltE wr (.slice a' xs.length cap') xs) := RowC.below AltE_stable HY.out hb
    clear hb
    by_cases hlt : k < xs.length
    · obtain ⟨b, off, vs, rfl, _, hc, hE⟩ := HXr.out.at hlt
      obtain ⟨b', off', vs', rfl, _, hc', hE'⟩ := HYr.out.at hlt
      obtain ⟨r0, rfl, hh0⟩ := hE
      obtain ⟨u0, rfl, gg0⟩ := hE'
      have n0 : wr.cell? ⟨b, off + k, none⟩ = some (r0) := by have h := hc 0 (by simp); rw [Nat.mul_one] at h; exact h
      have m0 : wr.cell? ⟨b', off' + k, none⟩ = some (u0) := by have h := hc' 0 (by simp); rw [Nat.mul_one] at h; exact h
      have i4 : (k : Int) < (xs.length : Int) := by omega
      have HE : Hid (_) := geqAlt r0 u0 xs[k] wr.drew (by have := rowTot_mem altTot (List.getElem_mem hlt); omega) (RowC.below SymE_stable hh0 (bel_drewN (Below.refl _ _) 1)) (RowC.below SymE_stable gg0 (bel_drewN (Below.refl _ _) 1))
      obtain ⟨aa0, ca0, rfl⟩ := hh0.slice
      obtain ⟨ba0, da0, rfl⟩ := gg0.slice
      clear hc hc' hh0 gg0
      go_wp2
      go_region_held3 (fun W => W.cell? ⟨b, off + k, none⟩ = some (.slice aa0 xs[k].length ca0) ∧ W.cell? ⟨b', off' + k, none⟩ = some (.slice ba0 xs[k].length da0))
        ((first | exact gkeep2 (by assumption) hb2 | go_keep))
        ((first | (go_at_call 63; refine Calls.mono HE.out ?_; rintro e w2 ⟨rfl, hb2⟩)))
      have HB2 : Hid (Below w.heap.size w w2) := HB.out.trans ((bel_of_drew hb2).mono HB.out.size)
      clear hb2
      go_wp2
      go_roundw
      case rel => exact ⟨k + 1, by go_num, by omega, HB2.out⟩
      case measure => simp [intOf]; omega
    · obtain rfl : k = xs.length := by omega
      go_wp2
      go_ret
      exact ⟨rfl, HB.out⟩

set_option maxHeartbeats 1600000 in
theorem geqRule (r0 r1 u0 u1 : Value) (x : RuleD) (w : World) (hz : ruleTot x ≤ 1048576) (hh0 : SRow w r0 x.params) (gg0 : SRow w u0 x.params) (hh1 : RowC 1 AltE w r1 x.alts) (gg1 : RowC 1 AltE w u1 x.alts) :
    Calls Tryz.prog 32 #[.agg #[.string x.name, r0, r1], .agg #[.string x.name, u0, u1]] w fun e w' => e = .returned (.bool true) ∧ Below w.heap.size w w' := by
  have HTt : ruleTot x = x.name.size + rowTot ByteArray.size x.params + rowTot altTot x.alts := rfl
  have BW : Hid (Below w.heap.size w ((w.alloc (.cells #[.string x.name, r0, r1] 43)).alloc (.cells #[.string x.name, u0, u1] 43))) := ((Below.refl _ _).alloc (Nat.le_refl _) _).alloc (by simp) _
  have eName := beq_yes (rfl : x.name = x.name)
  have R0 : Hid (SRow w r0 x.params) := hh0
  have U0 : Hid (SRow w u0 x.params) := gg0
  obtain ⟨aa0, ca0, rfl⟩ := hh0.slice
  obtain ⟨ba0, da0, rfl⟩ := gg0.slice
  have R1 : Hid (RowC 1 AltE w r1 x.alts) := hh1
  have U1 : Hid (RowC 1 AltE w u1 x.alts) := gg1
  obtain ⟨aa1, ca1, rfl⟩ := hh1.slice
  obtain ⟨ba1, da1, rfl⟩ := gg1.slice
  clear hh0 gg0 hh1 gg1
  go_enter Tryz.func32, Tryz.ntmps32
  go_wp2_with fail
  refine (geqStringS _ _ x.params _ (by omega) (R0.out.below BW.out) (U0.out.below BW.out)).mono ?_
  rintro e w0 ⟨rfl, hb0⟩
  have B0 : Hid (Below w.heap.size w w0) := BW.out.trans (hb0.mono BW.out.size)
  have K0_2 : w0.cell? ⟨w.heap.size, 2, none⟩ = some (.slice aa1 x.alts.length ca1) := cell_keep (box_two w #[.string x.name, .slice aa0 x.params.length ca0, .slice aa1 x.alts.length ca1] #[.string x.name, .slice ba0 x.params.length da0, .slice ba1 x.alts.length da1] 43 43 2 _ rfl) hb0
  have L0_2 : w0.cell? ⟨w.heap.size + 1, 2, none⟩ = some (.slice ba1 x.alts.length da1) := cell_keep (box_two' w #[.string x.name, .slice aa0 x.params.length ca0, .slice aa1 x.alts.length ca1] #[.string x.name, .slice ba0 x.params.length da0, .slice ba1 x.alts.length da1] 43 43 2 _ rfl) hb0
  clear hb0
  go_wp2_with fail
  refine (geqAltS _ _ x.alts _ (by omega) (RowC.below AltE_stable R1.out B0.out) (RowC.below AltE_stable U1.out B0.out)).mono ?_
  rintro e w1 ⟨rfl, hb1⟩
  have B1 : Hid (Below w.heap.size w w1) := B0.out.trans (hb1.mono B0.out.size)
  clear hb1
  go_wp2
  go_ret
  exact ⟨rfl, B1.out⟩

set_option maxHeartbeats 3200000 in
theorem geqRuleS (u v : Value) (xs : List (RuleD)) (w : World) (hz : rowTot ruleTot xs ≤ 1048576) (h : RowC 3 RuleE w u xs) (h' : RowC 3 RuleE w v xs) :
    Calls Tryz.prog 19 #[u, v] w fun e w' => e = .returned (.bool true) ∧ Below w.heap.size w w' := by
  have HX : Hid (RowC 3 RuleE w u xs) := h
  have HY : Hid (RowC 3 RuleE w v xs) := h'
  have hn := rowTot_len ruleTot xs
  obtain ⟨a, cap, rfl⟩ := h.slice
  obtain ⟨a', cap', rfl⟩ := h'.slice
  clear h h'
  go_enter Tryz.func19, Tryz.ntmps19
  go_wp2
  go_loopw [5] (fun iv wr => ∃ k : Nat, iv = .int .i64 k ∧ k ≤ xs.length ∧ Below w.heap.size w wr) (fun iv _ => xs.length - (intOf iv).toNat)
  case atStart => exact ⟨0, rfl, Nat.zero_le _, Below.refl _ _⟩
  case round =>
    obtain ⟨k, rfl, hk, hb⟩ := hrel
    have HB : Hid (Below w.heap.size w wr) := hb
    have HXr : Hid (RowC 3 RuleE wr (.slice a xs.length cap) xs) := RowC.below RuleE_stable HX.out hb
    have HYr : Hid (RowC 3 RuleE wr (.slice a' xs.length cap') xs) := RowC.below RuleE_stable HY.out hb
    clear hb
    by_cases hlt : k < xs.length
    · obtain ⟨b, off, vs, rfl, _, hc, hE⟩ := HXr.out.at hlt
      obtain ⟨b', off', vs', rfl, _, hc', hE'⟩ := HYr.out.at hlt
      obtain ⟨r0, r1, rfl, hh0, hh1⟩ := hE
      obtain ⟨u0, u1, rfl, gg0, gg1⟩ := hE'
      have n0 : wr.cell? ⟨b, off + k * 3, none⟩ = some (.string xs[k].name) := hc 0 (by simp)
      have n1 : wr.cell? ⟨b, off + k * 3 + 1, none⟩ = some (r0) := hc 1 (by simp)
      have n2 : wr.cell? ⟨b, off + k * 3 + 2, none⟩ = some (r1) := hc 2 (by simp)
      have m0 : wr.cell? ⟨b', off' + k * 3, none⟩ = some (.string xs[k].name) := hc' 0 (by simp)
      have m1 : wr.cell? ⟨b', off' + k * 3 + 1, none⟩ = some (u0) := hc' 1 (by simp)
      have m2 : wr.cell? ⟨b', off' + k * 3 + 2, none⟩ = some (u1) := hc' 2 (by simp)
      have i4 : (k : Int) < (xs.length : Int) := by omega
      have HE : Hid (_) := geqRule r0 r1 u0 u1 xs[k] wr.drew (by have := rowTot_mem ruleTot (List.getElem_mem hlt); omega) (hh0.below (bel_drewN (Below.refl _ _) 1)) (gg0.below (bel_drewN (Below.refl _ _) 1)) (RowC.below AltE_stable hh1 (bel_drewN (Below.refl _ _) 1)) (RowC.below AltE_stable gg1 (bel_drewN (Below.refl _ _) 1))
      obtain ⟨aa0, ca0, rfl⟩ := hh0.slice
      obtain ⟨ba0, da0, rfl⟩ := gg0.slice
      obtain ⟨aa1, ca1, rfl⟩ := hh1.slice
      obtain ⟨ba1, da1, rfl⟩ := gg1.slice
      clear hc hc' hh0 gg0 hh1 gg1
      go_wp2
      go_region_held3 (fun W => W.cell? ⟨b, off + k * 3, none⟩ = some (.string xs[k].name) ∧ W.cell? ⟨b, off + k * 3 + 1, none⟩ = some (.slice aa0 xs[k].params.length ca0) ∧ W.cell? ⟨b, off + k * 3 + 2, none⟩ = some (.slice aa1 xs[k].alts.length ca1) ∧ W.cell? ⟨b', off' + k * 3, none⟩ = some (.string xs[k].name) ∧ W.cell? ⟨b', off' + k * 3 + 1, none⟩ = some (.slice ba0 xs[k].params.length da0) ∧ W.cell? ⟨b', off' + k * 3 + 2, none⟩ = some (.slice ba1 xs[k].alts.length da1))
        ((first | exact gkeep6 (by assumption) hb2 | go_keep))
        ((first | (go_at_call 32; refine Calls.mono HE.out ?_; rintro e w2 ⟨rfl, hb2⟩)))
      have HB2 : Hid (Below w.heap.size w w2) := HB.out.trans ((bel_of_drew hb2).mono HB.out.size)
      clear hb2
      go_wp2
      go_roundw
      case rel => exact ⟨k + 1, by go_num, by omega, HB2.out⟩
      case measure => simp [intOf]; omega
    · obtain rfl : k = xs.length := by omega
      go_wp2
      go_ret
      exact ⟨rfl, HB.out⟩

set_option maxHeartbeats 1600000 in
theorem geqGrammar (r0 u0 : Value) (x : List RuleD) (w : World) (hz : grammarTot x ≤ 1048576) (hh0 : RowC 3 RuleE w r0 x) (gg0 : RowC 3 RuleE w u0 x) :
    Calls Tryz.prog 9 #[.agg #[r0], .agg #[u0]] w fun e w' => e = .returned (.bool true) ∧ Below w.heap.size w w' := by
  have HTt : grammarTot x = rowTot ruleTot x := rfl
  have BW : Hid (Below w.heap.size w ((w.alloc (.cells #[r0] 30)).alloc (.cells #[u0] 30))) := ((Below.refl _ _).alloc (Nat.le_refl _) _).alloc (by simp) _
  have R0 : Hid (RowC 3 RuleE w r0 x) := hh0
  have U0 : Hid (RowC 3 RuleE w u0 x) := gg0
  obtain ⟨aa0, ca0, rfl⟩ := hh0.slice
  obtain ⟨ba0, da0, rfl⟩ := gg0.slice
  clear hh0 gg0
  go_enter Tryz.func9, Tryz.ntmps9
  go_wp2_with fail
  refine (geqRuleS _ _ x _ (by omega) (RowC.below RuleE_stable R0.out BW.out) (RowC.below RuleE_stable U0.out BW.out)).mono ?_
  rintro e w0 ⟨rfl, hb0⟩
  have B0 : Hid (Below w.heap.size w w0) := BW.out.trans (hb0.mono BW.out.size)
  clear hb0
  go_wp2
  go_ret
  exact ⟨rfl, B0.out⟩

end Go.Proofs.YtofpoiccghpliaaGreatDoor

namespace Go.Proofs.YtofpoiccghpliaaGreatDoor
open Go.RowKit
set_option linter.unusedVariables false

theorem mkText (z : Int) (w : World) (h0 : 0 < z) (h1 : z ≤ 1000000000000) : Calls Tryz.prog 21 #[.int .i64 z] w fun e w' => ∃ s, e = .returned (.string s) ∧ Below w.heap.size w w' := by
  obtain ⟨n, rfl⟩ : ∃ n : Nat, z = (n : Int) := ⟨z.toNat, by omega⟩
  refine (mark_any n w (by omega) (by omega)).mono ?_
  rintro e w' ⟨rfl, hb⟩
  exact ⟨_, rfl, hb⟩
theorem mod_add (j m f : Nat) (h : f < m) : (j * m + f) % m = f := by rw [Nat.mul_comm, Nat.mul_add_mod, Nat.mod_eq_of_lt h]
set_option maxHeartbeats 3200000 in
set_option maxRecDepth 100000 in
theorem mkStringS {B H n c : Nat} (v : Value) (k : Int) (w : World) (hk0 : 0 < k) (hk : k + c ≤ 100000000000) (h : Shp tau B H (n + 1) (.row 9) w v c) :
    Calls Tryz.prog 11 #[v, .int .i64 k] w fun e w' => e = .returned (.int .i64 (k + c)) ∧ Mk tau B H w w' := by
  obtain ⟨a, len, cap, cs, ns, rfl, h1, hcl, hnl, rfl, hH, hel⟩ := Shp.rows (n := n + 0) h
  have et : (tau 9).length = 1 := rfl
  rw [et] at hcl
  have H1 : Hid (w.ownsRow B 9 (tau 9).length (.slice a len cap) len cs) := h1
  have HH : Hid (∀ k, (Value.slice a len cap).ownBlock = some k → k < H) := hH
  have HEl : Hid (∀ i (h : i < cs.length) (h' : i < ns.length), ∃ k, (tau 9)[i % (tau 9).length]? = some k ∧ Shp tau B H (n + 0) k w cs[i] ns[i]) := hel
  have HCl : Hid (cs.length = len * 1) := hcl
  have HNl : Hid (ns.length = cs.length) := hnl
  have hlen : len ≤ 9223372036854775807 := by
    rcases h1.2 with ⟨h', h0⟩ | ⟨g, cap', cur, h', hB, hc, hle, hmx, _⟩
    · omega
    · unfold maxLen at hmx
      omega
  clear h h1 hH hel et hcl hnl
  go_enter Tryz.func11, Tryz.ntmps11
  go_wp2
  go_loopw [1, 5] (fun kv iv wr => ∃ j : Nat, iv = .int .i64 j ∧ j ≤ len ∧ kv = .int .i64 (k + ((ns.take (j * 1)).sum : Nat)) ∧ Mk tau B H w wr) (fun _ iv _ => len - (intOf iv).toNat)
  case atStart => exact ⟨0, rfl, Nat.zero_le _, by simp, Mk.refl _⟩
  case round =>
    obtain ⟨j, rfl, hj, rfl, hm⟩ := hrel
    have M0 : Hid (Mk tau B H w wr) := hm
    clear hm
    by_cases hlt : j < len
    · have i4 : (j : Int) < (len : Int) := by omega
      have hc0 : j * 1 + 0 < cs.length := by rw [HCl.out]; omega
      have hn0 : j * 1 + 0 < ns.length := by rw [HNl.out]; exact hc0
      obtain ⟨kd0, hkd0, hs0⟩ := HEl.out _ hc0 hn0
      have hm0 : (j * 1 + 0) % (tau 9).length = 0 := mod_add j 1 0 (by omega)
      have hkk0 : kd0 = .str := by rw [hm0] at hkd0; exact (Option.some.inj hkd0).symm
      subst hkk0
      have en0 : ns[j * 1 + 0] = 1 := by cases n <;> exact hs0.2
      have t0 : (ns.take (j * 1 + 1)).sum = (ns.take (j * 1)).sum + ns[j * 1 + 0] := tk_next ns (j * 1 + 0) hn0
      rw [en0] at t0
      have hsum : (ns.take ((j + 1) * 1)).sum = (ns.take (j * 1)).sum + (1) := by
        rw [show (j + 1) * 1 = j * 1 + 1 by omega]
        omega
      have hle := tk_le ns ((j + 1) * 1)
      rw [hsum] at hle
      have HSum : Hid ((ns.take ((j + 1) * 1)).sum = (ns.take (j * 1)).sum + (1)) := hsum
      obtain ⟨z, hz⟩ : ∃ z : Int, z = k + ((ns.take (j * 1)).sum : Nat) := ⟨_, rfl⟩
      rw [← hz]
      have hz0 : 0 < z := by omega
      have HZ : Hid (z = k + ((ns.take (j * 1)).sum : Nat)) := hz
      have hzt : z + ((1 : Nat) : Int) ≤ 100000000000 := by omega
      clear hsum hle hz t0 hkd0 hs0 en0 
      obtain ⟨g, cur0, u0, rfl, hB0, hcur0, hcell0, hfz0, hrow0⟩ := M0.out.cell H1.out hc0
      rw [Nat.add_zero, Nat.mul_one] at hcell0 hfz0
      clear hcell0 hfz0 hcur0 hrow0
      go_wp2_with fail
      refine (mkText (z) _ (by omega) (by omega)).mono ?_
      rintro e w1 ⟨s0, rfl, hb0⟩
      have M1 : Hid (Mk tau B H w w1) := M0.out.trans (Mk.below hb0)
      clear hb0
      obtain ⟨gg0, cur0, u0, ea0', hB0', hcur0, hcell0, hfz0, hrow0⟩ := M1.out.cell H1.out hc0
      cases ea0'
      rw [Nat.add_zero, Nat.mul_one] at hcell0 hfz0
      have M2 : Hid (Mk tau B H w (w1.setCell ⟨g, j, none⟩ (.string s0))) := M1.out.trans (Mk.store hcur0 hB0 (HH.out g rfl) (k0 := .str) (by rw [show (j) % (tau 9).length = 0 from by have := hm0; simpa using this]; rfl) ⟨_, rfl⟩)
      have wp0 : IntKind.i64.wrap (z + 1) = z + 1 := by rw [IntKind.wrap_i64]; omega
      clear hcur0 hrow0
      go_wp2
      go_roundw
      case rel => exact ⟨j + 1, by go_num, by omega, by rw [HSum.out]; have := HZ.out; congr 1; omega, M2.out⟩
      case measure => simp [intOf]; omega
    · obtain rfl : j = len := by omega
      have HV : Hid ((ns.take (j * 1)).sum = ns.sum) := by rw [Hid, List.take_of_length_le (by rw [HNl.out, HCl.out]; exact Nat.le_refl _)]
      rw [HV.out]
      have i4 : ¬ (j : Int) < (j : Int) := by omega
      go_wp2
      go_ret
      exact ⟨rfl, M0.out⟩

set_option maxHeartbeats 3200000 in
set_option maxRecDepth 100000 in
theorem mkExNodeS {B H n c : Nat} (v : Value) (k : Int) (w : World) (hk0 : 0 < k) (hk : k + c ≤ 100000000000) (h : Shp tau B H (n + 2) (.row 138) w v c) :
    Calls Tryz.prog 79 #[v, .int .i64 k] w fun e w' => e = .returned (.int .i64 (k + c)) ∧ Mk tau B H w w' := by
  obtain ⟨a, len, cap, cs, ns, rfl, h1, hcl, hnl, rfl, hH, hel⟩ := Shp.rows (n := n + 1) h
  have et : (tau 138).length = 4 := rfl
  rw [et] at hcl
  have H1 : Hid (w.ownsRow B 138 (tau 138).length (.slice a len cap) len cs) := h1
  have HH : Hid (∀ k, (Value.slice a len cap).ownBlock = some k → k < H) := hH
  have HEl : Hid (∀ i (h : i < cs.length) (h' : i < ns.length), ∃ k, (tau 138)[i % (tau 138).length]? = some k ∧ Shp tau B H (n + 1) k w cs[i] ns[i]) := hel
  have HCl : Hid (cs.length = len * 4) := hcl
  have HNl : Hid (ns.length = cs.length) := hnl
  have hlen : len ≤ 9223372036854775807 := by
    rcases h1.2 with ⟨h', h0⟩ | ⟨g, cap', cur, h', hB, hc, hle, hmx, _⟩
    · omega
    · unfold maxLen at hmx
      omega
  clear h h1 hH hel et hcl hnl
  go_enter Tryz.func79, Tryz.ntmps79
  go_wp2
  go_loopw [1, 5] (fun kv iv wr => ∃ j : Nat, iv = .int .i64 j ∧ j ≤ len ∧ kv = .int .i64 (k + ((ns.take (j * 4)).sum : Nat)) ∧ Mk tau B H w wr) (fun _ iv _ => len - (intOf iv).toNat)
  case atStart => exact ⟨0, rfl, Nat.zero_le _, by simp, Mk.refl _⟩
  case round =>
    obtain ⟨j, rfl, hj, rfl, hm⟩ := hrel
    have M0 : Hid (Mk tau B H w wr) := hm
    clear hm
    by_cases hlt : j < len
    · have i4 : (j : Int) < (len : Int) := by omega
      have hc0 : j * 4 + 0 < cs.length := by rw [HCl.out]; omega
      have hn0 : j * 4 + 0 < ns.length := by rw [HNl.out]; exact hc0
      obtain ⟨kd0, hkd0, hs0⟩ := HEl.out _ hc0 hn0
      have hm0 : (j * 4 + 0) % (tau 138).length = 0 := mod_add j 4 0 (by omega)
      have hkk0 : kd0 = .int := by rw [hm0] at hkd0; exact (Option.some.inj hkd0).symm
      subst hkk0
      have en0 : ns[j * 4 + 0] = 1 := by cases n <;> exact hs0.2
      have hc1 : j * 4 + 1 < cs.length := by rw [HCl.out]; omega
      have hn1 : j * 4 + 1 < ns.length := by rw [HNl.out]; exact hc1
      obtain ⟨kd1, hkd1, hs1⟩ := HEl.out _ hc1 hn1
      have hm1 : (j * 4 + 1) % (tau 138).length = 1 := mod_add j 4 1 (by omega)
      have hkk1 : kd1 = .int := by rw [hm1] at hkd1; exact (Option.some.inj hkd1).symm
      subst hkk1
      have en1 : ns[j * 4 + 1] = 1 := by cases n <;> exact hs1.2
      have hc2 : j * 4 + 2 < cs.length := by rw [HCl.out]; omega
      have hn2 : j * 4 + 2 < ns.length := by rw [HNl.out]; exact hc2
      obtain ⟨kd2, hkd2, hs2⟩ := HEl.out _ hc2 hn2
      have hm2 : (j * 4 + 2) % (tau 138).length = 2 := mod_add j 4 2 (by omega)
      have hkk2 : kd2 = .str := by rw [hm2] at hkd2; exact (Option.some.inj hkd2).symm
      subst hkk2
      have en2 : ns[j * 4 + 2] = 1 := by cases n <;> exact hs2.2
      have hc3 : j * 4 + 3 < cs.length := by rw [HCl.out]; omega
      have hn3 : j * 4 + 3 < ns.length := by rw [HNl.out]; exact hc3
      obtain ⟨kd3, hkd3, hs3⟩ := HEl.out _ hc3 hn3
      have hm3 : (j * 4 + 3) % (tau 138).length = 3 := mod_add j 4 3 (by omega)
      have hkk3 : kd3 = .row 3 := by rw [hm3] at hkd3; exact (Option.some.inj hkd3).symm
      subst hkk3
      have HS3 : Hid (Shp tau B H (n + 1) (.row 3) w cs[j * 4 + 3] ns[j * 4 + 3]) := hs3
      have t0 : (ns.take (j * 4 + 1)).sum = (ns.take (j * 4)).sum + ns[j * 4 + 0] := tk_next ns (j * 4 + 0) hn0
      rw [en0] at t0
      have t1 : (ns.take (j * 4 + 2)).sum = (ns.take (j * 4 + 1)).sum + ns[j * 4 + 1] := tk_next ns (j * 4 + 1) hn1
      rw [en1] at t1
      have t2 : (ns.take (j * 4 + 3)).sum = (ns.take (j * 4 + 2)).sum + ns[j * 4 + 2] := tk_next ns (j * 4 + 2) hn2
      rw [en2] at t2
      have t3 : (ns.take (j * 4 + 4)).sum = (ns.take (j * 4 + 3)).sum + ns[j * 4 + 3] := tk_next ns (j * 4 + 3) hn3
      have hsum : (ns.take ((j + 1) * 4)).sum = (ns.take (j * 4)).sum + (1 + 1 + 1 + ns[j * 4 + 3]) := by
        rw [show (j + 1) * 4 = j * 4 + 4 by omega]
        omega
      have hle := tk_le ns ((j + 1) * 4)
      rw [hsum] at hle
      have HSum : Hid ((ns.take ((j + 1) * 4)).sum = (ns.take (j * 4)).sum + (1 + 1 + 1 + ns[j * 4 + 3])) := hsum
      obtain ⟨z, hz⟩ : ∃ z : Int, z = k + ((ns.take (j * 4)).sum : Nat) := ⟨_, rfl⟩
      rw [← hz]
      have hz0 : 0 < z := by omega
      have HZ : Hid (z = k + ((ns.take (j * 4)).sum : Nat)) := hz
      have hzt : z + ((1 + 1 + 1 + ns[j * 4 + 3] : Nat) : Int) ≤ 100000000000 := by omega
      obtain ⟨x3, hx3⟩ : ∃ x3 : Nat, x3 = ns[j * 4 + 3] := ⟨_, rfl⟩
      rw [← hx3] at HS3 hzt HSum
      obtain ⟨rv3, hrv3⟩ : ∃ rv3 : Value, rv3 = cs[j * 4 + 3] := ⟨_, rfl⟩
      rw [← hrv3] at HS3
      clear hsum hle hz t0 t1 t2 t3 hkd0 hs0 hkd1 hs1 hkd2 hs2 hkd3 hs3 en0 en1 en2 hx3
      obtain ⟨g, cur0, u0, rfl, hB0, hcur0, hcell0, hfz0, hrow0⟩ := M0.out.cell H1.out hc0
      rw [Nat.add_zero] at hcell0 hfz0
      have M1 : Hid (Mk tau B H w (wr.setCell ⟨g, j * 4, none⟩ (.int .i64 (z)))) := M0.out.trans (Mk.store hcur0 hB0 (HH.out g rfl) (k0 := .int) (by rw [show (j * 4) % (tau 138).length = 0 from by have := hm0; simpa using this]; rfl) ⟨_, rfl⟩)
      have wp0 : IntKind.i64.wrap (z + 1) = z + 1 := by rw [IntKind.wrap_i64]; omega
      clear hcur0 hrow0
      obtain ⟨g1, cur1, u1, ea1, hB1, hcur1, hcell1, hfz1, hrow1⟩ := M1.out.cell H1.out hc1
      cases ea1
      have M2 : Hid (Mk tau B H w ((wr.setCell ⟨g, j * 4, none⟩ (.int .i64 (z))).setCell ⟨g, j * 4 + 1, none⟩ (.int .i64 (z + 1)))) := M1.out.trans (Mk.store hcur1 hB1 (HH.out g rfl) (k0 := .int) (by rw [show (j * 4 + 1) % (tau 138).length = 1 from by have := hm1; simpa using this]; rfl) ⟨_, rfl⟩)
      have wp1 : IntKind.i64.wrap (z + 1 + 1) = z + 1 + 1 := by rw [IntKind.wrap_i64]; omega
      clear hcur1 hrow1
      obtain ⟨g2, cur2, u2, ea2, hB2, hcur2, hcell2, hfz2, hrow2⟩ := M2.out.cell H1.out hc2
      cases ea2
      clear hcell2 hfz2 hcur2 hrow2
      go_wp2_with fail
      refine (mkText (z + 1 + 1) _ (by omega) (by omega)).mono ?_
      rintro e w1 ⟨s2, rfl, hb2⟩
      have M3 : Hid (Mk tau B H w w1) := M2.out.trans (Mk.below hb2)
      clear hb2
      obtain ⟨gg2, cur2, u2, ea2', hB2', hcur2, hcell2, hfz2, hrow2⟩ := M3.out.cell H1.out hc2
      cases ea2'
      have M4 : Hid (Mk tau B H w (w1.setCell ⟨g, j * 4 + 2, none⟩ (.string s2))) := M3.out.trans (Mk.store hcur2 hB2 (HH.out g rfl) (k0 := .str) (by rw [show (j * 4 + 2) % (tau 138).length = 2 from by have := hm2; simpa using this]; rfl) ⟨_, rfl⟩)
      have wp2 : IntKind.i64.wrap (z + 1 + 1 + 1) = z + 1 + 1 + 1 := by rw [IntKind.wrap_i64]; omega
      clear hcur2 hrow2
      obtain ⟨g3, cur3, u3, ea3, hB3, hcur3, hcell3, hfz3, hrow3⟩ := M4.out.cell H1.out hc3
      cases ea3
      have hrr3 : u3 = rv3 := by rw [hrv3]; exact hrow3 _ (by rw [hm3]; rfl)
      rw [hrr3] at hcell3
      obtain ⟨ar3, lr3, cr3, _, _, er3, _⟩ := Shp.rows (n := n + 0) HS3.out
      subst er3
      have HC3 : Hid (∀ _ : Unit, _) := fun _ => mkIntS (n := n + 0) (.slice ar3 lr3 cr3) (z + 1 + 1 + 1) (w1.setCell ⟨g, j * 4 + 2, none⟩ (.string s2)) (by omega) (by omega) (M4.out.kp _ _ _ _ HS3.out)
      clear hcur3 hrow3 hrr3 hrv3
      go_wp2_with fail
      refine (HC3.out ()).mono ?_
      rintro e w2 ⟨rfl, hmk3⟩
      have M5 : Hid (Mk tau B H w w2) := M4.out.trans hmk3
      clear hmk3 HC3
      go_wp2
      go_roundw
      case rel => exact ⟨j + 1, by go_num, by omega, by rw [HSum.out]; have := HZ.out; congr 1; omega, M5.out⟩
      case measure => simp [intOf]; omega
    · obtain rfl : j = len := by omega
      have HV : Hid ((ns.take (j * 4)).sum = ns.sum) := by rw [Hid, List.take_of_length_le (by rw [HNl.out, HCl.out]; exact Nat.le_refl _)]
      rw [HV.out]
      have i4 : ¬ (j : Int) < (j : Int) := by omega
      go_wp2
      go_ret
      exact ⟨rfl, M0.out⟩

end Go.Proofs.YtofpoiccghpliaaGreatDoor
