/- The laws' helpers on grammars: one is the same as its like (printed by mk/gkit.py). -/
/- The laws' marks on rows of structs: how many are marked, and what is kept (printed by mk/marks.py). -/
/- The laws' marks on rows, written and found again (printed by mk/hd.py). -/
/- The laws' marks on rows, written and found again (printed by mk/hd.py). -/
import Derived.Test.YtokidlklkgghkaaGreatDoorGRule
import Derived.Test.YtokidlklkgghkaaGreatDoorXKit3
import Derived.Test.YtokidlklkgghkaaGreatDoorHdP
namespace Go.Proofs.YtokidlklkgghkaaGreatDoor
open Go.RowKit

theorem geqStringS (u v : Value) (xs : List ByteArray) (w : World) (hz : rowTot ByteArray.size xs ≤ 1048576) (h : SRow w u xs) (h' : SRow w v xs) :
    Calls Tryz.prog 73 #[u, v] w fun e w' => e = .returned (.bool true) ∧ Below w.heap.size w w' := by
  refine (eqStringS_same u v xs w (by have := rowTot_len ByteArray.size xs; omega) h h').mono ?_
  rintro e w' ⟨rfl, q, rfl⟩
  exact ⟨rfl, bel_drewN (Below.refl _ _) q⟩
theorem geqExpr (u v : Value) (x : List NodeD) (w : World) (hz : exprTot x ≤ 1048576) (h : NRow w u x) (h' : NRow w v x) :
    Calls Tryz.prog 148 #[.agg #[u], .agg #[v]] w fun e w' => e = .returned (.bool true) ∧ Below w.heap.size w w' := by
  have e : exprTot x = x.length + (x.map fun y => y.name.size + y.kids.length).sum := rfl
  refine eqExpr_same u v x w (by omega) (fun y hy => ?_) h h'
  have : y.name.size + y.kids.length ≤ (x.map fun y => y.name.size + y.kids.length).sum := sum_mem (fun y : NodeD => y.name.size + y.kids.length) hy
  omega
theorem gkeep2 {W W' : World} {a0 a1 : Addr} {x0 x1 : Value} (h : W.cell? a0 = some x0 ∧ W.cell? a1 = some x1) (hb : Below W.heap.size W W') : W'.cell? a0 = some x0 ∧ W'.cell? a1 = some x1 :=
  ⟨cell_keep h.1 hb, cell_keep h.2 hb⟩
theorem gkeep6 {W W' : World} {a0 a1 a2 a3 a4 a5 : Addr} {x0 x1 x2 x3 x4 x5 : Value} (h : W.cell? a0 = some x0 ∧ W.cell? a1 = some x1 ∧ W.cell? a2 = some x2 ∧ W.cell? a3 = some x3 ∧ W.cell? a4 = some x4 ∧ W.cell? a5 = some x5) (hb : Below W.heap.size W W') : W'.cell? a0 = some x0 ∧ W'.cell? a1 = some x1 ∧ W'.cell? a2 = some x2 ∧ W'.cell? a3 = some x3 ∧ W'.cell? a4 = some x4 ∧ W'.cell? a5 = some x5 :=
  ⟨cell_keep h.1 hb, cell_keep h.2.1 hb, cell_keep h.2.2.1 hb, cell_keep h.2.2.2.1 hb, cell_keep h.2.2.2.2.1 hb, cell_keep h.2.2.2.2.2 hb⟩
theorem gkeep8 {W W' : World} {a0 a1 a2 a3 a4 a5 a6 a7 : Addr} {x0 x1 x2 x3 x4 x5 x6 x7 : Value} (h : W.cell? a0 = some x0 ∧ W.cell? a1 = some x1 ∧ W.cell? a2 = some x2 ∧ W.cell? a3 = some x3 ∧ W.cell? a4 = some x4 ∧ W.cell? a5 = some x5 ∧ W.cell? a6 = some x6 ∧ W.cell? a7 = some x7) (hb : Below W.heap.size W W') : W'.cell? a0 = some x0 ∧ W'.cell? a1 = some x1 ∧ W'.cell? a2 = some x2 ∧ W'.cell? a3 = some x3 ∧ W'.cell? a4 = some x4 ∧ W'.cell? a5 = some x5 ∧ W'.cell? a6 = some x6 ∧ W'.cell? a7 = some x7 :=
  ⟨cell_keep h.1 hb, cell_keep h.2.1 hb, cell_keep h.2.2.1 hb, cell_keep h.2.2.2.1 hb, cell_keep h.2.2.2.2.1 hb, cell_keep h.2.2.2.2.2.1 hb, cell_keep h.2.2.2.2.2.2.1 hb, cell_keep h.2.2.2.2.2.2.2 hb⟩

set_option maxHeartbeats 3200000 in
theorem geqExprS (u v : Value) (xs : List (List NodeD)) (w : World) (hz : rowTot exprTot xs ≤ 1048576) (h : RowC 1 ExprE w u xs) (h' : RowC 1 ExprE w v xs) :
    Calls Tryz.prog 138 #[u, v] w fun e w' => e = .returned (.bool true) ∧ Below w.heap.size w w' := by
  have HX : Hid (RowC 1 ExprE w u xs) := h
  have HY : Hid (RowC 1 ExprE w v xs) := h'
  have hn := rowTot_len exprTot xs
  obtain ⟨a, cap, rfl⟩ := h.slice
  obtain ⟨a', cap', rfl⟩ := h'.slice
  clear h h'
  go_enter Tryz.func138, Tryz.ntmps138
  go_wp2
  go_loopw [5] (fun iv wr => ∃ k : Nat, iv = .int .i64 k ∧ k ≤ xs.length ∧ Below w.heap.size w wr) (fun iv _ => xs.length - (intOf iv).toNat)
  case atStart => exact ⟨0, rfl, Nat.zero_le _, Below.refl _ _⟩
  case round =>
    obtain ⟨k, rfl, hk, hb⟩ := hrel
    have HB : Hid (Below w.heap.size w wr) := hb
    have HXr : Hid (RowC 1 ExprE wr (.slice a xs.length cap) xs) := RowC.below ExprE_stable HX.out hb
    have HYr : Hid (RowC 1 ExprE wr (.slice a' xs.length cap') xs) := RowC.below ExprE_stable HY.out hb
    clear hb
    by_cases hlt : k < xs.length
    · obtain ⟨b, off, vs, rfl, _, hc, hE⟩ := HXr.out.at hlt
      obtain ⟨b', off', vs', rfl, _, hc', hE'⟩ := HYr.out.at hlt
      obtain ⟨r0, rfl, hh0⟩ := hE
      obtain ⟨u0, rfl, gg0⟩ := hE'
      have n0 : wr.cell? ⟨b, off + k, none⟩ = some (r0) := by have h := hc 0 (by simp); rw [Nat.mul_one] at h; exact h
      have m0 : wr.cell? ⟨b', off' + k, none⟩ = some (u0) := by have h := hc' 0 (by simp); rw [Nat.mul_one] at h; exact h
      have i4 : (k : Int) < (xs.length : Int) := by omega
      have HE : Hid (_) := geqExpr r0 u0 xs[k] wr.drew (by have := rowTot_mem exprTot (List.getElem_mem hlt); omega) (hh0.below (bel_drewN (Below.refl _ _) 1)) (gg0.below (bel_drewN (Below.refl _ _) 1))
      obtain ⟨aa0, ca0, rfl⟩ := hh0.slice
      obtain ⟨ba0, da0, rfl⟩ := gg0.slice
      clear hc hc' hh0 gg0
      go_wp2
      go_region_held3 (fun W => W.cell? ⟨b, off + k, none⟩ = some (.slice aa0 xs[k].length ca0) ∧ W.cell? ⟨b', off' + k, none⟩ = some (.slice ba0 xs[k].length da0))
        ((first | exact gkeep2 (by assumption) hb2 | go_keep))
        ((first | (go_at_call 148; refine Calls.mono HE.out ?_; rintro e w2 ⟨rfl, hb2⟩)))
      have HB2 : Hid (Below w.heap.size w w2) := HB.out.trans ((bel_of_drew hb2).mono HB.out.size)
      clear hb2
      go_wp2
      go_roundw
      case rel => exact ⟨k + 1, by go_num, by omega, HB2.out⟩
      case measure => simp [intOf]; omega
    · obtain rfl : k = xs.length := by omega
      go_wp2
      go_ret
      exact ⟨rfl, HB.out⟩

set_option maxHeartbeats 1600000 in
theorem geqSym (r0 u0 : Value) (x : SymD) (w : World) (hz : symTot x ≤ 1048576) (hh0 : RowC 1 ExprE w r0 x.args) (gg0 : RowC 1 ExprE w u0 x.args) :
    Calls Tryz.prog 127 #[.agg #[.int .i64 x.kind, .string x.text, r0, .string x.bind], .agg #[.int .i64 x.kind, .string x.text, u0, .string x.bind]] w fun e w' => e = .returned (.bool true) ∧ Below w.heap.size w w' := by
  have HTt : symTot x = x.text.size + rowTot exprTot x.args + x.bind.size := rfl
  have BW : Hid (Below w.heap.size w ((w.alloc (.cells #[.int .i64 x.kind, .string x.text, r0, .string x.bind] 46)).alloc (.cells #[.int .i64 x.kind, .string x.text, u0, .string x.bind] 46))) := ((Below.refl _ _).alloc (Nat.le_refl _) _).alloc (by simp) _
  have eText := beq_yes (rfl : x.text = x.text)
  have eBind := beq_yes (rfl : x.bind = x.bind)
  have R0 : Hid (RowC 1 ExprE w r0 x.args) := hh0
  have U0 : Hid (RowC 1 ExprE w u0 x.args) := gg0
  obtain ⟨aa0, ca0, rfl⟩ := hh0.slice
  obtain ⟨ba0, da0, rfl⟩ := gg0.slice
  clear hh0 gg0
  go_enter Tryz.func127, Tryz.ntmps127
  go_wp2_with fail
  refine (geqExprS _ _ x.args _ (by omega) (RowC.below ExprE_stable R0.out BW.out) (RowC.below ExprE_stable U0.out BW.out)).mono ?_
  rintro e w0 ⟨rfl, hb0⟩
  have B0 : Hid (Below w.heap.size w w0) := BW.out.trans (hb0.mono BW.out.size)
  have K0_3 : w0.cell? ⟨w.heap.size, 3, none⟩ = some (.string x.bind) := cell_keep (box_two w #[.int .i64 x.kind, .string x.text, .slice aa0 x.args.length ca0, .string x.bind] #[.int .i64 x.kind, .string x.text, .slice ba0 x.args.length da0, .string x.bind] 46 46 3 _ rfl) hb0
  have L0_3 : w0.cell? ⟨w.heap.size + 1, 3, none⟩ = some (.string x.bind) := cell_keep (box_two' w #[.int .i64 x.kind, .string x.text, .slice aa0 x.args.length ca0, .string x.bind] #[.int .i64 x.kind, .string x.text, .slice ba0 x.args.length da0, .string x.bind] 46 46 3 _ rfl) hb0
  clear hb0
  go_wp2
  go_ret
  exact ⟨rfl, B0.out⟩

set_option maxHeartbeats 3200000 in
theorem geqSymS (u v : Value) (xs : List (SymD)) (w : World) (hz : rowTot symTot xs ≤ 1048576) (h : RowC 4 SymE w u xs) (h' : RowC 4 SymE w v xs) :
    Calls Tryz.prog 110 #[u, v] w fun e w' => e = .returned (.bool true) ∧ Below w.heap.size w w' := by
  have HX : Hid (RowC 4 SymE w u xs) := h
  have HY : Hid (RowC 4 SymE w v xs) := h'
  have hn := rowTot_len symTot xs
  obtain ⟨a, cap, rfl⟩ := h.slice
  obtain ⟨a', cap', rfl⟩ := h'.slice
  clear h h'
  go_enter Tryz.func110, Tryz.ntmps110
  go_wp2
  go_loopw [5] (fun iv wr => ∃ k : Nat, iv = .int .i64 k ∧ k ≤ xs.length ∧ Below w.heap.size w wr) (fun iv _ => xs.length - (intOf iv).toNat)
  case atStart => exact ⟨0, rfl, Nat.zero_le _, Below.refl _ _⟩
  case round =>
    obtain ⟨k, rfl, hk, hb⟩ := hrel
    have HB : Hid (Below w.heap.size w wr) := hb
    have HXr : Hid (RowC 4 SymE wr (.slice a xs.length cap) xs) := RowC.below SymE_stable HX.out hb
    have HYr : Hid (RowC 4 SymE wr (.slice a' xs.length cap') xs) := RowC.below SymE_stable HY.out hb
    clear hb
    by_cases hlt : k < xs.length
    · obtain ⟨b, off, vs, rfl, _, hc, hE⟩ := HXr.out.at hlt
      obtain ⟨b', off', vs', rfl, _, hc', hE'⟩ := HYr.out.at hlt
      obtain ⟨r0, rfl, hh0⟩ := hE
      obtain ⟨u0, rfl, gg0⟩ := hE'
      have n0 : wr.cell? ⟨b, off + k * 4, none⟩ = some (.int .i64 xs[k].kind) := hc 0 (by simp)
      have n1 : wr.cell? ⟨b, off + k * 4 + 1, none⟩ = some (.string xs[k].text) := hc 1 (by simp)
      have n2 : wr.cell? ⟨b, off + k * 4 + 2, none⟩ = some (r0) := hc 2 (by simp)
      have n3 : wr.cell? ⟨b, off + k * 4 + 3, none⟩ = some (.string xs[k].bind) := hc 3 (by simp)
      have m0 : wr.cell? ⟨b', off' + k * 4, none⟩ = some (.int .i64 xs[k].kind) := hc' 0 (by simp)
      have m1 : wr.cell? ⟨b', off' + k * 4 + 1, none⟩ = some (.string xs[k].text) := hc' 1 (by simp)
      have m2 : wr.cell? ⟨b', off' + k * 4 + 2, none⟩ = some (u0) := hc' 2 (by simp)
      have m3 : wr.cell? ⟨b', off' + k * 4 + 3, none⟩ = some (.string xs[k].bind) := hc' 3 (by simp)
      have i4 : (k : Int) < (xs.length : Int) := by omega
      have HE : Hid (_) := geqSym r0 u0 xs[k] wr.drew (by have := rowTot_mem symTot (List.getElem_mem hlt); omega) (RowC.below ExprE_stable hh0 (bel_drewN (Below.refl _ _) 1)) (RowC.below ExprE_stable gg0 (bel_drewN (Below.refl _ _) 1))
      obtain ⟨aa0, ca0, rfl⟩ := hh0.slice
      obtain ⟨ba0, da0, rfl⟩ := gg0.slice
      clear hc hc' hh0 gg0
      go_wp2
      go_region_held3 (fun W => W.cell? ⟨b, off + k * 4, none⟩ = some (.int .i64 xs[k].kind) ∧ W.cell? ⟨b, off + k * 4 + 1, none⟩ = some (.string xs[k].text) ∧ W.cell? ⟨b, off + k * 4 + 2, none⟩ = some (.slice aa0 xs[k].args.length ca0) ∧ W.cell? ⟨b, off + k * 4 + 3, none⟩ = some (.string xs[k].bind) ∧ W.cell? ⟨b', off' + k * 4, none⟩ = some (.int .i64 xs[k].kind) ∧ W.cell? ⟨b', off' + k * 4 + 1, none⟩ = some (.string xs[k].text) ∧ W.cell? ⟨b', off' + k * 4 + 2, none⟩ = some (.slice ba0 xs[k].args.length da0) ∧ W.cell? ⟨b', off' + k * 4 + 3, none⟩ = some (.string xs[k].bind))
        ((first | exact gkeep8 (by assumption) hb2 | go_keep))
        ((first | (go_at_call 127; refine Calls.mono HE.out ?_; rintro e w2 ⟨rfl, hb2⟩)))
      have HB2 : Hid (Below w.heap.size w w2) := HB.out.trans ((bel_of_drew hb2).mono HB.out.size)
      clear hb2
      go_wp2
      go_roundw
      case rel => exact ⟨k + 1, by go_num, by omega, HB2.out⟩
      case measure => simp [intOf]; omega
    · obtain rfl : k = xs.length := by omega
      go_wp2
      go_ret
      exact ⟨rfl, HB.out⟩

set_option maxHeartbeats 1600000 in
theorem geqAlt (r0 u0 : Value) (x : List SymD) (w : World) (hz : altTot x ≤ 1048576) (hh0 : RowC 4 SymE w r0 x) (gg0 : RowC 4 SymE w u0 x) :
    Calls Tryz.prog 91 #[.agg #[r0], .agg #[u0]] w fun e w' => e = .returned (.bool true) ∧ Below w.heap.size w w' := by
  have HTt : altTot x = rowTot symTot x := rfl
  have BW : Hid (Below w.heap.size w ((w.alloc (.cells #[r0] 43)).alloc (.cells #[u0] 43))) := ((Below.refl _ _).alloc (Nat.le_refl _) _).alloc (by simp) _
  have R0 : Hid (RowC 4 SymE w r0 x) := hh0
  have U0 : Hid (RowC 4 SymE w u0 x) := gg0
  obtain ⟨aa0, ca0, rfl⟩ := hh0.slice
  obtain ⟨ba0, da0, rfl⟩ := gg0.slice
  clear hh0 gg0
  go_enter Tryz.func91, Tryz.ntmps91
  go_wp2_with fail
  refine (geqSymS _ _ x _ (by omega) (RowC.below SymE_stable R0.out BW.out) (RowC.below SymE_stable U0.out BW.out)).mono ?_
  rintro e w0 ⟨rfl, hb0⟩
  have B0 : Hid (Below w.heap.size w w0) := BW.out.trans (hb0.mono BW.out.size)
  clear hb0
  go_wp2
  go_ret
  exact ⟨rfl, B0.out⟩

set_option maxHeartbeats 3200000 in
theorem geqAltS (u v : Value) (xs : List (List SymD)) (w : World) (hz : rowTot altTot xs ≤ 1048576) (h : RowC 1 AltE w u xs) (h' : RowC 1 AltE w v xs) :
    Calls Tryz.prog 74 #[u, v] w fun e w' => e = .returned (.bool true) ∧ Below w.heap.size w w' := by
  have HX : Hid (RowC 1 AltE w u xs) := h
  have HY : Hid (RowC 1 AltE w v xs) := h'
  have hn := rowTot_len altTot xs
  obtain ⟨a, cap, rfl⟩ := h.slice
  obtain ⟨a', cap', rfl⟩ := h'.slice
  clear h h'
  go_enter Tryz.func74, Tryz.ntmps74
  go_wp2
  go_loopw [5] (fun iv wr => ∃ k : Nat, iv = .int .i64 k ∧ k ≤ xs.length ∧ Below w.heap.size w wr) (fun iv _ => xs.length - (intOf iv).toNat)
  case atStart => exact ⟨0, rfl, Nat.zero_le _, Below.refl _ _⟩
  case round =>
    obtain ⟨k, rfl, hk, hb⟩ := hrel
    have HB : Hid (Below w.heap.size w wr) := hb
    have HXr : Hid (RowC 1 AltE wr (.slice a xs.length cap) xs) := RowC.below AltE_stable HX.out hb
    have HYr : Hid (RowC 1 AltE wr (.slice a' xs.length cap') xs) := RowC.below AltE_stable HY.out hb
    clear hb
    by_cases hlt : k < xs.length
    · obtain ⟨b, off, vs, rfl, _, hc, hE⟩ := HXr.out.at hlt
      obtain ⟨b', off', vs', rfl, _, hc', hE'⟩ := HYr.out.at hlt
      obtain ⟨r0, rfl, hh0⟩ := hE
      obtain ⟨u0, rfl, gg0⟩ := hE'
      have n0 : wr.cell? ⟨b, off + k, none⟩ = some (r0) := by have h := hc 0 (by simp); rw [Nat.mul_one] at h; exact h
      have m0 : wr.cell? ⟨b', off' + k, none⟩ = some (u0) := by have h := hc' 0 (by simp); rw [Nat.mul_one] at h; exact h
      have i4 : (k : Int) < (xs.length : Int) := by omega
      have HE : Hid (_) := geqAlt r0 u0 xs[k] wr.drew (by have := rowTot_mem altTot (List.getElem_mem hlt); omega) (RowC.below SymE_stable hh0 (bel_drewN (Below.refl _ _) 1)) (RowC.below SymE_stable gg0 (bel_drewN (Below.refl _ _) 1))
      obtain ⟨aa0, ca0, rfl⟩ := hh0.slice
      obtain ⟨ba0, da0, rfl⟩ := gg0.slice
      clear hc hc' hh0 gg0
      go_wp2
      go_region_held3 (fun W => W.cell? ⟨b, off + k, none⟩ = some (.slice aa0 xs[k].length ca0) ∧ W.cell? ⟨b', off' + k, none⟩ = some (.slice ba0 xs[k].length da0))
        ((first | exact gkeep2 (by assumption) hb2 | go_keep))
        ((first | (go_at_call 91; refine Calls.mono HE.out ?_; rintro e w2 ⟨rfl, hb2⟩)))
      have HB2 : Hid (Below w.heap.size w w2) := HB.out.trans ((bel_of_drew hb2).mono HB.out.size)
      clear hb2
      go_wp2
      go_roundw
      case rel => exact ⟨k + 1, by go_num, by omega, HB2.out⟩
      case measure => simp [intOf]; omega
    · obtain rfl : k = xs.length := by omega
      go_wp2
      go_ret
      exact ⟨rfl, HB.out⟩

set_option maxHeartbeats 1600000 in
theorem geqRule (r0 r1 u0 u1 : Value) (x : RuleD) (w : World) (hz : ruleTot x ≤ 1048576) (hh0 : SRow w r0 x.params) (gg0 : SRow w u0 x.params) (hh1 : RowC 1 AltE w r1 x.alts) (gg1 : RowC 1 AltE w u1 x.alts) :
    Calls Tryz.prog 47 #[.agg #[.string x.name, r0, r1], .agg #[.string x.name, u0, u1]] w fun e w' => e = .returned (.bool true) ∧ Below w.heap.size w w' := by
  have HTt : ruleTot x = x.name.size + rowTot ByteArray.size x.params + rowTot altTot x.alts := rfl
  have BW : Hid (Below w.heap.size w ((w.alloc (.cells #[.string x.name, r0, r1] 40)).alloc (.cells #[.string x.name, u0, u1] 40))) := ((Below.refl _ _).alloc (Nat.le_refl _) _).alloc (by simp) _
  have eName := beq_yes (rfl : x.name = x.name)
  have R0 : Hid (SRow w r0 x.params) := hh0
  have U0 : Hid (SRow w u0 x.params) := gg0
  obtain ⟨aa0, ca0, rfl⟩ := hh0.slice
  obtain ⟨ba0, da0, rfl⟩ := gg0.slice
  have R1 : Hid (RowC 1 AltE w r1 x.alts) := hh1
  have U1 : Hid (RowC 1 AltE w u1 x.alts) := gg1
  obtain ⟨aa1, ca1, rfl⟩ := hh1.slice
  obtain ⟨ba1, da1, rfl⟩ := gg1.slice
  clear hh0 gg0 hh1 gg1
  go_enter Tryz.func47, Tryz.ntmps47
  go_wp2_with fail
  refine (geqStringS _ _ x.params _ (by omega) (R0.out.below BW.out) (U0.out.below BW.out)).mono ?_
  rintro e w0 ⟨rfl, hb0⟩
  have B0 : Hid (Below w.heap.size w w0) := BW.out.trans (hb0.mono BW.out.size)
  have K0_2 : w0.cell? ⟨w.heap.size, 2, none⟩ = some (.slice aa1 x.alts.length ca1) := cell_keep (box_two w #[.string x.name, .slice aa0 x.params.length ca0, .slice aa1 x.alts.length ca1] #[.string x.name, .slice ba0 x.params.length da0, .slice ba1 x.alts.length da1] 40 40 2 _ rfl) hb0
  have L0_2 : w0.cell? ⟨w.heap.size + 1, 2, none⟩ = some (.slice ba1 x.alts.length da1) := cell_keep (box_two' w #[.string x.name, .slice aa0 x.params.length ca0, .slice aa1 x.alts.length ca1] #[.string x.name, .slice ba0 x.params.length da0, .slice ba1 x.alts.length da1] 40 40 2 _ rfl) hb0
  clear hb0
  go_wp2_with fail
  refine (geqAltS _ _ x.alts _ (by omega) (RowC.below AltE_stable R1.out B0.out) (RowC.below AltE_stable U1.out B0.out)).mono ?_
  rintro e w1 ⟨rfl, hb1⟩
  have B1 : Hid (Below w.heap.size w w1) := B0.out.trans (hb1.mono B0.out.size)
  clear hb1
  go_wp2
  go_ret
  exact ⟨rfl, B1.out⟩

set_option maxHeartbeats 3200000 in
theorem geqRuleS (u v : Value) (xs : List (RuleD)) (w : World) (hz : rowTot ruleTot xs ≤ 1048576) (h : RowC 3 RuleE w u xs) (h' : RowC 3 RuleE w v xs) :
    Calls Tryz.prog 20 #[u, v] w fun e w' => e = .returned (.bool true) ∧ Below w.heap.size w w' := by
  have HX : Hid (RowC 3 RuleE w u xs) := h
  have HY : Hid (RowC 3 RuleE w v xs) := h'
  have hn := rowTot_len ruleTot xs
  obtain ⟨a, cap, rfl⟩ := h.slice
  obtain ⟨a', cap', rfl⟩ := h'.slice
  clear h h'
  go_enter Tryz.func20, Tryz.ntmps20
  go_wp2
  go_loopw [5] (fun iv wr => ∃ k : Nat, iv = .int .i64 k ∧ k ≤ xs.length ∧ Below w.heap.size w wr) (fun iv _ => xs.length - (intOf iv).toNat)
  case atStart => exact ⟨0, rfl, Nat.zero_le _, Below.refl _ _⟩
  case round =>
    obtain ⟨k, rfl, hk, hb⟩ := hrel
    have HB : Hid (Below w.heap.size w wr) := hb
    have HXr : Hid (RowC 3 RuleE wr (.slice a xs.length cap) xs) := RowC.below RuleE_stable HX.out hb
    have HYr : Hid (RowC 3 RuleE wr (.slice a' xs.length cap') xs) := RowC.below RuleE_stable HY.out hb
    clear hb
    by_cases hlt : k < xs.length
    · obtain ⟨b, off, vs, rfl, _, hc, hE⟩ := HXr.out.at hlt
      obtain ⟨b', off', vs', rfl, _, hc', hE'⟩ := HYr.out.at hlt
      obtain ⟨r0, r1, rfl, hh0, hh1⟩ := hE
      obtain ⟨u0, u1, rfl, gg0, gg1⟩ := hE'
      have n0 : wr.cell? ⟨b, off + k * 3, none⟩ = some (.string xs[k].name) := hc 0 (by simp)
      have n1 : wr.cell? ⟨b, off + k * 3 + 1, none⟩ = some (r0) := hc 1 (by simp)
      have n2 : wr.cell? ⟨b, off + k * 3 + 2, none⟩ = some (r1) := hc 2 (by simp)
      have m0 : wr.cell? ⟨b', off' + k * 3, none⟩ = some (.string xs[k].name) := hc' 0 (by simp)
      have m1 : wr.cell? ⟨b', off' + k * 3 + 1, none⟩ = some (u0) := hc' 1 (by simp)
      have m2 : wr.cell? ⟨b', off' + k * 3 + 2, none⟩ = some (u1) := hc' 2 (by simp)
      have i4 : (k : Int) < (xs.length : Int) := by omega
      have HE : Hid (_) := geqRule r0 r1 u0 u1 xs[k] wr.drew (by have := rowTot_mem ruleTot (List.getElem_mem hlt); omega) (hh0.below (bel_drewN (Below.refl _ _) 1)) (gg0.below (bel_drewN (Below.refl _ _) 1)) (RowC.below AltE_stable hh1 (bel_drewN (Below.refl _ _) 1)) (RowC.below AltE_stable gg1 (bel_drewN (Below.refl _ _) 1))
      obtain ⟨aa0, ca0, rfl⟩ := hh0.slice
      obtain ⟨ba0, da0, rfl⟩ := gg0.slice
      obtain ⟨aa1, ca1, rfl⟩ := hh1.slice
      obtain ⟨ba1, da1, rfl⟩ := gg1.slice
      clear hc hc' hh0 gg0 hh1 gg1
      go_wp2
      go_region_held3 (fun W => W.cell? ⟨b, off + k * 3, none⟩ = some (.string xs[k].name) ∧ W.cell? ⟨b, off + k * 3 + 1, none⟩ = some (.slice aa0 xs[k].params.length ca0) ∧ W.cell? ⟨b, off + k * 3 + 2, none⟩ = some (.slice aa1 xs[k].alts.length ca1) ∧ W.cell? ⟨b', off' + k * 3, none⟩ = some (.string xs[k].name) ∧ W.cell? ⟨b', off' + k * 3 + 1, none⟩ = some (.slice ba0 xs[k].params.length da0) ∧ W.cell? ⟨b', off' + k * 3 + 2, none⟩ = some (.slice ba1 xs[k].alts.length da1))
        ((first | exact gkeep6 (by assumption) hb2 | go_keep))
        ((first | (go_at_call 47; refine Calls.mono HE.out ?_; rintro e w2 ⟨rfl, hb2⟩)))
      have HB2 : Hid (Below w.heap.size w w2) := HB.out.trans ((bel_of_drew hb2).mono HB.out.size)
      clear hb2
      go_wp2
      go_roundw
      case rel => exact ⟨k + 1, by go_num, by omega, HB2.out⟩
      case measure => simp [intOf]; omega
    · obtain rfl : k = xs.length := by omega
      go_wp2
      go_ret
      exact ⟨rfl, HB.out⟩

set_option maxHeartbeats 1600000 in
theorem geqGrammar (r0 u0 : Value) (x : List RuleD) (w : World) (hz : grammarTot x ≤ 1048576) (hh0 : RowC 3 RuleE w r0 x) (gg0 : RowC 3 RuleE w u0 x) :
    Calls Tryz.prog 6 #[.agg #[r0], .agg #[u0]] w fun e w' => e = .returned (.bool true) ∧ Below w.heap.size w w' := by
  have HTt : grammarTot x = rowTot ruleTot x := rfl
  have BW : Hid (Below w.heap.size w ((w.alloc (.cells #[r0] 24)).alloc (.cells #[u0] 24))) := ((Below.refl _ _).alloc (Nat.le_refl _) _).alloc (by simp) _
  have R0 : Hid (RowC 3 RuleE w r0 x) := hh0
  have U0 : Hid (RowC 3 RuleE w u0 x) := gg0
  obtain ⟨aa0, ca0, rfl⟩ := hh0.slice
  obtain ⟨ba0, da0, rfl⟩ := gg0.slice
  clear hh0 gg0
  go_enter Tryz.func6, Tryz.ntmps6
  go_wp2_with fail
  refine (geqRuleS _ _ x _ (by omega) (RowC.below RuleE_stable R0.out BW.out) (RowC.below RuleE_stable U0.out BW.out)).mono ?_
  rintro e w0 ⟨rfl, hb0⟩
  have B0 : Hid (Below w.heap.size w w0) := BW.out.trans (hb0.mono BW.out.size)
  clear hb0
  go_wp2
  go_ret
  exact ⟨rfl, B0.out⟩

end Go.Proofs.YtokidlklkgghkaaGreatDoor

namespace Go.Proofs.YtokidlklkgghkaaGreatDoor
open Go.RowKit
set_option linter.unusedVariables false

theorem mod_add (j m f : Nat) (h : f < m) : (j * m + f) % m = f := by rw [Nat.mul_comm, Nat.mul_add_mod, Nat.mod_eq_of_lt h]

end Go.Proofs.YtokidlklkgghkaaGreatDoor

namespace Go.Proofs.YtokidlklkgghkaaGreatDoor
open Go.RowKit
set_option linter.unusedVariables false

set_option maxHeartbeats 3200000 in
set_option maxRecDepth 100000 in
theorem hmIntS {n c : Nat} {F : Nat → Prop} (v : Value) (k : Nat) (w : World) (hk0 : 0 < k) (hk : k + c ≤ 100000000000) (h : Hd tau (n + 1) (.row 3) w v c F none) :
    Calls Tryz.prog 128 #[v, .int .i64 (k : Int)] w fun e w' => e = .returned (.int .i64 ((k + c : Nat) : Int)) ∧ Kp F w w' ∧ Hd tau (n + 1) (.row 3) w' v c F (some k) := by
  obtain ⟨a, len, cap, ns, Fs, rfl, hnl, rfl, hst⟩ := HdR.start (n := n + 0) h
  have H0 : Hid (HdR tau (n + 0) 3 (.slice a len cap) len ns F Fs k (0 * 1) w) := by rw [Hid, Nat.zero_mul]; exact hst k
  have hlen := (hst k).long
  have HNl : Hid (ns.length = len * 1) := hnl
  clear h hst hnl
  go_enter Tryz.func128, Tryz.ntmps128
  go_wp2
  go_loopw [1, 5] (fun kv iv wr => ∃ j : Nat, iv = .int .i64 j ∧ j ≤ len ∧ kv = .int .i64 ((k + (ns.take (j * 1)).sum : Nat) : Int) ∧ HdR tau (n + 0) 3 (.slice a len cap) len ns F Fs k (j * 1) wr ∧ Kp F w wr) (fun _ iv _ => len - (intOf iv).toNat)
  case atStart => exact ⟨0, rfl, Nat.zero_le _, by simp, H0.out, Kp.refl⟩
  case round =>
    obtain ⟨j, rfl, hj, rfl, hmr, hkp⟩ := hrel
    have M0 : Hid (HdR tau (n + 0) 3 (.slice a len cap) len ns F Fs k (j * 1) wr) := hmr
    have K0 : Hid (Kp F w wr) := hkp
    clear hmr hkp H0
    by_cases hlt : j < len
    · have i4 : (j : Int) < (len : Int) := by omega
      have hp0 : j * 1 + 0 < len * (tau 3).length := by show j * 1 + 0 < len * 1; omega
      have hm0 : (tau 3)[(j * 1 + 0) % (tau 3).length]? = some (.int) := by rw [show (j * 1 + 0) % (tau 3).length = 0 from mod_add j 1 0 (by omega)]; rfl
      obtain ⟨g0, u0, ea0, hF0, hc0, hz0, hu0⟩ := M0.out.at hp0 hm0
      subst ea0
      obtain ⟨g, rfl⟩ : ∃ g, g = g0 := ⟨g0, rfl⟩
      have t0 : (ns.take (j * 1 + 1)).sum = (ns.take (j * 1)).sum + ns.getD (j * 1 + 0) 0 := take_getD ns (j * 1 + 0)
      have en0 : ns.getD (j * 1 + 0) 0 = 1 := by cases n <;> exact hu0.2
      rw [en0] at t0
      have hle : (ns.take ((j + 1) * 1)).sum ≤ ns.sum := tk_le ns _
      rw [show (j + 1) * 1 = j * 1 + 1 by omega] at hle
      obtain ⟨z0, hz0'⟩ : ∃ z0 : Nat, z0 = k + (ns.take (j * 1)).sum := ⟨_, rfl⟩
      rw [← hz0']
      obtain ⟨z1, hz1'⟩ : ∃ z1 : Nat, z1 = z0 + 1 := ⟨_, rfl⟩
      have E0 : Hid (k + (ns.take (j * 1 + 0)).sum = z0) := by rw [Hid]; rw [Nat.add_zero]; omega
      have EN0 : Hid (ns.getD (j * 1 + 0) 0 = 1) := en0
      have EE : Hid (z1 = k + (ns.take ((j + 1) * 1)).sum) := by rw [Hid, show (j + 1) * 1 = j * 1 + 1 by omega]; omega
      have hp0' : 0 < z0 := by omega
      have hq0' : z0 ≤ 100000000000 := by omega
      have hp1' : 0 < z1 := by omega
      have hq1' : z1 ≤ 100000000000 := by omega
      have wp0 : IntKind.i64.wrap ((z0 : Int) + 1) = (z1 : Int) := by rw [IntKind.wrap_i64]; omega
      clear hle hz0' hz1' t0 hc0 hz0 hu0 en0
      obtain ⟨gg0, v0, ea, hFg0, hc0, hz0, hu0⟩ := M0.out.at hp0 hm0
      cases ea
      rw [Nat.add_zero, Nat.mul_one] at hc0 hz0
      have M1 : Hid (HdR tau (n + 0) 3 (.slice (some ⟨g, 0, none⟩) len cap) len ns F Fs k (j * 1 + 1) (wr.setCell ⟨g, j, none⟩ (.int .i64 (z0 : Int)))) := by
        have h := HdR.store (g := g) (p := j * 1 + 0) M0.out hm0 (u := .int .i64 (z0 : Int)) (fun W => by rw [EN0.out, E0.out]; exact Hd.numAt rfl)
        rw [Hid]
        simpa only [Nat.add_zero, Nat.mul_one] using h
      have K1 : Hid (Kp F w (wr.setCell ⟨g, j, none⟩ (.int .i64 (z0 : Int)))) := K0.out.trans (Kp.store hFg0)
      clear hu0
      go_wp2
      go_roundw
      case rel => exact ⟨j + 1, by go_num, by omega, by rw [← EE.out], by have h := M1.out; rwa [show j * 1 + 1 = (j + 1) * 1 by omega] at h, K1.out⟩
      case measure => simp [intOf]; omega
    · obtain rfl : j = len := by omega
      have HV : Hid ((ns.take (j * 1)).sum = ns.sum) := by rw [Hid, List.take_of_length_le (by rw [HNl.out]; exact Nat.le_refl _)]
      rw [HV.out]
      have i4 : ¬ (j : Int) < (j : Int) := by omega
      go_wp2
      go_ret
      exact ⟨rfl, K0.out, HdR.done M0.out⟩

set_option maxHeartbeats 3200000 in
set_option maxRecDepth 100000 in
theorem hhIntS {n c : Nat} {F : Nat → Prop} (v : Value) (k : Nat) (w : World) (hk0 : 0 < k) (hk : k + c ≤ 100000000000) (h : Hd tau (n + 1) (.row 3) w v c F (some k)) :
    Calls Tryz.prog 129 #[v, .int .i64 (k : Int)] w fun e w' => e = .returned (.int .i64 ((k + c : Nat) : Int)) ∧ Below w.heap.size w w' := by
  obtain ⟨a, len, cap, ns, Fs, rfl, hnl, rfl, hst⟩ := HdR.open (n := n + 0) h
  have H0 : Hid (HdR tau (n + 0) 3 (.slice a len cap) len ns F Fs k (len * 1) w) := hst
  have hlen := hst.long
  have HNl : Hid (ns.length = len * 1) := hnl
  clear h hst hnl
  go_enter Tryz.func129, Tryz.ntmps129
  go_wp2
  go_loopw [1, 5] (fun kv iv wr => ∃ j : Nat, iv = .int .i64 j ∧ j ≤ len ∧ kv = .int .i64 ((k + (ns.take (j * 1)).sum : Nat) : Int) ∧ Below w.heap.size w wr) (fun _ iv _ => len - (intOf iv).toNat)
  case atStart => exact ⟨0, rfl, Nat.zero_le _, by simp, Below.refl _ _⟩
  case round =>
    obtain ⟨j, rfl, hj, rfl, hb⟩ := hrel
    have B0 : Hid (Below w.heap.size w wr) := hb
    have M0 : Hid (HdR tau (n + 0) 3 (.slice a len cap) len ns F Fs k (len * 1) wr) := H0.out.ag (Ag.below hb)
    clear hb
    by_cases hlt : j < len
    · have i4 : (j : Int) < (len : Int) := by omega
      have hp0 : j * 1 + 0 < len * (tau 3).length := by show j * 1 + 0 < len * 1; omega
      have hm0 : (tau 3)[(j * 1 + 0) % (tau 3).length]? = some (.int) := by rw [show (j * 1 + 0) % (tau 3).length = 0 from mod_add j 1 0 (by omega)]; rfl
      obtain ⟨g0, u0, ea0, hF0, hc0, hz0, hu0⟩ := M0.out.at hp0 hm0
      subst ea0
      obtain ⟨g, rfl⟩ : ∃ g, g = g0 := ⟨g0, rfl⟩
      have t0 : (ns.take (j * 1 + 1)).sum = (ns.take (j * 1)).sum + ns.getD (j * 1 + 0) 0 := take_getD ns (j * 1 + 0)
      rw [if_pos (by omega)] at hu0
      have en0 : ns.getD (j * 1 + 0) 0 = 1 := by cases n <;> exact hu0.2
      rw [en0] at t0
      have hle : (ns.take ((j + 1) * 1)).sum ≤ ns.sum := tk_le ns _
      rw [show (j + 1) * 1 = j * 1 + 1 by omega] at hle
      obtain ⟨z0, hz0'⟩ : ∃ z0 : Nat, z0 = k + (ns.take (j * 1)).sum := ⟨_, rfl⟩
      rw [← hz0']
      obtain ⟨z1, hz1'⟩ : ∃ z1 : Nat, z1 = z0 + 1 := ⟨_, rfl⟩
      have E0 : k + (ns.take (j * 1 + 0)).sum = z0 := by rw [Nat.add_zero]; omega
      rw [E0] at hu0
      have ev0 : u0 = .int .i64 (z0 : Int) := by
        have h : ∃ z, u0 = .int .i64 z ∧ ∀ q, some z0 = some q → z = (q : Int) := by cases n <;> exact hu0.1
        obtain ⟨z, e1, e2⟩ := h
        rw [e1, e2 _ rfl]
      subst ev0
      have EE : Hid (z1 = k + (ns.take ((j + 1) * 1)).sum) := by rw [Hid, show (j + 1) * 1 = j * 1 + 1 by omega]; omega
      have hp0' : 0 < z0 := by omega
      have hq0' : z0 ≤ 100000000000 := by omega
      have hp1' : 0 < z1 := by omega
      have hq1' : z1 ≤ 100000000000 := by omega
      have wp0 : IntKind.i64.wrap ((z0 : Int) + 1) = (z1 : Int) := by rw [IntKind.wrap_i64]; omega
      rw [Nat.add_zero, Nat.mul_one] at hc0
      clear hle hz0' hz1' t0 hz0 hF0 hm0 hp0 E0 hu0 en0 
      have D0 : Hid (Below wr.heap.size wr wr) := Below.refl _ _
      have BF : Hid (Below w.heap.size w wr) := B0.out.trans (D0.out.mono B0.out.size)
      go_wp2
      go_roundw
      case rel => exact ⟨j + 1, by go_num, by omega, by rw [← EE.out], BF.out⟩
      case measure => simp [intOf]; omega
    · obtain rfl : j = len := by omega
      have HV : Hid ((ns.take (j * 1)).sum = ns.sum) := by rw [Hid, List.take_of_length_le (by rw [HNl.out]; exact Nat.le_refl _)]
      rw [HV.out]
      have i4 : ¬ (j : Int) < (j : Int) := by omega
      go_wp2
      go_ret
      exact ⟨rfl, B0.out⟩

set_option maxHeartbeats 3200000 in
set_option maxRecDepth 100000 in
theorem hmStringS {n c : Nat} {F : Nat → Prop} (v : Value) (k : Nat) (w : World) (hk0 : 0 < k) (hk : k + c ≤ 100000000000) (h : Hd tau (n + 1) (.row 9) w v c F none) :
    Calls Tryz.prog 49 #[v, .int .i64 (k : Int)] w fun e w' => e = .returned (.int .i64 ((k + c : Nat) : Int)) ∧ Kp F w w' ∧ Hd tau (n + 1) (.row 9) w' v c F (some k) := by
  obtain ⟨a, len, cap, ns, Fs, rfl, hnl, rfl, hst⟩ := HdR.start (n := n + 0) h
  have H0 : Hid (HdR tau (n + 0) 9 (.slice a len cap) len ns F Fs k (0 * 1) w) := by rw [Hid, Nat.zero_mul]; exact hst k
  have hlen := (hst k).long
  have HNl : Hid (ns.length = len * 1) := hnl
  clear h hst hnl
  go_enter Tryz.func49, Tryz.ntmps49
  go_wp2
  go_loopw [1, 5] (fun kv iv wr => ∃ j : Nat, iv = .int .i64 j ∧ j ≤ len ∧ kv = .int .i64 ((k + (ns.take (j * 1)).sum : Nat) : Int) ∧ HdR tau (n + 0) 9 (.slice a len cap) len ns F Fs k (j * 1) wr ∧ Kp F w wr) (fun _ iv _ => len - (intOf iv).toNat)
  case atStart => exact ⟨0, rfl, Nat.zero_le _, by simp, H0.out, Kp.refl⟩
  case round =>
    obtain ⟨j, rfl, hj, rfl, hmr, hkp⟩ := hrel
    have M0 : Hid (HdR tau (n + 0) 9 (.slice a len cap) len ns F Fs k (j * 1) wr) := hmr
    have K0 : Hid (Kp F w wr) := hkp
    clear hmr hkp H0
    by_cases hlt : j < len
    · have i4 : (j : Int) < (len : Int) := by omega
      have hp0 : j * 1 + 0 < len * (tau 9).length := by show j * 1 + 0 < len * 1; omega
      have hm0 : (tau 9)[(j * 1 + 0) % (tau 9).length]? = some (.str) := by rw [show (j * 1 + 0) % (tau 9).length = 0 from mod_add j 1 0 (by omega)]; rfl
      obtain ⟨g0, u0, ea0, hF0, hc0, hz0, hu0⟩ := M0.out.at hp0 hm0
      subst ea0
      obtain ⟨g, rfl⟩ : ∃ g, g = g0 := ⟨g0, rfl⟩
      have t0 : (ns.take (j * 1 + 1)).sum = (ns.take (j * 1)).sum + ns.getD (j * 1 + 0) 0 := take_getD ns (j * 1 + 0)
      have en0 : ns.getD (j * 1 + 0) 0 = 1 := by cases n <;> exact hu0.2
      rw [en0] at t0
      have hle : (ns.take ((j + 1) * 1)).sum ≤ ns.sum := tk_le ns _
      rw [show (j + 1) * 1 = j * 1 + 1 by omega] at hle
      obtain ⟨z0, hz0'⟩ : ∃ z0 : Nat, z0 = k + (ns.take (j * 1)).sum := ⟨_, rfl⟩
      rw [← hz0']
      obtain ⟨z1, hz1'⟩ : ∃ z1 : Nat, z1 = z0 + 1 := ⟨_, rfl⟩
      have E0 : Hid (k + (ns.take (j * 1 + 0)).sum = z0) := by rw [Hid]; rw [Nat.add_zero]; omega
      have EN0 : Hid (ns.getD (j * 1 + 0) 0 = 1) := en0
      have EE : Hid (z1 = k + (ns.take ((j + 1) * 1)).sum) := by rw [Hid, show (j + 1) * 1 = j * 1 + 1 by omega]; omega
      have hp0' : 0 < z0 := by omega
      have hq0' : z0 ≤ 100000000000 := by omega
      have hp1' : 0 < z1 := by omega
      have hq1' : z1 ≤ 100000000000 := by omega
      have wp0 : IntKind.i64.wrap ((z0 : Int) + 1) = (z1 : Int) := by rw [IntKind.wrap_i64]; omega
      clear hle hz0' hz1' t0 hc0 hz0 hu0 en0
      go_wp2_with fail
      refine (mark_any z0 _ hp0' (by omega)).mono ?_
      rintro e w1 ⟨rfl, hb0⟩
      have M1 : Hid (HdR tau (n + 0) 9 (.slice (some ⟨g, 0, none⟩) len cap) len ns F Fs k (j * 1 + 0) w1) := M0.out.ag (Ag.below hb0)
      have K1 : Hid (Kp F w w1) := K0.out.trans (Kp.below hb0)
      clear hb0
      obtain ⟨gg0, v0, ea, hFg0, hc0, hz0, hu0⟩ := M1.out.at hp0 hm0
      cases ea
      rw [Nat.add_zero, Nat.mul_one] at hc0 hz0
      have M2 : Hid (HdR tau (n + 0) 9 (.slice (some ⟨g, 0, none⟩) len cap) len ns F Fs k (j * 1 + 1) (w1.setCell ⟨g, j, none⟩ (.string (str (markB z0))))) := by
        have h := HdR.store (g := g) (p := j * 1 + 0) M1.out hm0 (u := .string (str (markB z0))) (fun W => by rw [EN0.out, E0.out]; exact Hd.textAt)
        rw [Hid]
        simpa only [Nat.add_zero, Nat.mul_one] using h
      have K2 : Hid (Kp F w (w1.setCell ⟨g, j, none⟩ (.string (str (markB z0))))) := K1.out.trans (Kp.store hFg0)
      clear hu0
      generalize str (markB z0) = T0 at *
      go_wp2
      go_roundw
      case rel => exact ⟨j + 1, by go_num, by omega, by rw [← EE.out], by have h := M2.out; rwa [show j * 1 + 1 = (j + 1) * 1 by omega] at h, K2.out⟩
      case measure => simp [intOf]; omega
    · obtain rfl : j = len := by omega
      have HV : Hid ((ns.take (j * 1)).sum = ns.sum) := by rw [Hid, List.take_of_length_le (by rw [HNl.out]; exact Nat.le_refl _)]
      rw [HV.out]
      have i4 : ¬ (j : Int) < (j : Int) := by omega
      go_wp2
      go_ret
      exact ⟨rfl, K0.out, HdR.done M0.out⟩

set_option maxHeartbeats 3200000 in
set_option maxRecDepth 100000 in
theorem hhStringS {n c : Nat} {F : Nat → Prop} (v : Value) (k : Nat) (w : World) (hk0 : 0 < k) (hk : k + c ≤ 100000000000) (h : Hd tau (n + 1) (.row 9) w v c F (some k)) :
    Calls Tryz.prog 51 #[v, .int .i64 (k : Int)] w fun e w' => e = .returned (.int .i64 ((k + c : Nat) : Int)) ∧ Below w.heap.size w w' := by
  obtain ⟨a, len, cap, ns, Fs, rfl, hnl, rfl, hst⟩ := HdR.open (n := n + 0) h
  have H0 : Hid (HdR tau (n + 0) 9 (.slice a len cap) len ns F Fs k (len * 1) w) := hst
  have hlen := hst.long
  have HNl : Hid (ns.length = len * 1) := hnl
  clear h hst hnl
  go_enter Tryz.func51, Tryz.ntmps51
  go_wp2
  go_loopw [1, 5] (fun kv iv wr => ∃ j : Nat, iv = .int .i64 j ∧ j ≤ len ∧ kv = .int .i64 ((k + (ns.take (j * 1)).sum : Nat) : Int) ∧ Below w.heap.size w wr) (fun _ iv _ => len - (intOf iv).toNat)
  case atStart => exact ⟨0, rfl, Nat.zero_le _, by simp, Below.refl _ _⟩
  case round =>
    obtain ⟨j, rfl, hj, rfl, hb⟩ := hrel
    have B0 : Hid (Below w.heap.size w wr) := hb
    have M0 : Hid (HdR tau (n + 0) 9 (.slice a len cap) len ns F Fs k (len * 1) wr) := H0.out.ag (Ag.below hb)
    clear hb
    by_cases hlt : j < len
    · have i4 : (j : Int) < (len : Int) := by omega
      have hp0 : j * 1 + 0 < len * (tau 9).length := by show j * 1 + 0 < len * 1; omega
      have hm0 : (tau 9)[(j * 1 + 0) % (tau 9).length]? = some (.str) := by rw [show (j * 1 + 0) % (tau 9).length = 0 from mod_add j 1 0 (by omega)]; rfl
      obtain ⟨g0, u0, ea0, hF0, hc0, hz0, hu0⟩ := M0.out.at hp0 hm0
      subst ea0
      obtain ⟨g, rfl⟩ : ∃ g, g = g0 := ⟨g0, rfl⟩
      have t0 : (ns.take (j * 1 + 1)).sum = (ns.take (j * 1)).sum + ns.getD (j * 1 + 0) 0 := take_getD ns (j * 1 + 0)
      rw [if_pos (by omega)] at hu0
      have en0 : ns.getD (j * 1 + 0) 0 = 1 := by cases n <;> exact hu0.2
      rw [en0] at t0
      have hle : (ns.take ((j + 1) * 1)).sum ≤ ns.sum := tk_le ns _
      rw [show (j + 1) * 1 = j * 1 + 1 by omega] at hle
      obtain ⟨z0, hz0'⟩ : ∃ z0 : Nat, z0 = k + (ns.take (j * 1)).sum := ⟨_, rfl⟩
      rw [← hz0']
      obtain ⟨z1, hz1'⟩ : ∃ z1 : Nat, z1 = z0 + 1 := ⟨_, rfl⟩
      have E0 : k + (ns.take (j * 1 + 0)).sum = z0 := by rw [Nat.add_zero]; omega
      rw [E0] at hu0
      have ev0 : u0 = .string (str (markB z0)) := by
        have h : ∃ s, u0 = .string s ∧ ∀ q, some z0 = some q → s = str (markB q) := by cases n <;> exact hu0.1
        obtain ⟨s, e1, e2⟩ := h
        rw [e1, e2 _ rfl]
      subst ev0
      have EE : Hid (z1 = k + (ns.take ((j + 1) * 1)).sum) := by rw [Hid, show (j + 1) * 1 = j * 1 + 1 by omega]; omega
      have hp0' : 0 < z0 := by omega
      have hq0' : z0 ≤ 100000000000 := by omega
      have hp1' : 0 < z1 := by omega
      have hq1' : z1 ≤ 100000000000 := by omega
      have wp0 : IntKind.i64.wrap ((z0 : Int) + 1) = (z1 : Int) := by rw [IntKind.wrap_i64]; omega
      rw [Nat.add_zero, Nat.mul_one] at hc0
      obtain ⟨T0, hT0⟩ : ∃ T, T = str (markB z0) := ⟨_, rfl⟩
      rw [← hT0] at hc0
      have HM0 : Hid (∀ W, _) := fun W => mark_any z0 W hp0' (by omega)
      rw [← hT0] at HM0
      clear hle hz0' hz1' t0 hz0 hF0 hm0 hp0 E0 hu0 en0 hT0
      have D0 : Hid (Below wr.heap.size wr wr) := Below.refl _ _
      go_wp2
      go_region_held3 (fun W => W.cell? ⟨g, j, none⟩ = some (.string T0)) ((first | go_keep | exact cell_keep (W := wr.drew) hc0 hb0))
        ((first | (go_at_call 48; refine (HM0.out _).mono ?_; rintro e v1 ⟨rfl, hb0⟩)))
      have hb0' := bel_of_drew hb0
      have D1 : Hid (Below wr.heap.size wr v1) := D0.out.trans (hb0'.mono D0.out.size)
      clear hb0 hb0'
      have BF : Hid (Below w.heap.size w v1) := B0.out.trans (D1.out.mono B0.out.size)
      go_wp2
      go_roundw
      case rel => exact ⟨j + 1, by go_num, by omega, by rw [← EE.out], BF.out⟩
      case measure => simp [intOf]; omega
    · obtain rfl : j = len := by omega
      have HV : Hid ((ns.take (j * 1)).sum = ns.sum) := by rw [Hid, List.take_of_length_le (by rw [HNl.out]; exact Nat.le_refl _)]
      rw [HV.out]
      have i4 : ¬ (j : Int) < (j : Int) := by omega
      go_wp2
      go_ret
      exact ⟨rfl, B0.out⟩

end Go.Proofs.YtokidlklkgghkaaGreatDoor

namespace Go.Proofs.YtokidlklkgghkaaGreatDoor
open Go.RowKit
set_option linter.unusedVariables false

set_option maxHeartbeats 3200000 in
set_option maxRecDepth 100000 in
theorem hmExNodeS {n c : Nat} {F : Nat → Prop} (v : Value) (k : Nat) (w : World) (hk0 : 0 < k) (hk : k + c ≤ 100000000000) (h : Hd tau (n + 2) (.row 93) w v c F none) :
    Calls Tryz.prog 111 #[v, .int .i64 (k : Int)] w fun e w' => e = .returned (.int .i64 ((k + c : Nat) : Int)) ∧ Kp F w w' ∧ Hd tau (n + 2) (.row 93) w' v c F (some k) := by
  obtain ⟨a, len, cap, ns, Fs, rfl, hnl, rfl, hst⟩ := HdR.start (n := n + 1) h
  have H0 : Hid (HdR tau (n + 1) 93 (.slice a len cap) len ns F Fs k (0 * 4) w) := by rw [Hid, Nat.zero_mul]; exact hst k
  have hlen := (hst k).long
  have HNl : Hid (ns.length = len * 4) := hnl
  clear h hst hnl
  go_enter Tryz.func111, Tryz.ntmps111
  go_wp2
  go_loopw [1, 5] (fun kv iv wr => ∃ j : Nat, iv = .int .i64 j ∧ j ≤ len ∧ kv = .int .i64 ((k + (ns.take (j * 4)).sum : Nat) : Int) ∧ HdR tau (n + 1) 93 (.slice a len cap) len ns F Fs k (j * 4) wr ∧ Kp F w wr) (fun _ iv _ => len - (intOf iv).toNat)
  case atStart => exact ⟨0, rfl, Nat.zero_le _, by simp, H0.out, Kp.refl⟩
  case round =>
    obtain ⟨j, rfl, hj, rfl, hmr, hkp⟩ := hrel
    have M0 : Hid (HdR tau (n + 1) 93 (.slice a len cap) len ns F Fs k (j * 4) wr) := hmr
    have K0 : Hid (Kp F w wr) := hkp
    clear hmr hkp H0
    by_cases hlt : j < len
    · have i4 : (j : Int) < (len : Int) := by omega
      have hp0 : j * 4 + 0 < len * (tau 93).length := by show j * 4 + 0 < len * 4; omega
      have hm0 : (tau 93)[(j * 4 + 0) % (tau 93).length]? = some (.int) := by rw [show (j * 4 + 0) % (tau 93).length = 0 from mod_add j 4 0 (by omega)]; rfl
      obtain ⟨g0, u0, ea0, hF0, hc0, hz0, hu0⟩ := M0.out.at hp0 hm0
      subst ea0
      obtain ⟨g, rfl⟩ : ∃ g, g = g0 := ⟨g0, rfl⟩
      have t0 : (ns.take (j * 4 + 1)).sum = (ns.take (j * 4)).sum + ns.getD (j * 4 + 0) 0 := take_getD ns (j * 4 + 0)
      have hp1 : j * 4 + 1 < len * (tau 93).length := by show j * 4 + 1 < len * 4; omega
      have hm1 : (tau 93)[(j * 4 + 1) % (tau 93).length]? = some (.int) := by rw [show (j * 4 + 1) % (tau 93).length = 1 from mod_add j 4 1 (by omega)]; rfl
      obtain ⟨g1, u1, ea1, hF1, hc1, hz1, hu1⟩ := M0.out.at hp1 hm1
      cases ea1
      have t1 : (ns.take (j * 4 + 2)).sum = (ns.take (j * 4 + 1)).sum + ns.getD (j * 4 + 1) 0 := take_getD ns (j * 4 + 1)
      have hp2 : j * 4 + 2 < len * (tau 93).length := by show j * 4 + 2 < len * 4; omega
      have hm2 : (tau 93)[(j * 4 + 2) % (tau 93).length]? = some (.str) := by rw [show (j * 4 + 2) % (tau 93).length = 2 from mod_add j 4 2 (by omega)]; rfl
      obtain ⟨g2, u2, ea2, hF2, hc2, hz2, hu2⟩ := M0.out.at hp2 hm2
      cases ea2
      have t2 : (ns.take (j * 4 + 3)).sum = (ns.take (j * 4 + 2)).sum + ns.getD (j * 4 + 2) 0 := take_getD ns (j * 4 + 2)
      have hp3 : j * 4 + 3 < len * (tau 93).length := by show j * 4 + 3 < len * 4; omega
      have hm3 : (tau 93)[(j * 4 + 3) % (tau 93).length]? = some (.row 3) := by rw [show (j * 4 + 3) % (tau 93).length = 3 from mod_add j 4 3 (by omega)]; rfl
      obtain ⟨g3, u3, ea3, hF3, hc3, hz3, hu3⟩ := M0.out.at hp3 hm3
      cases ea3
      have t3 : (ns.take (j * 4 + 4)).sum = (ns.take (j * 4 + 3)).sum + ns.getD (j * 4 + 3) 0 := take_getD ns (j * 4 + 3)
      have en0 : ns.getD (j * 4 + 0) 0 = 1 := by cases n <;> exact hu0.2
      rw [en0] at t0
      have en1 : ns.getD (j * 4 + 1) 0 = 1 := by cases n <;> exact hu1.2
      rw [en1] at t1
      have en2 : ns.getD (j * 4 + 2) 0 = 1 := by cases n <;> exact hu2.2
      rw [en2] at t2
      obtain ⟨x3, hx3⟩ : ∃ x3 : Nat, x3 = ns.getD (j * 4 + 3) 0 := ⟨_, rfl⟩
      rw [← hx3] at t3
      have HX3 : Hid (ns.getD (j * 4 + 3) 0 = x3) := hx3.symm
      have hle : (ns.take ((j + 1) * 4)).sum ≤ ns.sum := tk_le ns _
      rw [show (j + 1) * 4 = j * 4 + 4 by omega] at hle
      obtain ⟨z0, hz0'⟩ : ∃ z0 : Nat, z0 = k + (ns.take (j * 4)).sum := ⟨_, rfl⟩
      rw [← hz0']
      obtain ⟨z1, hz1'⟩ : ∃ z1 : Nat, z1 = z0 + 1 := ⟨_, rfl⟩
      obtain ⟨z2, hz2'⟩ : ∃ z2 : Nat, z2 = z1 + 1 := ⟨_, rfl⟩
      obtain ⟨z3, hz3'⟩ : ∃ z3 : Nat, z3 = z2 + 1 := ⟨_, rfl⟩
      obtain ⟨z4, hz4'⟩ : ∃ z4 : Nat, z4 = z3 + x3 := ⟨_, rfl⟩
      have E0 : Hid (k + (ns.take (j * 4 + 0)).sum = z0) := by rw [Hid]; rw [Nat.add_zero]; omega
      have EN0 : Hid (ns.getD (j * 4 + 0) 0 = 1) := en0
      have E1 : Hid (k + (ns.take (j * 4 + 1)).sum = z1) := by rw [Hid]; omega
      have EN1 : Hid (ns.getD (j * 4 + 1) 0 = 1) := en1
      have E2 : Hid (k + (ns.take (j * 4 + 2)).sum = z2) := by rw [Hid]; omega
      have EN2 : Hid (ns.getD (j * 4 + 2) 0 = 1) := en2
      have E3 : Hid (k + (ns.take (j * 4 + 3)).sum = z3) := by rw [Hid]; omega
      have HZ4 : Hid (z4 = z3 + x3) := hz4'
      have EE : Hid (z4 = k + (ns.take ((j + 1) * 4)).sum) := by rw [Hid, show (j + 1) * 4 = j * 4 + 4 by omega]; omega
      have hp0' : 0 < z0 := by omega
      have hq0' : z0 ≤ 100000000000 := by omega
      have hp1' : 0 < z1 := by omega
      have hq1' : z1 ≤ 100000000000 := by omega
      have hp2' : 0 < z2 := by omega
      have hq2' : z2 ≤ 100000000000 := by omega
      have hp3' : 0 < z3 := by omega
      have hq3' : z3 ≤ 100000000000 := by omega
      have hp4' : 0 < z4 := by omega
      have hq4' : z4 ≤ 100000000000 := by omega
      have wp0 : IntKind.i64.wrap ((z0 : Int) + 1) = (z1 : Int) := by rw [IntKind.wrap_i64]; omega
      have wp1 : IntKind.i64.wrap ((z1 : Int) + 1) = (z2 : Int) := by rw [IntKind.wrap_i64]; omega
      have wp2 : IntKind.i64.wrap ((z2 : Int) + 1) = (z3 : Int) := by rw [IntKind.wrap_i64]; omega
      have hs3' : z3 + x3 ≤ 100000000000 := by omega
      clear hle hz0' hz1' hz2' hz3' hz4' t0 hc0 hz0 hu0 t1 hc1 hz1 hu1 t2 hc2 hz2 hu2 t3 hc3 hz3 hu3 en0 en1 en2 hx3
      obtain ⟨gg0, v0, ea, hFg0, hc0, hz0, hu0⟩ := M0.out.at hp0 hm0
      cases ea
      rw [Nat.add_zero] at hc0 hz0
      have M1 : Hid (HdR tau (n + 1) 93 (.slice (some ⟨g, 0, none⟩) len cap) len ns F Fs k (j * 4 + 1) (wr.setCell ⟨g, j * 4, none⟩ (.int .i64 (z0 : Int)))) := by
        have h := HdR.store (g := g) (p := j * 4 + 0) M0.out hm0 (u := .int .i64 (z0 : Int)) (fun W => by rw [EN0.out, E0.out]; exact Hd.numAt rfl)
        rw [Hid]
        simpa only [Nat.add_zero, Nat.mul_one] using h
      have K1 : Hid (Kp F w (wr.setCell ⟨g, j * 4, none⟩ (.int .i64 (z0 : Int)))) := K0.out.trans (Kp.store hFg0)
      clear hu0
      obtain ⟨gg1, v1, ea, hFg1, hc1, hz1, hu1⟩ := M1.out.at hp1 hm1
      cases ea
      have M2 : Hid (HdR tau (n + 1) 93 (.slice (some ⟨g, 0, none⟩) len cap) len ns F Fs k (j * 4 + 2) ((wr.setCell ⟨g, j * 4, none⟩ (.int .i64 (z0 : Int))).setCell ⟨g, j * 4 + 1, none⟩ (.int .i64 (z1 : Int)))) := by
        have h := HdR.store (g := g) (p := j * 4 + 1) M1.out hm1 (u := .int .i64 (z1 : Int)) (fun W => by rw [EN1.out, E1.out]; exact Hd.numAt rfl)
        rw [Hid]
        simpa only [Nat.add_zero, Nat.mul_one] using h
      have K2 : Hid (Kp F w ((wr.setCell ⟨g, j * 4, none⟩ (.int .i64 (z0 : Int))).setCell ⟨g, j * 4 + 1, none⟩ (.int .i64 (z1 : Int)))) := K1.out.trans (Kp.store hFg1)
      clear hu1
      go_wp2_with fail
      refine (mark_any z2 _ hp2' (by omega)).mono ?_
      rintro e w1 ⟨rfl, hb2⟩
      have M3 : Hid (HdR tau (n + 1) 93 (.slice (some ⟨g, 0, none⟩) len cap) len ns F Fs k (j * 4 + 2) w1) := M2.out.ag (Ag.below hb2)
      have K3 : Hid (Kp F w w1) := K2.out.trans (Kp.below hb2)
      clear hb2
      obtain ⟨gg2, v2, ea, hFg2, hc2, hz2, hu2⟩ := M3.out.at hp2 hm2
      cases ea
      have M4 : Hid (HdR tau (n + 1) 93 (.slice (some ⟨g, 0, none⟩) len cap) len ns F Fs k (j * 4 + 3) (w1.setCell ⟨g, j * 4 + 2, none⟩ (.string (str (markB z2))))) := by
        have h := HdR.store (g := g) (p := j * 4 + 2) M3.out hm2 (u := .string (str (markB z2))) (fun W => by rw [EN2.out, E2.out]; exact Hd.textAt)
        rw [Hid]
        simpa only [Nat.add_zero, Nat.mul_one] using h
      have K4 : Hid (Kp F w (w1.setCell ⟨g, j * 4 + 2, none⟩ (.string (str (markB z2))))) := K3.out.trans (Kp.store hFg2)
      clear hu2
      generalize str (markB z2) = T2 at *
      obtain ⟨gg3, v3, ea, hFg3, hc3, hz3, hu3⟩ := M4.out.at hp3 hm3
      cases ea
      rw [if_neg (by omega), HX3.out] at hu3
      obtain ⟨ar3, lr3, cr3, er3⟩ : ∃ a l c, v3 = .slice a l c := by
        obtain ⟨a, l, c, _, _, e, _⟩ := HdR.start (n := n + 0) hu3
        exact ⟨a, l, c, e⟩
      subst er3
      have HC3 : Hid (∀ _ : Unit, _) := fun _ => hmIntS (n := n + 0) (.slice ar3 lr3 cr3) z3 (w1.setCell ⟨g, j * 4 + 2, none⟩ (.string (T2))) hp3' hs3' hu3
      have HU3 : Hid ((w1.setCell ⟨g, j * 4 + 2, none⟩ (.string (T2))).cell? ⟨g, j * 4 + 3, none⟩ = some (.slice ar3 lr3 cr3)) := hc3
      clear hu3
      go_wp2_with fail
      refine (HC3.out ()).mono ?_
      rintro e w2 ⟨rfl, hk3, hd3⟩
      rw [← HZ4.out]
      have M5 : Hid (HdR tau (n + 1) 93 (.slice (some ⟨g, 0, none⟩) len cap) len ns F Fs k (j * 4 + 4) w2) := by
        have h := HdR.rowed (g := g) (p := j * 4 + 3) M4.out hm3 (by simpa only [Nat.add_zero, Nat.mul_one] using HU3.out) hk3 (by rw [HX3.out, E3.out]; exact hd3)
        rw [Hid]
        simpa only [Nat.add_zero, Nat.mul_one] using h
      have K5 : Hid (Kp F w w2) := K4.out.trans (hk3.up (M4.out.lay.sub _))
      clear hk3 hd3 HC3 HU3 hc3 hz3
      go_wp2
      go_roundw
      case rel => exact ⟨j + 1, by go_num, by omega, by rw [← EE.out], by have h := M5.out; rwa [show j * 4 + 4 = (j + 1) * 4 by omega] at h, K5.out⟩
      case measure => simp [intOf]; omega
    · obtain rfl : j = len := by omega
      have HV : Hid ((ns.take (j * 4)).sum = ns.sum) := by rw [Hid, List.take_of_length_le (by rw [HNl.out]; exact Nat.le_refl _)]
      rw [HV.out]
      have i4 : ¬ (j : Int) < (j : Int) := by omega
      go_wp2
      go_ret
      exact ⟨rfl, K0.out, HdR.done M0.out⟩

set_option maxHeartbeats 3200000 in
set_option maxRecDepth 100000 in
theorem hhExNodeS {n c : Nat} {F : Nat → Prop} (v : Value) (k : Nat) (w : World) (hk0 : 0 < k) (hk : k + c ≤ 100000000000) (h : Hd tau (n + 2) (.row 93) w v c F (some k)) :
    Calls Tryz.prog 112 #[v, .int .i64 (k : Int)] w fun e w' => e = .returned (.int .i64 ((k + c : Nat) : Int)) ∧ Below w.heap.size w w' := by
  obtain ⟨a, len, cap, ns, Fs, rfl, hnl, rfl, hst⟩ := HdR.open (n := n + 1) h
  have H0 : Hid (HdR tau (n + 1) 93 (.slice a len cap) len ns F Fs k (len * 4) w) := hst
  have hlen := hst.long
  have HNl : Hid (ns.length = len * 4) := hnl
  clear h hst hnl
  go_enter Tryz.func112, Tryz.ntmps112
  go_wp2
  go_loopw [1, 5] (fun kv iv wr => ∃ j : Nat, iv = .int .i64 j ∧ j ≤ len ∧ kv = .int .i64 ((k + (ns.take (j * 4)).sum : Nat) : Int) ∧ Below w.heap.size w wr) (fun _ iv _ => len - (intOf iv).toNat)
  case atStart => exact ⟨0, rfl, Nat.zero_le _, by simp, Below.refl _ _⟩
  case round =>
    obtain ⟨j, rfl, hj, rfl, hb⟩ := hrel
    have B0 : Hid (Below w.heap.size w wr) := hb
    have M0 : Hid (HdR tau (n + 1) 93 (.slice a len cap) len ns F Fs k (len * 4) wr) := H0.out.ag (Ag.below hb)
    clear hb
    by_cases hlt : j < len
    · have i4 : (j : Int) < (len : Int) := by omega
      have hp0 : j * 4 + 0 < len * (tau 93).length := by show j * 4 + 0 < len * 4; omega
      have hm0 : (tau 93)[(j * 4 + 0) % (tau 93).length]? = some (.int) := by rw [show (j * 4 + 0) % (tau 93).length = 0 from mod_add j 4 0 (by omega)]; rfl
      obtain ⟨g0, u0, ea0, hF0, hc0, hz0, hu0⟩ := M0.out.at hp0 hm0
      subst ea0
      obtain ⟨g, rfl⟩ : ∃ g, g = g0 := ⟨g0, rfl⟩
      have t0 : (ns.take (j * 4 + 1)).sum = (ns.take (j * 4)).sum + ns.getD (j * 4 + 0) 0 := take_getD ns (j * 4 + 0)
      have hp1 : j * 4 + 1 < len * (tau 93).length := by show j * 4 + 1 < len * 4; omega
      have hm1 : (tau 93)[(j * 4 + 1) % (tau 93).length]? = some (.int) := by rw [show (j * 4 + 1) % (tau 93).length = 1 from mod_add j 4 1 (by omega)]; rfl
      obtain ⟨g1, u1, ea1, hF1, hc1, hz1, hu1⟩ := M0.out.at hp1 hm1
      cases ea1
      have t1 : (ns.take (j * 4 + 2)).sum = (ns.take (j * 4 + 1)).sum + ns.getD (j * 4 + 1) 0 := take_getD ns (j * 4 + 1)
      have hp2 : j * 4 + 2 < len * (tau 93).length := by show j * 4 + 2 < len * 4; omega
      have hm2 : (tau 93)[(j * 4 + 2) % (tau 93).length]? = some (.str) := by rw [show (j * 4 + 2) % (tau 93).length = 2 from mod_add j 4 2 (by omega)]; rfl
      obtain ⟨g2, u2, ea2, hF2, hc2, hz2, hu2⟩ := M0.out.at hp2 hm2
      cases ea2
      have t2 : (ns.take (j * 4 + 3)).sum = (ns.take (j * 4 + 2)).sum + ns.getD (j * 4 + 2) 0 := take_getD ns (j * 4 + 2)
      have hp3 : j * 4 + 3 < len * (tau 93).length := by show j * 4 + 3 < len * 4; omega
      have hm3 : (tau 93)[(j * 4 + 3) % (tau 93).length]? = some (.row 3) := by rw [show (j * 4 + 3) % (tau 93).length = 3 from mod_add j 4 3 (by omega)]; rfl
      obtain ⟨g3, u3, ea3, hF3, hc3, hz3, hu3⟩ := M0.out.at hp3 hm3
      cases ea3
      have t3 : (ns.take (j * 4 + 4)).sum = (ns.take (j * 4 + 3)).sum + ns.getD (j * 4 + 3) 0 := take_getD ns (j * 4 + 3)
      rw [if_pos (by omega)] at hu0
      have en0 : ns.getD (j * 4 + 0) 0 = 1 := by cases n <;> exact hu0.2
      rw [en0] at t0
      rw [if_pos (by omega)] at hu1
      have en1 : ns.getD (j * 4 + 1) 0 = 1 := by cases n <;> exact hu1.2
      rw [en1] at t1
      rw [if_pos (by omega)] at hu2
      have en2 : ns.getD (j * 4 + 2) 0 = 1 := by cases n <;> exact hu2.2
      rw [en2] at t2
      rw [if_pos (by omega)] at hu3
      obtain ⟨x3, hx3⟩ : ∃ x3 : Nat, x3 = ns.getD (j * 4 + 3) 0 := ⟨_, rfl⟩
      rw [← hx3] at t3 hu3
      have hle : (ns.take ((j + 1) * 4)).sum ≤ ns.sum := tk_le ns _
      rw [show (j + 1) * 4 = j * 4 + 4 by omega] at hle
      obtain ⟨z0, hz0'⟩ : ∃ z0 : Nat, z0 = k + (ns.take (j * 4)).sum := ⟨_, rfl⟩
      rw [← hz0']
      obtain ⟨z1, hz1'⟩ : ∃ z1 : Nat, z1 = z0 + 1 := ⟨_, rfl⟩
      obtain ⟨z2, hz2'⟩ : ∃ z2 : Nat, z2 = z1 + 1 := ⟨_, rfl⟩
      obtain ⟨z3, hz3'⟩ : ∃ z3 : Nat, z3 = z2 + 1 := ⟨_, rfl⟩
      obtain ⟨z4, hz4'⟩ : ∃ z4 : Nat, z4 = z3 + x3 := ⟨_, rfl⟩
      have E0 : k + (ns.take (j * 4 + 0)).sum = z0 := by rw [Nat.add_zero]; omega
      rw [E0] at hu0
      have ev0 : u0 = .int .i64 (z0 : Int) := by
        have h : ∃ z, u0 = .int .i64 z ∧ ∀ q, some z0 = some q → z = (q : Int) := by cases n <;> exact hu0.1
        obtain ⟨z, e1, e2⟩ := h
        rw [e1, e2 _ rfl]
      subst ev0
      have E1 : k + (ns.take (j * 4 + 1)).sum = z1 := by omega
      rw [E1] at hu1
      have ev1 : u1 = .int .i64 (z1 : Int) := by
        have h : ∃ z, u1 = .int .i64 z ∧ ∀ q, some z1 = some q → z = (q : Int) := by cases n <;> exact hu1.1
        obtain ⟨z, e1, e2⟩ := h
        rw [e1, e2 _ rfl]
      subst ev1
      have E2 : k + (ns.take (j * 4 + 2)).sum = z2 := by omega
      rw [E2] at hu2
      have ev2 : u2 = .string (str (markB z2)) := by
        have h : ∃ s, u2 = .string s ∧ ∀ q, some z2 = some q → s = str (markB q) := by cases n <;> exact hu2.1
        obtain ⟨s, e1, e2⟩ := h
        rw [e1, e2 _ rfl]
      subst ev2
      have E3 : k + (ns.take (j * 4 + 3)).sum = z3 := by omega
      rw [E3] at hu3
      have HZ4 : Hid (z4 = z3 + x3) := hz4'
      have EE : Hid (z4 = k + (ns.take ((j + 1) * 4)).sum) := by rw [Hid, show (j + 1) * 4 = j * 4 + 4 by omega]; omega
      have hp0' : 0 < z0 := by omega
      have hq0' : z0 ≤ 100000000000 := by omega
      have hp1' : 0 < z1 := by omega
      have hq1' : z1 ≤ 100000000000 := by omega
      have hp2' : 0 < z2 := by omega
      have hq2' : z2 ≤ 100000000000 := by omega
      have hp3' : 0 < z3 := by omega
      have hq3' : z3 ≤ 100000000000 := by omega
      have hp4' : 0 < z4 := by omega
      have hq4' : z4 ≤ 100000000000 := by omega
      have wp0 : IntKind.i64.wrap ((z0 : Int) + 1) = (z1 : Int) := by rw [IntKind.wrap_i64]; omega
      have wp1 : IntKind.i64.wrap ((z1 : Int) + 1) = (z2 : Int) := by rw [IntKind.wrap_i64]; omega
      have wp2 : IntKind.i64.wrap ((z2 : Int) + 1) = (z3 : Int) := by rw [IntKind.wrap_i64]; omega
      have hs3' : z3 + x3 ≤ 100000000000 := by omega
      rw [Nat.add_zero] at hc0
      obtain ⟨T2, hT2⟩ : ∃ T, T = str (markB z2) := ⟨_, rfl⟩
      rw [← hT2] at hc2
      have HM2 : Hid (∀ W, _) := fun W => mark_any z2 W hp2' (by omega)
      rw [← hT2] at HM2
      obtain ⟨ar3, lr3, cr3, er3⟩ : ∃ a l c, u3 = .slice a l c := by
        obtain ⟨a, l, c, _, _, e, _⟩ := HdR.open (n := n + 0) hu3
        exact ⟨a, l, c, e⟩
      subst er3
      have HC3 : Hid (∀ W, Below wr.heap.size wr W → _) := fun W hW => hhIntS (n := n + 0) (.slice ar3 lr3 cr3) z3 W hp3' hs3' (Hd.ag _ _ _ _ _ _ hu3 (Ag.below hW))
      clear hle hz0' hz1' hz2' hz3' hz4' t0 hz0 hF0 hm0 hp0 E0 hu0 t1 hz1 hF1 hm1 hp1 E1 hu1 t2 hz2 hF2 hm2 hp2 E2 hu2 t3 hz3 hF3 hm3 hp3 E3 hu3 en0 en1 en2 hx3 hT2
      have D0 : Hid (Below wr.heap.size wr wr) := Below.refl _ _
      go_wp2
      go_region_held3 (fun W => W.cell? ⟨g, j * 4 + 2, none⟩ = some (.string T2)) ((first | go_keep | exact cell_keep (W := wr.drew) hc2 hb2))
        ((first | (go_at_call 48; refine (HM2.out _).mono ?_; rintro e v1 ⟨rfl, hb2⟩)))
      have hb2' := bel_of_drew hb2
      have D1 : Hid (Below wr.heap.size wr v1) := D0.out.trans (hb2'.mono D0.out.size)
      have hk3_1 := cell_keep hc3 hb2'
      clear hb2 hb2'
      go_wp2_with fail
      refine (HC3.out _ D1.out).mono ?_
      rintro e v2 ⟨rfl, hb3'⟩
      rw [← HZ4.out]
      have hn3 : ¬ (z4 : Int) < 0 := by omega
      have D2 : Hid (Below wr.heap.size wr v2) := D1.out.trans (hb3'.mono D1.out.size)
      clear hb3'
      have BF : Hid (Below w.heap.size w v2) := B0.out.trans (D2.out.mono B0.out.size)
      go_wp2
      go_roundw
      case rel => exact ⟨j + 1, by go_num, by omega, by rw [← EE.out], BF.out⟩
      case measure => simp [intOf]; omega
    · obtain rfl : j = len := by omega
      have HV : Hid ((ns.take (j * 4)).sum = ns.sum) := by rw [Hid, List.take_of_length_le (by rw [HNl.out]; exact Nat.le_refl _)]
      rw [HV.out]
      have i4 : ¬ (j : Int) < (j : Int) := by omega
      go_wp2
      go_ret
      exact ⟨rfl, B0.out⟩

set_option maxHeartbeats 3200000 in
set_option maxRecDepth 100000 in
theorem hmExprS {n c : Nat} {F : Nat → Prop} (v : Value) (k : Nat) (w : World) (hk0 : 0 < k) (hk : k + c ≤ 100000000000) (h : Hd tau (n + 3) (.row 66) w v c F none) :
    Calls Tryz.prog 92 #[v, .int .i64 (k : Int)] w fun e w' => e = .returned (.int .i64 ((k + c : Nat) : Int)) ∧ Kp F w w' ∧ Hd tau (n + 3) (.row 66) w' v c F (some k) := by
  obtain ⟨a, len, cap, ns, Fs, rfl, hnl, rfl, hst⟩ := HdR.start (n := n + 2) h
  have H0 : Hid (HdR tau (n + 2) 66 (.slice a len cap) len ns F Fs k (0 * 1) w) := by rw [Hid, Nat.zero_mul]; exact hst k
  have hlen := (hst k).long
  have HNl : Hid (ns.length = len * 1) := hnl
  clear h hst hnl
  go_enter Tryz.func92, Tryz.ntmps92
  go_wp2
  go_loopw [1, 5] (fun kv iv wr => ∃ j : Nat, iv = .int .i64 j ∧ j ≤ len ∧ kv = .int .i64 ((k + (ns.take (j * 1)).sum : Nat) : Int) ∧ HdR tau (n + 2) 66 (.slice a len cap) len ns F Fs k (j * 1) wr ∧ Kp F w wr) (fun _ iv _ => len - (intOf iv).toNat)
  case atStart => exact ⟨0, rfl, Nat.zero_le _, by simp, H0.out, Kp.refl⟩
  case round =>
    obtain ⟨j, rfl, hj, rfl, hmr, hkp⟩ := hrel
    have M0 : Hid (HdR tau (n + 2) 66 (.slice a len cap) len ns F Fs k (j * 1) wr) := hmr
    have K0 : Hid (Kp F w wr) := hkp
    clear hmr hkp H0
    by_cases hlt : j < len
    · have i4 : (j : Int) < (len : Int) := by omega
      have hp0 : j * 1 + 0 < len * (tau 66).length := by show j * 1 + 0 < len * 1; omega
      have hm0 : (tau 66)[(j * 1 + 0) % (tau 66).length]? = some (.row 93) := by rw [show (j * 1 + 0) % (tau 66).length = 0 from mod_add j 1 0 (by omega)]; rfl
      obtain ⟨g0, u0, ea0, hF0, hc0, hz0, hu0⟩ := M0.out.at hp0 hm0
      subst ea0
      obtain ⟨g, rfl⟩ : ∃ g, g = g0 := ⟨g0, rfl⟩
      have t0 : (ns.take (j * 1 + 1)).sum = (ns.take (j * 1)).sum + ns.getD (j * 1 + 0) 0 := take_getD ns (j * 1 + 0)
      obtain ⟨x0, hx0⟩ : ∃ x0 : Nat, x0 = ns.getD (j * 1 + 0) 0 := ⟨_, rfl⟩
      rw [← hx0] at t0
      have HX0 : Hid (ns.getD (j * 1 + 0) 0 = x0) := hx0.symm
      have hle : (ns.take ((j + 1) * 1)).sum ≤ ns.sum := tk_le ns _
      rw [show (j + 1) * 1 = j * 1 + 1 by omega] at hle
      obtain ⟨z0, hz0'⟩ : ∃ z0 : Nat, z0 = k + (ns.take (j * 1)).sum := ⟨_, rfl⟩
      rw [← hz0']
      obtain ⟨z1, hz1'⟩ : ∃ z1 : Nat, z1 = z0 + x0 := ⟨_, rfl⟩
      have E0 : Hid (k + (ns.take (j * 1 + 0)).sum = z0) := by rw [Hid]; rw [Nat.add_zero]; omega
      have HZ1 : Hid (z1 = z0 + x0) := hz1'
      have EE : Hid (z1 = k + (ns.take ((j + 1) * 1)).sum) := by rw [Hid, show (j + 1) * 1 = j * 1 + 1 by omega]; omega
      have hp0' : 0 < z0 := by omega
      have hq0' : z0 ≤ 100000000000 := by omega
      have hp1' : 0 < z1 := by omega
      have hq1' : z1 ≤ 100000000000 := by omega
      have hs0' : z0 + x0 ≤ 100000000000 := by omega
      clear hle hz0' hz1' t0 hc0 hz0 hu0 hx0
      obtain ⟨gg0, v0, ea, hFg0, hc0, hz0, hu0⟩ := M0.out.at hp0 hm0
      cases ea
      rw [Nat.add_zero, Nat.mul_one] at hc0 hz0
      rw [if_neg (by omega), HX0.out] at hu0
      obtain ⟨ar0, lr0, cr0, er0⟩ : ∃ a l c, v0 = .slice a l c := by
        obtain ⟨a, l, c, _, _, e, _⟩ := HdR.start (n := n + 1) hu0
        exact ⟨a, l, c, e⟩
      subst er0
      have HC0 : Hid (∀ _ : Unit, _) := fun _ => hmExNodeS (n := n + 0) (.slice ar0 lr0 cr0) z0 wr hp0' hs0' hu0
      have HU0 : Hid (wr.cell? ⟨g, j, none⟩ = some (.slice ar0 lr0 cr0)) := hc0
      clear hu0
      go_wp2_with fail
      refine (HC0.out ()).mono ?_
      rintro e w1 ⟨rfl, hk0, hd0⟩
      rw [← HZ1.out]
      have M1 : Hid (HdR tau (n + 2) 66 (.slice (some ⟨g, 0, none⟩) len cap) len ns F Fs k (j * 1 + 1) w1) := by
        have h := HdR.rowed (g := g) (p := j * 1 + 0) M0.out hm0 (by simpa only [Nat.add_zero, Nat.mul_one] using HU0.out) hk0 (by rw [HX0.out, E0.out]; exact hd0)
        rw [Hid]
        simpa only [Nat.add_zero, Nat.mul_one] using h
      have K1 : Hid (Kp F w w1) := K0.out.trans (hk0.up (M0.out.lay.sub _))
      clear hk0 hd0 HC0 HU0 hc0 hz0
      go_wp2
      go_roundw
      case rel => exact ⟨j + 1, by go_num, by omega, by rw [← EE.out], by have h := M1.out; rwa [show j * 1 + 1 = (j + 1) * 1 by omega] at h, K1.out⟩
      case measure => simp [intOf]; omega
    · obtain rfl : j = len := by omega
      have HV : Hid ((ns.take (j * 1)).sum = ns.sum) := by rw [Hid, List.take_of_length_le (by rw [HNl.out]; exact Nat.le_refl _)]
      rw [HV.out]
      have i4 : ¬ (j : Int) < (j : Int) := by omega
      go_wp2
      go_ret
      exact ⟨rfl, K0.out, HdR.done M0.out⟩

set_option maxHeartbeats 3200000 in
set_option maxRecDepth 100000 in
theorem hhExprS {n c : Nat} {F : Nat → Prop} (v : Value) (k : Nat) (w : World) (hk0 : 0 < k) (hk : k + c ≤ 100000000000) (h : Hd tau (n + 3) (.row 66) w v c F (some k)) :
    Calls Tryz.prog 93 #[v, .int .i64 (k : Int)] w fun e w' => e = .returned (.int .i64 ((k + c : Nat) : Int)) ∧ Below w.heap.size w w' := by
  obtain ⟨a, len, cap, ns, Fs, rfl, hnl, rfl, hst⟩ := HdR.open (n := n + 2) h
  have H0 : Hid (HdR tau (n + 2) 66 (.slice a len cap) len ns F Fs k (len * 1) w) := hst
  have hlen := hst.long
  have HNl : Hid (ns.length = len * 1) := hnl
  clear h hst hnl
  go_enter Tryz.func93, Tryz.ntmps93
  go_wp2
  go_loopw [1, 5] (fun kv iv wr => ∃ j : Nat, iv = .int .i64 j ∧ j ≤ len ∧ kv = .int .i64 ((k + (ns.take (j * 1)).sum : Nat) : Int) ∧ Below w.heap.size w wr) (fun _ iv _ => len - (intOf iv).toNat)
  case atStart => exact ⟨0, rfl, Nat.zero_le _, by simp, Below.refl _ _⟩
  case round =>
    obtain ⟨j, rfl, hj, rfl, hb⟩ := hrel
    have B0 : Hid (Below w.heap.size w wr) := hb
    have M0 : Hid (HdR tau (n + 2) 66 (.slice a len cap) len ns F Fs k (len * 1) wr) := H0.out.ag (Ag.below hb)
    clear hb
    by_cases hlt : j < len
    · have i4 : (j : Int) < (len : Int) := by omega
      have hp0 : j * 1 + 0 < len * (tau 66).length := by show j * 1 + 0 < len * 1; omega
      have hm0 : (tau 66)[(j * 1 + 0) % (tau 66).length]? = some (.row 93) := by rw [show (j * 1 + 0) % (tau 66).length = 0 from mod_add j 1 0 (by omega)]; rfl
      obtain ⟨g0, u0, ea0, hF0, hc0, hz0, hu0⟩ := M0.out.at hp0 hm0
      subst ea0
      obtain ⟨g, rfl⟩ : ∃ g, g = g0 := ⟨g0, rfl⟩
      have t0 : (ns.take (j * 1 + 1)).sum = (ns.take (j * 1)).sum + ns.getD (j * 1 + 0) 0 := take_getD ns (j * 1 + 0)
      rw [if_pos (by omega)] at hu0
      obtain ⟨x0, hx0⟩ : ∃ x0 : Nat, x0 = ns.getD (j * 1 + 0) 0 := ⟨_, rfl⟩
      rw [← hx0] at t0 hu0
      have hle : (ns.take ((j + 1) * 1)).sum ≤ ns.sum := tk_le ns _
      rw [show (j + 1) * 1 = j * 1 + 1 by omega] at hle
      obtain ⟨z0, hz0'⟩ : ∃ z0 : Nat, z0 = k + (ns.take (j * 1)).sum := ⟨_, rfl⟩
      rw [← hz0']
      obtain ⟨z1, hz1'⟩ : ∃ z1 : Nat, z1 = z0 + x0 := ⟨_, rfl⟩
      have E0 : k + (ns.take (j * 1 + 0)).sum = z0 := by rw [Nat.add_zero]; omega
      rw [E0] at hu0
      have HZ1 : Hid (z1 = z0 + x0) := hz1'
      have EE : Hid (z1 = k + (ns.take ((j + 1) * 1)).sum) := by rw [Hid, show (j + 1) * 1 = j * 1 + 1 by omega]; omega
      have hp0' : 0 < z0 := by omega
      have hq0' : z0 ≤ 100000000000 := by omega
      have hp1' : 0 < z1 := by omega
      have hq1' : z1 ≤ 100000000000 := by omega
      have hs0' : z0 + x0 ≤ 100000000000 := by omega
      rw [Nat.add_zero, Nat.mul_one] at hc0
      obtain ⟨ar0, lr0, cr0, er0⟩ : ∃ a l c, u0 = .slice a l c := by
        obtain ⟨a, l, c, _, _, e, _⟩ := HdR.open (n := n + 1) hu0
        exact ⟨a, l, c, e⟩
      subst er0
      have HC0 : Hid (∀ W, Below wr.heap.size wr W → _) := fun W hW => hhExNodeS (n := n + 0) (.slice ar0 lr0 cr0) z0 W hp0' hs0' (Hd.ag _ _ _ _ _ _ hu0 (Ag.below hW))
      clear hle hz0' hz1' t0 hz0 hF0 hm0 hp0 E0 hu0 hx0 
      have D0 : Hid (Below wr.heap.size wr wr) := Below.refl _ _
      go_wp2_with fail
      refine (HC0.out _ D0.out).mono ?_
      rintro e v1 ⟨rfl, hb0'⟩
      rw [← HZ1.out]
      have hn0 : ¬ (z1 : Int) < 0 := by omega
      have D1 : Hid (Below wr.heap.size wr v1) := D0.out.trans (hb0'.mono D0.out.size)
      clear hb0'
      have BF : Hid (Below w.heap.size w v1) := B0.out.trans (D1.out.mono B0.out.size)
      go_wp2
      go_roundw
      case rel => exact ⟨j + 1, by go_num, by omega, by rw [← EE.out], BF.out⟩
      case measure => simp [intOf]; omega
    · obtain rfl : j = len := by omega
      have HV : Hid ((ns.take (j * 1)).sum = ns.sum) := by rw [Hid, List.take_of_length_le (by rw [HNl.out]; exact Nat.le_refl _)]
      rw [HV.out]
      have i4 : ¬ (j : Int) < (j : Int) := by omega
      go_wp2
      go_ret
      exact ⟨rfl, B0.out⟩

end Go.Proofs.YtokidlklkgghkaaGreatDoor
