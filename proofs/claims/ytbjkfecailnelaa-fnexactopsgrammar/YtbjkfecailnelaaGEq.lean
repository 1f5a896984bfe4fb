/- The laws' helpers on grammars: one is the same as its like (printed by mk/gkit.py). -/
import Derived.Test.YtbjkfecailnelaaGData
import Derived.Test.YtbjkfecailnelaaXKit3
namespace Go.Proofs.Ytbjkfecailnelaa
open Go.RowKit

theorem geqStringS (u v : Value) (xs : List ByteArray) (w : World) (hz : rowTot ByteArray.size xs ≤ 1048576) (h : SRow w u xs) (h' : SRow w v xs) :
    Calls Try.prog 42 #[u, v] w fun e w' => e = .returned (.bool true) ∧ Below w.heap.size w w' := by
  refine (eqStringS_same u v xs w (by have := rowTot_len ByteArray.size xs; omega) h h').mono ?_
  rintro e w' ⟨rfl, q, rfl⟩
  exact ⟨rfl, bel_drewN (Below.refl _ _) q⟩
theorem geqExpr (u v : Value) (x : List NodeD) (w : World) (hz : exprTot x ≤ 1048576) (h : NRow w u x) (h' : NRow w v x) :
    Calls Try.prog 64 #[.agg #[u], .agg #[v]] w fun e w' => e = .returned (.bool true) ∧ Below w.heap.size w w' := by
  have e : exprTot x = x.length + (x.map fun y => y.name.size + y.kids.length).sum := rfl
  refine eqExpr_same u v x w (by omega) (fun y hy => ?_) h h'
  have : y.name.size + y.kids.length ≤ (x.map fun y => y.name.size + y.kids.length).sum := sum_mem (fun y : NodeD => y.name.size + y.kids.length) hy
  omega
theorem gkeep2 {W W' : World} {a0 a1 : Addr} {x0 x1 : Value} (h : W.cell? a0 = some x0 ∧ W.cell? a1 = some x1) (hb : Below W.heap.size W W') : W'.cell? a0 = some x0 ∧ W'.cell? a1 = some x1 :=
  ⟨cell_keep h.1 hb, cell_keep h.2 hb⟩
theorem gkeep6 {W W' : World} {a0 a1 a2 a3 a4 a5 : Addr} {x0 x1 x2 x3 x4 x5 : Value} (h : W.cell? a0 = some x0 ∧ W.cell? a1 = some x1 ∧ W.cell? a2 = some x2 ∧ W.cell? a3 = some x3 ∧ W.cell? a4 = some x4 ∧ W.cell? a5 = some x5) (hb : Below W.heap.size W W') : W'.cell? a0 = some x0 ∧ W'.cell? a1 = some x1 ∧ W'.cell? a2 = some x2 ∧ W'.cell? a3 = some x3 ∧ W'.cell? a4 = some x4 ∧ W'.cell? a5 = some x5 :=
  ⟨cell_keep h.1 hb, cell_keep h.2.1 hb, cell_keep h.2.2.1 hb, cell_keep h.2.2.2.1 hb, cell_keep h.2.2.2.2.1 hb, cell_keep h.2.2.2.2.2 hb⟩
theorem gkeep8 {W W' : World} {a0 a1 a2 a3 a4 a5 a6 a7 : Addr} {x0 x1 x2 x3 x4 x5 x6 x7 : Value} (h : W.cell? a0 = some x0 ∧ W.cell? a1 = some x1 ∧ W.cell? a2 = some x2 ∧ W.cell? a3 = some x3 ∧ W.cell? a4 = some x4 ∧ W.cell? a5 = some x5 ∧ W.cell? a6 = some x6 ∧ W.cell? a7 = some x7) (hb : Below W.heap.size W W') : W'.cell? a0 = some x0 ∧ W'.cell? a1 = some x1 ∧ W'.cell? a2 = some x2 ∧ W'.cell? a3 = some x3 ∧ W'.cell? a4 = some x4 ∧ W'.cell? a5 = some x5 ∧ W'.cell? a6 = some x6 ∧ W'.cell? a7 = some x7 :=
  ⟨cell_keep h.1 hb, cell_keep h.2.1 hb, cell_keep h.2.2.1 hb, cell_keep h.2.2.2.1 hb, cell_keep h.2.2.2.2.1 hb, cell_keep h.2.2.2.2.2.1 hb, cell_keep h.2.2.2.2.2.2.1 hb, cell_keep h.2.2.2.2.2.2.2 hb⟩

set_option maxHeartbeats 3200000 in
theorem geqExprS (u v : Value) (xs : List (List NodeD)) (w : World) (hz : rowTot exprTot xs ≤ 1048576) (h : RowC 1 ExprE w u xs) (h' : RowC 1 ExprE w v xs) :
    Calls Try.prog 63 #[u, v] w fun e w' => e = .returned (.bool true) ∧ Below w.heap.size w w' := by
  have HX : Hid (RowC 1 ExprE w u xs) := h
  have HY : Hid (RowC 1 ExprE w v xs) := h'
  have hn := rowTot_len exprTot xs
  obtain ⟨a, cap, rfl⟩ := h.slice
  obtain ⟨a', cap', rfl⟩ := h'.slice
  clear h h'
  go_enter Try.func63, Try.ntmps63
  go_wp2
  go_loopw [5] (fun iv wr => ∃ k : Nat, iv = .int .i64 k ∧ k ≤ xs.length ∧ Below w.heap.size w wr) (fun iv _ => xs.length - (intOf iv).toNat)
  case atStart => exact ⟨0, rfl, Nat.zero_le _, Below.refl _ _⟩
  case round =>
    obtain ⟨k, rfl, hk, hb⟩ := hrel
    have HB : Hid (Below w.heap.size w wr) := hb
    have HXr : Hid (RowC 1 ExprE wr (.slice a xs.length cap) xs) := RowC.below ExprE_stable HX.out hb
    have HYr : Hid (RowC 1 ExprE wr (.slice a' xs.length cap') xs) := RowC.below ExprE_stable HY.out hb
    clear hb
    by_cases hlt : k < xs.length
    · obtain ⟨b, off, vs, rfl, _, hc, hE⟩ := HXr.out.at hlt
      obtain ⟨b', off', vs', rfl, _, hc', hE'⟩ := HYr.out.at hlt
      obtain ⟨r0, rfl, hh0⟩ := hE
      obtain ⟨u0, rfl, gg0⟩ := hE'
      have n0 : wr.cell? ⟨b, off + k, none⟩ = some (r0) := by have h := hc 0 (by simp); rw [Nat.mul_one] at h; exact h
      have m0 : wr.cell? ⟨b', off' + k, none⟩ = some (u0) := by have h := hc' 0 (by simp); rw [Nat.mul_one] at h; exact h
      have i4 : (k : Int) < (xs.length : Int) := by omega
      have HE : Hid (_) := geqExpr r0 u0 xs[k] wr.drew (by have := rowTot_mem exprTot (List.getElem_mem hlt); omega) (hh0.below (bel_drewN (Below.refl _ _) 1)) (gg0.below (bel_drewN (Below.refl _ _) 1))
      obtain ⟨aa0, ca0, rfl⟩ := hh0.slice
      obtain ⟨ba0, da0, rfl⟩ := gg0.slice
      clear hc hc' hh0 gg0
      go_wp2
      go_region_held3 (fun W => W.cell? ⟨b, off + k, none⟩ = some (.slice aa0 xs[k].length ca0) ∧ W.cell? ⟨b', off' + k, none⟩ = some (.slice ba0 xs[k].length da0))
        ((first | exact gkeep2 (by assumption) hb2 | go_keep))
        ((first | (go_at_call 64; refine Calls.mono HE.out ?_; rintro e w2 ⟨rfl, hb2⟩)))
      have HB2 : Hid (Below w.heap.size w w2) := HB.out.trans ((bel_of_drew hb2).mono HB.out.size)
      clear hb2
      go_wp2
      go_roundw
      case rel => exact ⟨k + 1, by go_num, by omega, HB2.out⟩
      case measure => simp [intOf]; omega
    · obtain rfl : k = xs.length := by omega
      go_wp2
      go_ret
      exact ⟨rfl, HB.out⟩

set_option maxHeartbeats 1600000 in
theorem geqSym (r0 u0 : Value) (x : SymD) (w : World) (hz : symTot x ≤ 1048576) (hh0 : RowC 1 ExprE w r0 x.args) (gg0 : RowC 1 ExprE w u0 x.args) :
    Calls Try.prog 58 #[.agg #[.int .i64 x.kind, .string x.text, r0, .string x.bind], .agg #[.int .i64 x.kind, .string x.text, u0, .string x.bind]] w fun e w' => e = .returned (.bool true) ∧ Below w.heap.size w w' := by
  have HTt : symTot x = x.text.size + rowTot exprTot x.args + x.bind.size := rfl
  have BW : Hid (Below w.heap.size w ((w.alloc (.cells #[.int .i64 x.kind, .string x.text, r0, .string x.bind] 54)).alloc (.cells #[.int .i64 x.kind, .string x.text, u0, .string x.bind] 54))) := ((Below.refl _ _).alloc (Nat.le_refl _) _).alloc (by simp) _
  have eText := beq_yes (rfl : x.text = x.text)
  have eBind := beq_yes (rfl : x.bind = x.bind)
  have R0 : Hid (RowC 1 ExprE w r0 x.args) := hh0
  have U0 : Hid (RowC 1 ExprE w u0 x.args) := gg0
  obtain ⟨aa0, ca0, rfl⟩ := hh0.slice
  obtain ⟨ba0, da0, rfl⟩ := gg0.slice
  clear hh0 gg0
  go_enter Try.func58, Try.ntmps58
  go_wp2_with fail
  refine (geqExprS _ _ x.args _ (by omega) (RowC.below ExprE_stable R0.out BW.out) (RowC.below ExprE_stable U0.out BW.out)).mono ?_
  rintro e w0 ⟨rfl, hb0⟩
  have B0 : Hid (Below w.heap.size w w0) := BW.out.trans (hb0.mono BW.out.size)
  have K0_3 : w0.cell? ⟨w.heap.size, 3, none⟩ = some (.string x.bind) := cell_keep (box_two w #[.int .i64 x.kind, .string x.text, .slice aa0 x.args.length ca0, .string x.bind] #[.int .i64 x.kind, .string x.text, .slice ba0 x.args.length da0, .string x.bind] 54 54 3 _ rfl) hb0
  have L0_3 : w0.cell? ⟨w.heap.size + 1, 3, none⟩ = some (.string x.bind) := cell_keep (box_two' w #[.int .i64 x.kind, .string x.text, .slice aa0 x.args.length ca0, .string x.bind] #[.int .i64 x.kind, .string x.text, .slice ba0 x.args.length da0, .string x.bind] 54 54 3 _ rfl) hb0
  clear hb0
  go_wp2
  go_ret
  exact ⟨rfl, B0.out⟩

set_option maxHeartbeats 3200000 in
theorem geqSymS (u v : Value) (xs : List (SymD)) (w : World) (hz : rowTot symTot xs ≤ 1048576) (h : RowC 4 SymE w u xs) (h' : RowC 4 SymE w v xs) :
    Calls Try.prog 51 #[u, v] w fun e w' => e = .returned (.bool true) ∧ Below w.heap.size w w' := by
  have HX : Hid (RowC 4 SymE w u xs) := h
  have HY : Hid (RowC 4 SymE w v xs) := h'
  have hn := rowTot_len symTot xs
  obtain ⟨a, cap, rfl⟩ := h.slice
  obtain ⟨a', cap', rfl⟩ := h'.slice
  clear h h'
  go_enter Try.func51, Try.ntmps51
  go_wp2
  go_loopw [5] (fun iv wr => ∃ k : Nat, iv = .int .i64 k ∧ k ≤ xs.length ∧ Below w.heap.size w wr) (fun iv _ => xs.length - (intOf iv).toNat)
  case atStart => exact ⟨0, rfl, Nat.zero_le _, Below.refl _ _⟩
  case round =>
    obtain ⟨k, rfl, hk, hb⟩ := hrel
    have HB : Hid (Below w.heap.size w wr) := hb
    have HXr : Hid (RowC 4 SymE wr (.slice a xs.length cap) xs) := RowC.below SymE_stable HX.out hb
    have HYr : Hid (RowC 4 SymE wr (.slice a' xs.length cap') xs) := RowC.below SymE_stable HY.out hb
    clear hb
    by_cases hlt : k < xs.length
    · obtain ⟨b, off, vs, rfl, _, hc, hE⟩ := HXr.out.at hlt
      obtain ⟨b', off', vs', rfl, _, hc', hE'⟩ := HYr.out.at hlt
      obtain ⟨r0, rfl, hh0⟩ := hE
      obtain ⟨u0, rfl, gg0⟩ := hE'
      have n0 : wr.cell? ⟨b, off + k * 4, none⟩ = some (.int .i64 xs[k].kind) := hc 0 (by simp)
      have n1 : wr.cell? ⟨b, off + k * 4 + 1, none⟩ = some (.string xs[k].text) := hc 1 (by simp)
      have n2 : wr.cell? ⟨b, off + k * 4 + 2, none⟩ = some (r0) := hc 2 (by simp)
      have n3 : wr.cell? ⟨b, off + k * 4 + 3, none⟩ = some (.string xs[k].bind) := hc 3 (by simp)
      have m0 : wr.cell? ⟨b', off' + k * 4, none⟩ = some (.int .i64 xs[k].kind) := hc' 0 (by simp)
      have m1 : wr.cell? ⟨b', off' + k * 4 + 1, none⟩ = some (.string xs[k].text) := hc' 1 (by simp)
      have m2 : wr.cell? ⟨b', off' + k * 4 + 2, none⟩ = some (u0) := hc' 2 (by simp)
      have m3 : wr.cell? ⟨b', off' + k * 4 + 3, none⟩ = some (.string xs[k].bind) := hc' 3 (by simp)
      have i4 : (k : Int) < (xs.length : Int) := by omega
      have HE : Hid (_) := geqSym r0 u0 xs[k] wr.drew (by have := rowTot_mem symTot (List.getElem_mem hlt); omega) (RowC.below ExprE_stable hh0 (bel_drewN (Below.refl _ _) 1)) (RowC.below ExprE_stable gg0 (bel_drewN (Below.refl _ _) 1))
      obtain ⟨aa0, ca0, rfl⟩ := hh0.slice
      obtain ⟨ba0, da0, rfl⟩ := gg0.slice
      clear hc hc' hh0 gg0
      go_wp2
      go_region_held3 (fun W => W.cell? ⟨b, off + k * 4, none⟩ = some (.int .i64 xs[k].kind) ∧ W.cell? ⟨b, off + k * 4 + 1, none⟩ = some (.string xs[k].text) ∧ W.cell? ⟨b, off + k * 4 + 2, none⟩ = some (.slice aa0 xs[k].args.length ca0) ∧ W.cell? ⟨b, off + k * 4 + 3, none⟩ = some (.string xs[k].bind) ∧ W.cell? ⟨b', off' + k * 4, none⟩ = some (.int .i64 xs[k].kind) ∧ W.cell? ⟨b', off' + k * 4 + 1, none⟩ = some (.string xs[k].text) ∧ W.cell? ⟨b', off' + k * 4 + 2, none⟩ = some (.slice ba0 xs[k].args.length da0) ∧ W.cell? ⟨b', off' + k * 4 + 3, none⟩ = some (.string xs[k].bind))
        ((first | exact gkeep8 (by assumption) hb2 | go_keep))
        ((first | (go_at_call 58; refine Calls.mono HE.out ?_; rintro e w2 ⟨rfl, hb2⟩)))
      have HB2 : Hid (Below w.heap.size w w2) := HB.out.trans ((bel_of_drew hb2).mono HB.out.size)
      clear hb2
      go_wp2
      go_roundw
      case rel => exact ⟨k + 1, by go_num, by omega, HB2.out⟩
      case measure => simp [intOf]; omega
    · obtain rfl : k = xs.length := by omega
      go_wp2
      go_ret
      exact ⟨rfl, HB.out⟩

set_option maxHeartbeats 1600000 in
theorem geqAlt (r0 u0 : Value) (x : List SymD) (w : World) (hz : altTot x ≤ 1048576) (hh0 : RowC 4 SymE w r0 x) (gg0 : RowC 4 SymE w u0 x) :
    Calls Try.prog 47 #[.agg #[r0], .agg #[u0]] w fun e w' => e = .returned (.bool true) ∧ Below w.heap.size w w' := by
  have HTt : altTot x = rowTot symTot x := rfl
  have BW : Hid (Below w.heap.size w ((w.alloc (.cells #[r0] 58)).alloc (.cells #[u0] 58))) := ((Below.refl _ _).alloc (Nat.le_refl _) _).alloc (by simp) _
  have R0 : Hid (RowC 4 SymE w r0 x) := hh0
  have U0 : Hid (RowC 4 SymE w u0 x) := gg0
  obtain ⟨aa0, ca0, rfl⟩ := hh0.slice
  obtain ⟨ba0, da0, rfl⟩ := gg0.slice
  clear hh0 gg0
  go_enter Try.func47, Try.ntmps47
  go_wp2_with fail
  refine (geqSymS _ _ x _ (by omega) (RowC.below SymE_stable R0.out BW.out) (RowC.below SymE_stable U0.out BW.out)).mono ?_
  rintro e w0 ⟨rfl, hb0⟩
  have B0 : Hid (Below w.heap.size w w0) := BW.out.trans (hb0.mono BW.out.size)
  clear hb0
  go_wp2
  go_ret
  exact ⟨rfl, B0.out⟩

set_option maxHeartbeats 3200000 in
theorem geqAltS (u v : Value) (xs : List (List SymD)) (w : World) (hz : rowTot altTot xs ≤ 1048576) (h : RowC 1 AltE w u xs) (h' : RowC 1 AltE w v xs) :
    Calls Try.prog 43 #[u, v] w fun e w' => e = .returned (.bool true) ∧ Below w.heap.size w w' := by
  have HX : Hid (RowC 1 AltE w u xs) := h
  have HY : Hid (RowC 1 AltE w v xs) := h'
  have hn := rowTot_len altTot xs
  obtain ⟨a, cap, rfl⟩ := h.slice
  obtain ⟨a', cap', rfl⟩ := h'.slice
  clear h h'
  go_enter Try.func43, Try.ntmps43
  go_wp2
  go_loopw [5] (fun iv wr => ∃ k : Nat, iv = .int .i64 k ∧ k ≤ xs.length ∧ Below w.heap.size w wr) (fun iv _ => xs.length - (intOf iv).toNat)
  case atStart => exact ⟨0, rfl, Nat.zero_le _, Below.refl _ _⟩
  case round =>
    obtain ⟨k, rfl, hk, hb⟩ := hrel
    have HB : Hid (Below w.heap.size w wr) := hb
    have HXr : Hid (RowC 1 AltE wr (.slice a xs.length cap) xs) := RowC.below AltE_stable HX.out hb
    have HYr : Hid (RowC 1 AltE wr (.slice a' xs.length cap') xs) := RowC.below AltE_stable HY.out hb
    clear hb
    by_cases hlt : k < xs.length
    · obtain ⟨b, off, vs, rfl, _, hc, hE⟩ := HXr.out.at hlt
      obtain ⟨b', off', vs', rfl, _, hc', hE'⟩ := HYr.out.at hlt
      obtain ⟨r0, rfl, hh0⟩ := hE
      obtain ⟨u0, rfl, gg0⟩ := hE'
      have n0 : wr.cell? ⟨b, off + k, none⟩ = some (r0) := by have h := hc 0 (by simp); rw [Nat.mul_one] at h; exact h
      have m0 : wr.cell? ⟨b', off' + k, none⟩ = some (u0) := by have h := hc' 0 (by simp); rw [Nat.mul_one] at h; exact h
      have i4 : (k : Int) < (xs.length : Int) := by omega
      have HE : Hid (_) := geqAlt r0 u0 xs[k] wr.drew (by have := rowTot_mem altTot (List.getElem_mem hlt); omega) (RowC.below SymE_stable hh0 (bel_drewN (Below.refl _ _) 1)) (RowC.below SymE_stable gg0 (bel_drewN (Below.refl _ _) 1))
      obtain ⟨aa0, ca0, rfl⟩ := hh0.slice
      obtain ⟨ba0, da0, rfl⟩ := gg0.slice
      clear hc hc' hh0 gg0
      go_wp2
      go_region_held3 (fun W => W.cell? ⟨b, off + k, none⟩ = some (.slice aa0 xs[k].length ca0) ∧ W.cell? ⟨b', off' + k, none⟩ = some (.slice ba0 xs[k].length da0))
        ((first | exact gkeep2 (by assumption) hb2 | go_keep))
        ((first | (go_at_call 47; refine Calls.mono HE.out ?_; rintro e w2 ⟨rfl, hb2⟩)))
      have HB2 : Hid (Below w.heap.size w w2) := HB.out.trans ((bel_of_drew hb2).mono HB.out.size)
      clear hb2
      go_wp2
      go_roundw
      case rel => exact ⟨k + 1, by go_num, by omega, HB2.out⟩
      case measure => simp [intOf]; omega
    · obtain rfl : k = xs.length := by omega
      go_wp2
      go_ret
      exact ⟨rfl, HB.out⟩

set_option maxHeartbeats 1600000 in
theorem geqRule (r0 r1 u0 u1 : Value) (x : RuleD) (w : World) (hz : ruleTot x ≤ 1048576) (hh0 : SRow w r0 x.params) (gg0 : SRow w u0 x.params) (hh1 : RowC 1 AltE w r1 x.alts) (gg1 : RowC 1 AltE w u1 x.alts) :
    Calls Try.prog 34 #[.agg #[.string x.name, r0, r1], .agg #[.string x.name, u0, u1]] w fun e w' => e = .returned (.bool true) ∧ Below w.heap.size w w' := by
  have HTt : ruleTot x = x.name.size + rowTot ByteArray.size x.params + rowTot altTot x.alts := rfl
  have BW : Hid (Below w.heap.size w ((w.alloc (.cells #[.string x.name, r0, r1] 43)).alloc (.cells #[.string x.name, u0, u1] 43))) := ((Below.refl _ _).alloc (Nat.le_refl _) _).alloc (by simp) _
  have eName := beq_yes (rfl : x.name = x.name)
  have R0 : Hid (SRow w r0 x.params) := hh0
  have U0 : Hid (SRow w u0 x.params) := gg0
  obtain ⟨aa0, ca0, rfl⟩ := hh0.slice
  obtain ⟨ba0, da0, rfl⟩ := gg0.slice
  have R1 : Hid (RowC 1 AltE w r1 x.alts) := hh1
  have U1 : Hid (RowC 1 AltE w u1 x.alts) := gg1
  obtain ⟨aa1, ca1, rfl⟩ := hh1.slice
  obtain ⟨ba1, da1, rfl⟩ := gg1.slice
  clear hh0 gg0 hh1 gg1
  go_enter Try.func34, Try.ntmps34
  go_wp2_with fail
  refine (geqStringS _ _ x.params _ (by omega) (R0.out.below BW.out) (U0.out.below BW.out)).mono ?_
  rintro e w0 ⟨rfl, hb0⟩
  have B0 : Hid (Below w.heap.size w w0) := BW.out.trans (hb0.mono BW.out.size)
  have K0_2 : w0.cell? ⟨w.heap.size, 2, none⟩ = some (.slice aa1 x.alts.length ca1) := cell_keep (box_two w #[.string x.name, .slice aa0 x.params.length ca0, .slice aa1 x.alts.length ca1] #[.string x.name, .slice ba0 x.params.length da0, .slice ba1 x.alts.length da1] 43 43 2 _ rfl) hb0
  have L0_2 : w0.cell? ⟨w.heap.size + 1, 2, none⟩ = some (.slice ba1 x.alts.length da1) := cell_keep (box_two' w #[.string x.name, .slice aa0 x.params.length ca0, .slice aa1 x.alts.length ca1] #[.string x.name, .slice ba0 x.params.length da0, .slice ba1 x.alts.length da1] 43 43 2 _ rfl) hb0
  clear hb0
  go_wp2_with fail
  refine (geqAltS _ _ x.alts _ (by omega) (RowC.below AltE_stable R1.out B0.out) (RowC.below AltE_stable U1.out B0.out)).mono ?_
  rintro e w1 ⟨rfl, hb1⟩
  have B1 : Hid (Below w.heap.size w w1) := B0.out.trans (hb1.mono B0.out.size)
  clear hb1
  go_wp2
  go_ret
  exact ⟨rfl, B1.out⟩

set_option maxHeartbeats 3200000 in
theorem geqRuleS (u v : Value) (xs : List (RuleD)) (w : World) (hz : rowTot ruleTot xs ≤ 1048576) (h : RowC 3 RuleE w u xs) (h' : RowC 3 RuleE w v xs) :
    Calls Try.prog 21 #[u, v] w fun e w' => e = .returned (.bool true) ∧ Below w.heap.size w w' := by
  have HX : Hid (RowC 3 RuleE w u xs) := h
  have HY : Hid (RowC 3 RuleE w v xs) := h'
  have hn := rowTot_len ruleTot xs
  obtain ⟨a, cap, rfl⟩ := h.slice
  obtain ⟨a', cap', rfl⟩ := h'.slice
  clear h h'
  go_enter Try.func21, Try.ntmps21
  go_wp2
  go_loopw [5] (fun iv wr => ∃ k : Nat, iv = .int .i64 k ∧ k ≤ xs.length ∧ Below w.heap.size w wr) (fun iv _ => xs.length - (intOf iv).toNat)
  case atStart => exact ⟨0, rfl, Nat.zero_le _, Below.refl _ _⟩
  case round =>
    obtain ⟨k, rfl, hk, hb⟩ := hrel
    have HB : Hid (Below w.heap.size w wr) := hb
    have HXr : Hid (RowC 3 RuleE wr (.slice a xs.length cap) xs) := RowC.below RuleE_stable HX.out hb
    have HYr : Hid (RowC 3 RuleE wr (.slice a' xs.length cap') xs) := RowC.below RuleE_stable HY.out hb
    clear hb
    by_cases hlt : k < xs.length
    · obtain ⟨b, off, vs, rfl, _, hc, hE⟩ := HXr.out.at hlt
      obtain ⟨b', off', vs', rfl, _, hc', hE'⟩ := HYr.out.at hlt
      obtain ⟨r0, r1, rfl, hh0, hh1⟩ := hE
      obtain ⟨u0, u1, rfl, gg0, gg1⟩ := hE'
      have n0 : wr.cell? ⟨b, off + k * 3, none⟩ = some (.string xs[k].name) := hc 0 (by simp)
      have n1 : wr.cell? ⟨b, off + k * 3 + 1, none⟩ = some (r0) := hc 1 (by simp)
      have n2 : wr.cell? ⟨b, off + k * 3 + 2, none⟩ = some (r1) := hc 2 (by simp)
      have m0 : wr.cell? ⟨b', off' + k * 3, none⟩ = some (.string xs[k].name) := hc' 0 (by simp)
      have m1 : wr.cell? ⟨b', off' + k * 3 + 1, none⟩ = some (u0) := hc' 1 (by simp)
      have m2 : wr.cell? ⟨b', off' + k * 3 + 2, none⟩ = some (u1) := hc' 2 (by simp)
      have i4 : (k : Int) < (xs.length : Int) := by omega
      have HE : Hid (_) := geqRule r0 r1 u0 u1 xs[k] wr.drew (by have := rowTot_mem ruleTot (List.getElem_mem hlt); omega) (hh0.below (bel_drewN (Below.refl _ _) 1)) (gg0.below (bel_drewN (Below.refl _ _) 1)) (RowC.below AltE_stable hh1 (bel_drewN (Below.refl _ _) 1)) (RowC.below AltE_stable gg1 (bel_drewN (Below.refl _ _) 1))
      obtain ⟨aa0, ca0, rfl⟩ := hh0.slice
      obtain ⟨ba0, da0, rfl⟩ := gg0.slice
      obtain ⟨aa1, ca1, rfl⟩ := hh1.slice
      obtain ⟨ba1, da1, rfl⟩ := gg1.slice
      clear hc hc' hh0 gg0 hh1 gg1
      go_wp2
      go_region_held3 (fun W => W.cell? ⟨b, off + k * 3, none⟩ = some (.string xs[k].name) ∧ W.cell? ⟨b, off + k * 3 + 1, none⟩ = some (.slice aa0 xs[k].params.length ca0) ∧ W.cell? ⟨b, off + k * 3 + 2, none⟩ = some (.slice aa1 xs[k].alts.length ca1) ∧ W.cell? ⟨b', off' + k * 3, none⟩ = some (.string xs[k].name) ∧ W.cell? ⟨b', off' + k * 3 + 1, none⟩ = some (.slice ba0 xs[k].params.length da0) ∧ W.cell? ⟨b', off' + k * 3 + 2, none⟩ = some (.slice ba1 xs[k].alts.length da1))
        ((first | exact gkeep6 (by assumption) hb2 | go_keep))
        ((first | (go_at_call 34; refine Calls.mono HE.out ?_; rintro e w2 ⟨rfl, hb2⟩)))
      have HB2 : Hid (Below w.heap.size w w2) := HB.out.trans ((bel_of_drew hb2).mono HB.out.size)
      clear hb2
      go_wp2
      go_roundw
      case rel => exact ⟨k + 1, by go_num, by omega, HB2.out⟩
      case measure => simp [intOf]; omega
    · obtain rfl : k = xs.length := by omega
      go_wp2
      go_ret
      exact ⟨rfl, HB.out⟩

set_option maxHeartbeats 1600000 in
theorem geqGrammar (r0 u0 : Value) (x : List RuleD) (w : World) (hz : grammarTot x ≤ 1048576) (hh0 : RowC 3 RuleE w r0 x) (gg0 : RowC 3 RuleE w u0 x) :
    Calls Try.prog 8 #[.agg #[r0], .agg #[u0]] w fun e w' => e = .returned (.bool true) ∧ Below w.heap.size w w' := by
  have HTt : grammarTot x = rowTot ruleTot x := rfl
  have BW : Hid (Below w.heap.size w ((w.alloc (.cells #[r0] 26)).alloc (.cells #[u0] 26))) := ((Below.refl _ _).alloc (Nat.le_refl _) _).alloc (by simp) _
  have R0 : Hid (RowC 3 RuleE w r0 x) := hh0
  have U0 : Hid (RowC 3 RuleE w u0 x) := gg0
  obtain ⟨aa0, ca0, rfl⟩ := hh0.slice
  obtain ⟨ba0, da0, rfl⟩ := gg0.slice
  clear hh0 gg0
  go_enter Try.func8, Try.ntmps8
  go_wp2_with fail
  refine (geqRuleS _ _ x _ (by omega) (RowC.below RuleE_stable R0.out BW.out) (RowC.below RuleE_stable U0.out BW.out)).mono ?_
  rintro e w0 ⟨rfl, hb0⟩
  have B0 : Hid (Below w.heap.size w w0) := BW.out.trans (hb0.mono BW.out.size)
  clear hb0
  go_wp2
  go_ret
  exact ⟨rfl, B0.out⟩

end Go.Proofs.Ytbjkfecailnelaa
