/- The program's slices.EqualFunc over expressions, nodes and rules; sameNode, sameHead, sameExpr (printed by mk/same.py). -/
import Derived.Test.YtipkbkhnaekceaaSmA
namespace Go.Proofs.Ytipkbkhnaekceaa
open Go.RowKit
set_option linter.unusedVariables false

set_option maxHeartbeats 1600000 in
theorem sameExpr_any (r0 u0 : Value) (x y : List NodeD) (w : World) (s0 : nodesTot x ≤ 1048576) (t0 : nodesTot y ≤ 1048576) (hh0 : NRow w r0 x) (gg0 : NRow w u0 y) :
    Calls Try.prog 58 #[.agg #[r0], .agg #[u0]] w fun e w' => e = .returned (.bool (same x y)) ∧ Below w.heap.size w w' := by
  have R0 : Hid (NRow w r0 x) := hh0
  have U0 : Hid (NRow w u0 y) := gg0
  obtain ⟨aa0, ca0, rfl⟩ := hh0.slice
  obtain ⟨ba0, da0, rfl⟩ := gg0.slice
  clear hh0 gg0
  have BW : Hid (Below w.heap.size w ((w.alloc (.cells #[.slice aa0 x.length ca0] 55)).alloc (.cells #[.slice ba0 y.length da0] 55))) := ((Below.refl _ _).alloc (Nat.le_refl _) _).alloc (by simp) _
  have n0 : ((w.alloc (.cells #[.slice aa0 x.length ca0] 55)).alloc (.cells #[.slice ba0 y.length da0] 55)).cell? ⟨w.heap.size, 0, none⟩ = some (.slice aa0 x.length ca0) := box_two _ _ _ _ _ 0 _ rfl
  have m0 : ((w.alloc (.cells #[.slice aa0 x.length ca0] 55)).alloc (.cells #[.slice ba0 y.length da0] 55)).cell? ⟨w.heap.size + 1, 0, none⟩ = some (.slice ba0 y.length da0) := box_two' _ _ _ _ _ 0 _ rfl
  have H0 : Hid (∀ W, Below w.heap.size w W → Calls Try.prog 76 #[.slice aa0 x.length ca0, .slice ba0 y.length da0, .func (.func 77) #[] #[]] W fun e w' => e = .returned (.bool (same x y)) ∧ Below W.heap.size W w') := fun W hW => eqfExNode_any _ _ x y W s0 t0 (R0.out.below hW) (U0.out.below hW)
  go_enter Try.func58, Try.ntmps58
  go_wp2_with (go_at_call 76; refine (H0.out _ BW.out).mono ?_; rintro e w9 ⟨rfl, hb9⟩)
  go_ret
  exact ⟨rfl, BW.out.trans (hb9.mono BW.out.size)⟩

set_option maxHeartbeats 3200000 in
set_option maxRecDepth 100000 in
theorem eqfExpr_any (u v : Value) (a b : List (List NodeD)) (w : World) (hn : rowTot exprTot a ≤ 1048576) (hn' : rowTot exprTot b ≤ 1048576) (h : RowC 1 ExprE w u a) (h' : RowC 1 ExprE w v b) :
    Calls Try.prog 57 #[u, v, .func (.func 58) #[] #[]] w fun e w' => e = .returned (.bool (same a b)) ∧ Below w.heap.size w w' := by
  have HA : Hid (RowC 1 ExprE w u a) := h
  have HB : Hid (RowC 1 ExprE w v b) := h'
  have hla : a.length ≤ 1048576 := Nat.le_trans (rowTot_len _ _) hn
  have hlb : b.length ≤ 1048576 := Nat.le_trans (rowTot_len _ _) hn'
  obtain ⟨p, cap, rfl⟩ := h.slice
  obtain ⟨p', cap', rfl⟩ := h'.slice
  clear h h'
  by_cases hl : a.length = b.length
  rotate_left
  · have hl1 : ((a.length : Int) != (b.length : Int)) = true := by simpa using (by omega : ¬ (a.length : Int) = (b.length : Int))
    have HV : Hid (same a b = false) := same_no fun e => hl (by rw [e])
    clear hl
    go_enter Try.func57, Try.ntmps57
    go_wp2
    go_ret
    rw [HV.out]
    exact ⟨rfl, Below.refl _ _⟩
  have hl1 : ((a.length : Int) != (b.length : Int)) = false := by rw [hl]; simp
  have HL : Hid (a.length = b.length) := hl
  go_enter Try.func57, Try.ntmps57
  clear hl
  go_wp2
  go_loopw [17] (fun iv wr => ∃ k : Nat, iv = .int .i64 k ∧ k ≤ a.length ∧ (∀ i (h : i < a.length) (h' : i < b.length), i < k → a[i] = b[i]) ∧ Below w.heap.size w wr) (fun iv _ => a.length - (intOf iv).toNat)
  case atStart => exact ⟨0, rfl, Nat.zero_le _, fun i _ _ h => by omega, Below.refl _ _⟩
  case round =>
    obtain ⟨k, rfl, hk, hto, hbw⟩ := hrel
    have HTo : Hid (∀ i (h : i < a.length) (h' : i < b.length), i < k → a[i] = b[i]) := hto
    have BW : Hid (Below w.heap.size w wr) := hbw
    clear hto hbw
    by_cases hlt : k < a.length
    · have hlt' : k < b.length := by rw [← HL.out]; exact hlt
      have tot_a : nodesTot a[k] ≤ 1048576 := Nat.le_trans (rowTot_mem (exprTot) (List.getElem_mem hlt)) hn
      have za0 : nodesTot a[k] ≤ 1048576 := by omega
      clear tot_a
      have tot_b : nodesTot b[k] ≤ 1048576 := Nat.le_trans (rowTot_mem (exprTot) (List.getElem_mem hlt')) hn'
      have zb0 : nodesTot b[k] ≤ 1048576 := by omega
      clear tot_b
      obtain ⟨g, off, vs, rfl, _, hc, hcE⟩ := (RowC.below ExprE_stable HA.out BW.out).at hlt
      obtain ⟨r0, rfl, hh0⟩ := hcE
      have n0 : wr.cell? ⟨g, off + k, none⟩ = some (r0) := by have h := hc 0 (by simp); rw [Nat.mul_one] at h; exact h
      clear hc
      obtain ⟨g', off', vs', rfl, _, hc', hc'E⟩ := (RowC.below ExprE_stable HB.out BW.out).at hlt'
      obtain ⟨u0, rfl, gg0⟩ := hc'E
      have m0 : wr.cell? ⟨g', off' + k, none⟩ = some (u0) := by have h := hc' 0 (by simp); rw [Nat.mul_one] at h; exact h
      clear hc'
      have i4 : (k : Int) < (a.length : Int) := by omega
      have i5 : (k : Int) < (b.length : Int) := by omega
      have HE : Hid (∀ W, Below wr.heap.size wr W → _) := fun W hW => sameExpr_any r0 u0 a[k] b[k] W za0 zb0 (hh0.below hW) (gg0.below hW)
      obtain ⟨aa0, ca0, rfl⟩ := hh0.slice
      obtain ⟨ba0, da0, rfl⟩ := gg0.slice
      clear hh0 gg0 za0 zb0
      have M0 := cell_keep m0 (show Below wr.heap.size wr (wr.alloc (.cells #[.slice aa0 a[k].length ca0] 55)) from (Below.refl _ _).alloc (Nat.le_refl _) _)
      have BA : Hid (Below wr.heap.size wr ((wr.alloc (.cells #[.slice aa0 a[k].length ca0] 55)).alloc (.cells #[.slice ba0 b[k].length da0] 55))) := ((Below.refl _ _).alloc (Nat.le_refl _) _).alloc (by simp) _
      by_cases he : a[k] = b[k]
      · have HN : Hid (∀ i (h : i < a.length) (h' : i < b.length), i < k + 1 → a[i] = b[i]) := fun i h1 h2 h3 => by
          by_cases e : i = k
          · subst e; exact he
          · exact HTo.out i h1 h2 (by omega)
        have HS := same_yes he
        clear he HTo
        go_wp2_with fail
        refine (HE.out _ BA.out).mono ?_
        rintro e w1 ⟨rfl, hb1⟩
        rw [HS]
        have HB1 : Hid (Below w.heap.size w w1) := (BW.out.trans (BA.out.mono BW.out.size)).trans (hb1.mono (Nat.le_trans BW.out.size BA.out.size))
        clear hb1
        go_wp2
        go_roundw
        case rel => exact ⟨k + 1, by go_num, by omega, HN.out, HB1.out⟩
        case measure => simp [intOf]; omega
      · have HV : Hid (same a b = false) := same_no (sm_no hlt hlt' he)
        have HS := same_no he
        clear he HTo
        go_wp2_with fail
        refine (HE.out _ BA.out).mono ?_
        rintro e w1 ⟨rfl, hb1⟩
        rw [HS]
        have HB1 : Hid (Below w.heap.size w w1) := (BW.out.trans (BA.out.mono BW.out.size)).trans (hb1.mono (Nat.le_trans BW.out.size BA.out.size))
        clear hb1
        go_wp2
        go_ret
        rw [HV.out]
        exact ⟨rfl, HB1.out⟩
    · obtain rfl : k = a.length := by omega
      have HV : Hid (same a b = true) := same_yes (sm_all HL.out fun i h1 h2 => HTo.out i h1 h2 h1)
      clear HTo
      go_wp2
      go_ret
      rw [HV.out]
      exact ⟨rfl, BW.out⟩

set_option maxHeartbeats 1600000 in
theorem sameSym_any (r0 u0 : Value) (x y : SymD) (w : World) (s0 : rowTot exprTot x.args ≤ 1048576) (t0 : rowTot exprTot y.args ≤ 1048576) (hh0 : RowC 1 ExprE w r0 x.args) (gg0 : RowC 1 ExprE w u0 y.args) :
    Calls Try.prog 41 #[.agg #[.int .i64 x.kind, .string x.text, r0, .string x.bind], .agg #[.int .i64 y.kind, .string y.text, u0, .string y.bind]] w fun e w' => e = .returned (.bool (same x y)) ∧ Below w.heap.size w w' := by
  have R0 : Hid (RowC 1 ExprE w r0 x.args) := hh0
  have U0 : Hid (RowC 1 ExprE w u0 y.args) := gg0
  obtain ⟨aa0, ca0, rfl⟩ := hh0.slice
  obtain ⟨ba0, da0, rfl⟩ := gg0.slice
  clear hh0 gg0
  have BW : Hid (Below w.heap.size w ((w.alloc (.cells #[.int .i64 x.kind, .string x.text, .slice aa0 x.args.length ca0, .string x.bind] 51)).alloc (.cells #[.int .i64 y.kind, .string y.text, .slice ba0 y.args.length da0, .string y.bind] 51))) := ((Below.refl _ _).alloc (Nat.le_refl _) _).alloc (by simp) _
  have n0 : ((w.alloc (.cells #[.int .i64 x.kind, .string x.text, .slice aa0 x.args.length ca0, .string x.bind] 51)).alloc (.cells #[.int .i64 y.kind, .string y.text, .slice ba0 y.args.length da0, .string y.bind] 51)).cell? ⟨w.heap.size, 0, none⟩ = some (.int .i64 x.kind) := box_two _ _ _ _ _ 0 _ rfl
  have m0 : ((w.alloc (.cells #[.int .i64 x.kind, .string x.text, .slice aa0 x.args.length ca0, .string x.bind] 51)).alloc (.cells #[.int .i64 y.kind, .string y.text, .slice ba0 y.args.length da0, .string y.bind] 51)).cell? ⟨w.heap.size + 1, 0, none⟩ = some (.int .i64 y.kind) := box_two' _ _ _ _ _ 0 _ rfl
  have n1 : ((w.alloc (.cells #[.int .i64 x.kind, .string x.text, .slice aa0 x.args.length ca0, .string x.bind] 51)).alloc (.cells #[.int .i64 y.kind, .string y.text, .slice ba0 y.args.length da0, .string y.bind] 51)).cell? ⟨w.heap.size, 1, none⟩ = some (.string x.text) := box_two _ _ _ _ _ 1 _ rfl
  have m1 : ((w.alloc (.cells #[.int .i64 x.kind, .string x.text, .slice aa0 x.args.length ca0, .string x.bind] 51)).alloc (.cells #[.int .i64 y.kind, .string y.text, .slice ba0 y.args.length da0, .string y.bind] 51)).cell? ⟨w.heap.size + 1, 1, none⟩ = some (.string y.text) := box_two' _ _ _ _ _ 1 _ rfl
  have n2 : ((w.alloc (.cells #[.int .i64 x.kind, .string x.text, .slice aa0 x.args.length ca0, .string x.bind] 51)).alloc (.cells #[.int .i64 y.kind, .string y.text, .slice ba0 y.args.length da0, .string y.bind] 51)).cell? ⟨w.heap.size, 2, none⟩ = some (.slice aa0 x.args.length ca0) := box_two _ _ _ _ _ 2 _ rfl
  have m2 : ((w.alloc (.cells #[.int .i64 x.kind, .string x.text, .slice aa0 x.args.length ca0, .string x.bind] 51)).alloc (.cells #[.int .i64 y.kind, .string y.text, .slice ba0 y.args.length da0, .string y.bind] 51)).cell? ⟨w.heap.size + 1, 2, none⟩ = some (.slice ba0 y.args.length da0) := box_two' _ _ _ _ _ 2 _ rfl
  have n3 : ((w.alloc (.cells #[.int .i64 x.kind, .string x.text, .slice aa0 x.args.length ca0, .string x.bind] 51)).alloc (.cells #[.int .i64 y.kind, .string y.text, .slice ba0 y.args.length da0, .string y.bind] 51)).cell? ⟨w.heap.size, 3, none⟩ = some (.string x.bind) := box_two _ _ _ _ _ 3 _ rfl
  have m3 : ((w.alloc (.cells #[.int .i64 x.kind, .string x.text, .slice aa0 x.args.length ca0, .string x.bind] 51)).alloc (.cells #[.int .i64 y.kind, .string y.text, .slice ba0 y.args.length da0, .string y.bind] 51)).cell? ⟨w.heap.size + 1, 3, none⟩ = some (.string y.bind) := box_two' _ _ _ _ _ 3 _ rfl
  have H0 : Hid (∀ W, Below w.heap.size w W → Calls Try.prog 57 #[.slice aa0 x.args.length ca0, .slice ba0 y.args.length da0, .func (.func 58) #[] #[]] W fun e w' => e = .returned (.bool (same x.args y.args)) ∧ Below W.heap.size W w') := fun W hW => eqfExpr_any _ _ x.args y.args W s0 t0 (RowC.below ExprE_stable R0.out hW) (RowC.below ExprE_stable U0.out hW)
  by_cases c0 : x.kind = y.kind
  · have d0 : (x.kind == y.kind) = true := by rw [c0]; simp
    have C0 : Hid (x.kind = y.kind) := c0
    clear c0
    by_cases c1 : x.text = y.text
    · have d1 := beq_yes c1
      have C1 : Hid (x.text = y.text) := c1
      clear c1
      by_cases c3 : x.bind = y.bind
      · have d3 := beq_yes c3
        have C3 : Hid (x.bind = y.bind) := c3
        clear c3
        have HV : Hid (same x y = same x.args y.args) := by
          by_cases c2 : x.args = y.args
          · have c0 := C0.out; have c1 := C1.out; have c3 := C3.out; rw [Hid, same_yes c2]; exact same_yes (by cases x; cases y; simp only at *; subst_vars; rfl)
          · rw [Hid, same_no c2]; exact same_no fun e => c2 (by rw [e])
        go_enter Try.func41, Try.ntmps41
        go_wp2_with (go_at_call 57; refine (H0.out _ BW.out).mono ?_; rintro e w9 ⟨rfl, hb9⟩)
        go_ret
        rw [HV.out]
        exact ⟨rfl, BW.out.trans (hb9.mono BW.out.size)⟩
      · have d3 := beq_no c3
        have HV : Hid (same x y = false) := same_no fun e => c3 (by rw [e])
        clear c3
        go_enter Try.func41, Try.ntmps41
        go_wp2
        go_ret
        rw [HV.out]
        exact ⟨rfl, BW.out⟩
    · have d1 := beq_no c1
      have HV : Hid (same x y = false) := same_no fun e => c1 (by rw [e])
      clear c1
      go_enter Try.func41, Try.ntmps41
      go_wp2
      go_ret
      rw [HV.out]
      exact ⟨rfl, BW.out⟩
  · have d0 : (x.kind == y.kind) = false := by simpa using c0
    have HV : Hid (same x y = false) := same_no fun e => c0 (by rw [e])
    clear c0
    go_enter Try.func41, Try.ntmps41
    go_wp2
    go_ret
    rw [HV.out]
    exact ⟨rfl, BW.out⟩

set_option maxHeartbeats 3200000 in
set_option maxRecDepth 100000 in
theorem eqfSym_any (u v : Value) (a b : List (SymD)) (w : World) (hn : rowTot symTot a ≤ 1048576) (hn' : rowTot symTot b ≤ 1048576) (h : RowC 4 SymE w u a) (h' : RowC 4 SymE w v b) :
    Calls Try.prog 40 #[u, v, .func (.func 41) #[] #[]] w fun e w' => e = .returned (.bool (same a b)) ∧ Below w.heap.size w w' := by
  have HA : Hid (RowC 4 SymE w u a) := h
  have HB : Hid (RowC 4 SymE w v b) := h'
  have hla : a.length ≤ 1048576 := Nat.le_trans (rowTot_len _ _) hn
  have hlb : b.length ≤ 1048576 := Nat.le_trans (rowTot_len _ _) hn'
  obtain ⟨p, cap, rfl⟩ := h.slice
  obtain ⟨p', cap', rfl⟩ := h'.slice
  clear h h'
  by_cases hl : a.length = b.length
  rotate_left
  · have hl1 : ((a.length : Int) != (b.length : Int)) = true := by simpa using (by omega : ¬ (a.length : Int) = (b.length : Int))
    have HV : Hid (same a b = false) := same_no fun e => hl (by rw [e])
    clear hl
    go_enter Try.func40, Try.ntmps40
    go_wp2
    go_ret
    rw [HV.out]
    exact ⟨rfl, Below.refl _ _⟩
  have hl1 : ((a.length : Int) != (b.length : Int)) = false := by rw [hl]; simp
  have HL : Hid (a.length = b.length) := hl
  go_enter Try.func40, Try.ntmps40
  clear hl
  go_wp2
  go_loopw [17] (fun iv wr => ∃ k : Nat, iv = .int .i64 k ∧ k ≤ a.length ∧ (∀ i (h : i < a.length) (h' : i < b.length), i < k → a[i] = b[i]) ∧ Below w.heap.size w wr) (fun iv _ => a.length - (intOf iv).toNat)
  case atStart => exact ⟨0, rfl, Nat.zero_le _, fun i _ _ h => by omega, Below.refl _ _⟩
  case round =>
    obtain ⟨k, rfl, hk, hto, hbw⟩ := hrel
    have HTo : Hid (∀ i (h : i < a.length) (h' : i < b.length), i < k → a[i] = b[i]) := hto
    have BW : Hid (Below w.heap.size w wr) := hbw
    clear hto hbw
    by_cases hlt : k < a.length
    · have hlt' : k < b.length := by rw [← HL.out]; exact hlt
      have tot_a : a[k].text.size + rowTot exprTot a[k].args + a[k].bind.size ≤ 1048576 := Nat.le_trans (rowTot_mem (symTot) (List.getElem_mem hlt)) hn
      have za0 : rowTot exprTot a[k].args ≤ 1048576 := by omega
      clear tot_a
      have tot_b : b[k].text.size + rowTot exprTot b[k].args + b[k].bind.size ≤ 1048576 := Nat.le_trans (rowTot_mem (symTot) (List.getElem_mem hlt')) hn'
      have zb0 : rowTot exprTot b[k].args ≤ 1048576 := by omega
      clear tot_b
      obtain ⟨g, off, vs, rfl, _, hc, hcE⟩ := (RowC.below SymE_stable HA.out BW.out).at hlt
      obtain ⟨r0, rfl, hh0⟩ := hcE
      have n0 : wr.cell? ⟨g, off + k * 4, none⟩ = some (.int .i64 a[k].kind) := hc 0 (by simp)
      have n1 : wr.cell? ⟨g, off + k * 4 + 1, none⟩ = some (.string a[k].text) := hc 1 (by simp)
      have n2 : wr.cell? ⟨g, off + k * 4 + 2, none⟩ = some (r0) := hc 2 (by simp)
      have n3 : wr.cell? ⟨g, off + k * 4 + 3, none⟩ = some (.string a[k].bind) := hc 3 (by simp)
      clear hc
      obtain ⟨g', off', vs', rfl, _, hc', hc'E⟩ := (RowC.below SymE_stable HB.out BW.out).at hlt'
      obtain ⟨u0, rfl, gg0⟩ := hc'E
      have m0 : wr.cell? ⟨g', off' + k * 4, none⟩ = some (.int .i64 b[k].kind) := hc' 0 (by simp)
      have m1 : wr.cell? ⟨g', off' + k * 4 + 1, none⟩ = some (.string b[k].text) := hc' 1 (by simp)
      have m2 : wr.cell? ⟨g', off' + k * 4 + 2, none⟩ = some (u0) := hc' 2 (by simp)
      have m3 : wr.cell? ⟨g', off' + k * 4 + 3, none⟩ = some (.string b[k].bind) := hc' 3 (by simp)
      clear hc'
      have i4 : (k : Int) < (a.length : Int) := by omega
      have i5 : (k : Int) < (b.length : Int) := by omega
      have HE : Hid (∀ W, Below wr.heap.size wr W → _) := fun W hW => sameSym_any r0 u0 a[k] b[k] W za0 zb0 (RowC.below ExprE_stable hh0 hW) (RowC.below ExprE_stable gg0 hW)
      obtain ⟨aa0, ca0, rfl⟩ := hh0.slice
      obtain ⟨ba0, da0, rfl⟩ := gg0.slice
      clear hh0 gg0 za0 zb0
      have M0 := cell_keep m0 (show Below wr.heap.size wr (wr.alloc (.cells #[.int .i64 a[k].kind, .string a[k].text, .slice aa0 a[k].args.length ca0, .string a[k].bind] 51)) from (Below.refl _ _).alloc (Nat.le_refl _) _)
      have M1 := cell_keep m1 (show Below wr.heap.size wr (wr.alloc (.cells #[.int .i64 a[k].kind, .string a[k].text, .slice aa0 a[k].args.length ca0, .string a[k].bind] 51)) from (Below.refl _ _).alloc (Nat.le_refl _) _)
      have M2 := cell_keep m2 (show Below wr.heap.size wr (wr.alloc (.cells #[.int .i64 a[k].kind, .string a[k].text, .slice aa0 a[k].args.length ca0, .string a[k].bind] 51)) from (Below.refl _ _).alloc (Nat.le_refl _) _)
      have M3 := cell_keep m3 (show Below wr.heap.size wr (wr.alloc (.cells #[.int .i64 a[k].kind, .string a[k].text, .slice aa0 a[k].args.length ca0, .string a[k].bind] 51)) from (Below.refl _ _).alloc (Nat.le_refl _) _)
      have BA : Hid (Below wr.heap.size wr ((wr.alloc (.cells #[.int .i64 a[k].kind, .string a[k].text, .slice aa0 a[k].args.length ca0, .string a[k].bind] 51)).alloc (.cells #[.int .i64 b[k].kind, .string b[k].text, .slice ba0 b[k].args.length da0, .string b[k].bind] 51))) := ((Below.refl _ _).alloc (Nat.le_refl _) _).alloc (by simp) _
      by_cases he : a[k] = b[k]
      · have HN : Hid (∀ i (h : i < a.length) (h' : i < b.length), i < k + 1 → a[i] = b[i]) := fun i h1 h2 h3 => by
          by_cases e : i = k
          · subst e; exact he
          · exact HTo.out i h1 h2 (by omega)
        have HS := same_yes he
        clear he HTo
        go_wp2_with fail
        refine (HE.out _ BA.out).mono ?_
        rintro e w1 ⟨rfl, hb1⟩
        rw [HS]
        have HB1 : Hid (Below w.heap.size w w1) := (BW.out.trans (BA.out.mono BW.out.size)).trans (hb1.mono (Nat.le_trans BW.out.size BA.out.size))
        clear hb1
        go_wp2
        go_roundw
        case rel => exact ⟨k + 1, by go_num, by omega, HN.out, HB1.out⟩
        case measure => simp [intOf]; omega
      · have HV : Hid (same a b = false) := same_no (sm_no hlt hlt' he)
        have HS := same_no he
        clear he HTo
        go_wp2_with fail
        refine (HE.out _ BA.out).mono ?_
        rintro e w1 ⟨rfl, hb1⟩
        rw [HS]
        have HB1 : Hid (Below w.heap.size w w1) := (BW.out.trans (BA.out.mono BW.out.size)).trans (hb1.mono (Nat.le_trans BW.out.size BA.out.size))
        clear hb1
        go_wp2
        go_ret
        rw [HV.out]
        exact ⟨rfl, HB1.out⟩
    · obtain rfl : k = a.length := by omega
      have HV : Hid (same a b = true) := same_yes (sm_all HL.out fun i h1 h2 => HTo.out i h1 h2 h1)
      clear HTo
      go_wp2
      go_ret
      rw [HV.out]
      exact ⟨rfl, BW.out⟩

set_option maxHeartbeats 1600000 in
theorem sameAlt_any (r0 u0 : Value) (x y : List SymD) (w : World) (s0 : rowTot symTot x ≤ 1048576) (t0 : rowTot symTot y ≤ 1048576) (hh0 : RowC 4 SymE w r0 x) (gg0 : RowC 4 SymE w u0 y) :
    Calls Try.prog 28 #[.agg #[r0], .agg #[u0]] w fun e w' => e = .returned (.bool (same x y)) ∧ Below w.heap.size w w' := by
  have R0 : Hid (RowC 4 SymE w r0 x) := hh0
  have U0 : Hid (RowC 4 SymE w u0 y) := gg0
  obtain ⟨aa0, ca0, rfl⟩ := hh0.slice
  obtain ⟨ba0, da0, rfl⟩ := gg0.slice
  clear hh0 gg0
  have BW : Hid (Below w.heap.size w ((w.alloc (.cells #[.slice aa0 x.length ca0] 48)).alloc (.cells #[.slice ba0 y.length da0] 48))) := ((Below.refl _ _).alloc (Nat.le_refl _) _).alloc (by simp) _
  have n0 : ((w.alloc (.cells #[.slice aa0 x.length ca0] 48)).alloc (.cells #[.slice ba0 y.length da0] 48)).cell? ⟨w.heap.size, 0, none⟩ = some (.slice aa0 x.length ca0) := box_two _ _ _ _ _ 0 _ rfl
  have m0 : ((w.alloc (.cells #[.slice aa0 x.length ca0] 48)).alloc (.cells #[.slice ba0 y.length da0] 48)).cell? ⟨w.heap.size + 1, 0, none⟩ = some (.slice ba0 y.length da0) := box_two' _ _ _ _ _ 0 _ rfl
  have H0 : Hid (∀ W, Below w.heap.size w W → Calls Try.prog 40 #[.slice aa0 x.length ca0, .slice ba0 y.length da0, .func (.func 41) #[] #[]] W fun e w' => e = .returned (.bool (same x y)) ∧ Below W.heap.size W w') := fun W hW => eqfSym_any _ _ x y W s0 t0 (RowC.below SymE_stable R0.out hW) (RowC.below SymE_stable U0.out hW)
  go_enter Try.func28, Try.ntmps28
  go_wp2_with (go_at_call 40; refine (H0.out _ BW.out).mono ?_; rintro e w9 ⟨rfl, hb9⟩)
  go_ret
  exact ⟨rfl, BW.out.trans (hb9.mono BW.out.size)⟩

set_option maxHeartbeats 3200000 in
set_option maxRecDepth 100000 in
theorem eqfAlt_any (u v : Value) (a b : List (List SymD)) (w : World) (hn : rowTot altTot a ≤ 1048576) (hn' : rowTot altTot b ≤ 1048576) (h : RowC 1 AltE w u a) (h' : RowC 1 AltE w v b) :
    Calls Try.prog 27 #[u, v, .func (.func 28) #[] #[]] w fun e w' => e = .returned (.bool (same a b)) ∧ Below w.heap.size w w' := by
  have HA : Hid (RowC 1 AltE w u a) := h
  have HB : Hid (RowC 1 AltE w v b) := h'
  have hla : a.length ≤ 1048576 := Nat.le_trans (rowTot_len _ _) hn
  have hlb : b.length ≤ 1048576 := Nat.le_trans (rowTot_len _ _) hn'
  obtain ⟨p, cap, rfl⟩ := h.slice
  obtain ⟨p', cap', rfl⟩ := h'.slice
  clear h h'
  by_cases hl : a.length = b.length
  rotate_left
  · have hl1 : ((a.length : Int) != (b.length : Int)) = true := by simpa using (by omega : ¬ (a.length : Int) = (b.length : Int))
    have HV : Hid (same a b = false) := same_no fun e => hl (by rw [e])
    clear hl
    go_enter Try.func27, Try.ntmps27
    go_wp2
    go_ret
    rw [HV.out]
    exact ⟨rfl, Below.refl _ _⟩
  have hl1 : ((a.length : Int) != (b.length : Int)) = false := by rw [hl]; simp
  have HL : Hid (a.length = b.length) := hl
  go_enter Try.func27, Try.ntmps27
  clear hl
  go_wp2
  go_loopw [17] (fun iv wr => ∃ k : Nat, iv = .int .i64 k ∧ k ≤ a.length ∧ (∀ i (h : i < a.length) (h' : i < b.length), i < k → a[i] = b[i]) ∧ Below w.heap.size w wr) (fun iv _ => a.length - (intOf iv).toNat)
  case atStart => exact ⟨0, rfl, Nat.zero_le _, fun i _ _ h => by omega, Below.refl _ _⟩
  case round =>
    obtain ⟨k, rfl, hk, hto, hbw⟩ := hrel
    have HTo : Hid (∀ i (h : i < a.length) (h' : i < b.length), i < k → a[i] = b[i]) := hto
    have BW : Hid (Below w.heap.size w wr) := hbw
    clear hto hbw
    by_cases hlt : k < a.length
    · have hlt' : k < b.length := by rw [← HL.out]; exact hlt
      have tot_a : rowTot symTot a[k] ≤ 1048576 := Nat.le_trans (rowTot_mem (altTot) (List.getElem_mem hlt)) hn
      have za0 : rowTot symTot a[k] ≤ 1048576 := by omega
      clear tot_a
      have tot_b : rowTot symTot b[k] ≤ 1048576 := Nat.le_trans (rowTot_mem (altTot) (List.getElem_mem hlt')) hn'
      have zb0 : rowTot symTot b[k] ≤ 1048576 := by omega
      clear tot_b
      obtain ⟨g, off, vs, rfl, _, hc, hcE⟩ := (RowC.below AltE_stable HA.out BW.out).at hlt
      obtain ⟨r0, rfl, hh0⟩ := hcE
      have n0 : wr.cell? ⟨g, off + k, none⟩ = some (r0) := by have h := hc 0 (by simp); rw [Nat.mul_one] at h; exact h
      clear hc
      obtain ⟨g', off', vs', rfl, _, hc', hc'E⟩ := (RowC.below AltE_stable HB.out BW.out).at hlt'
      obtain ⟨u0, rfl, gg0⟩ := hc'E
      have m0 : wr.cell? ⟨g', off' + k, none⟩ = some (u0) := by have h := hc' 0 (by simp); rw [Nat.mul_one] at h; exact h
      clear hc'
      have i4 : (k : Int) < (a.length : Int) := by omega
      have i5 : (k : Int) < (b.length : Int) := by omega
      have HE : Hid (∀ W, Below wr.heap.size wr W → _) := fun W hW => sameAlt_any r0 u0 a[k] b[k] W za0 zb0 (RowC.below SymE_stable hh0 hW) (RowC.below SymE_stable gg0 hW)
      obtain ⟨aa0, ca0, rfl⟩ := hh0.slice
      obtain ⟨ba0, da0, rfl⟩ := gg0.slice
      clear hh0 gg0 za0 zb0
      have M0 := cell_keep m0 (show Below wr.heap.size wr (wr.alloc (.cells #[.slice aa0 a[k].length ca0] 48)) from (Below.refl _ _).alloc (Nat.le_refl _) _)
      have BA : Hid (Below wr.heap.size wr ((wr.alloc (.cells #[.slice aa0 a[k].length ca0] 48)).alloc (.cells #[.slice ba0 b[k].length da0] 48))) := ((Below.refl _ _).alloc (Nat.le_refl _) _).alloc (by simp) _
      by_cases he : a[k] = b[k]
      · have HN : Hid (∀ i (h : i < a.length) (h' : i < b.length), i < k + 1 → a[i] = b[i]) := fun i h1 h2 h3 => by
          by_cases e : i = k
          · subst e; exact he
          · exact HTo.out i h1 h2 (by omega)
        have HS := same_yes he
        clear he HTo
        go_wp2_with fail
        refine (HE.out _ BA.out).mono ?_
        rintro e w1 ⟨rfl, hb1⟩
        rw [HS]
        have HB1 : Hid (Below w.heap.size w w1) := (BW.out.trans (BA.out.mono BW.out.size)).trans (hb1.mono (Nat.le_trans BW.out.size BA.out.size))
        clear hb1
        go_wp2
        go_roundw
        case rel => exact ⟨k + 1, by go_num, by omega, HN.out, HB1.out⟩
        case measure => simp [intOf]; omega
      · have HV : Hid (same a b = false) := same_no (sm_no hlt hlt' he)
        have HS := same_no he
        clear he HTo
        go_wp2_with fail
        refine (HE.out _ BA.out).mono ?_
        rintro e w1 ⟨rfl, hb1⟩
        rw [HS]
        have HB1 : Hid (Below w.heap.size w w1) := (BW.out.trans (BA.out.mono BW.out.size)).trans (hb1.mono (Nat.le_trans BW.out.size BA.out.size))
        clear hb1
        go_wp2
        go_ret
        rw [HV.out]
        exact ⟨rfl, HB1.out⟩
    · obtain rfl : k = a.length := by omega
      have HV : Hid (same a b = true) := same_yes (sm_all HL.out fun i h1 h2 => HTo.out i h1 h2 h1)
      clear HTo
      go_wp2
      go_ret
      rw [HV.out]
      exact ⟨rfl, BW.out⟩

set_option maxHeartbeats 1600000 in
theorem sameRule_any (r0 u0 r1 u1 : Value) (x y : RuleD) (w : World) (s0 : x.params.length ≤ 1048576) (t0 : y.params.length ≤ 1048576) (hh0 : SRow w r0 x.params) (gg0 : SRow w u0 y.params) (s1 : rowTot altTot x.alts ≤ 1048576) (t1 : rowTot altTot y.alts ≤ 1048576) (hh1 : RowC 1 AltE w r1 x.alts) (gg1 : RowC 1 AltE w u1 y.alts) :
    Calls Try.prog 14 #[.agg #[.string x.name, r0, r1], .agg #[.string y.name, u0, u1]] w fun e w' => e = .returned (.bool (same x y)) ∧ Below w.heap.size w w' := by
  have R0 : Hid (SRow w r0 x.params) := hh0
  have U0 : Hid (SRow w u0 y.params) := gg0
  obtain ⟨aa0, ca0, rfl⟩ := hh0.slice
  obtain ⟨ba0, da0, rfl⟩ := gg0.slice
  have R1 : Hid (RowC 1 AltE w r1 x.alts) := hh1
  have U1 : Hid (RowC 1 AltE w u1 y.alts) := gg1
  obtain ⟨aa1, ca1, rfl⟩ := hh1.slice
  obtain ⟨ba1, da1, rfl⟩ := gg1.slice
  clear hh0 gg0 hh1 gg1
  have BW : Hid (Below w.heap.size w ((w.alloc (.cells #[.string x.name, .slice aa0 x.params.length ca0, .slice aa1 x.alts.length ca1] 40)).alloc (.cells #[.string y.name, .slice ba0 y.params.length da0, .slice ba1 y.alts.length da1] 40))) := ((Below.refl _ _).alloc (Nat.le_refl _) _).alloc (by simp) _
  have n0 : ((w.alloc (.cells #[.string x.name, .slice aa0 x.params.length ca0, .slice aa1 x.alts.length ca1] 40)).alloc (.cells #[.string y.name, .slice ba0 y.params.length da0, .slice ba1 y.alts.length da1] 40)).cell? ⟨w.heap.size, 0, none⟩ = some (.string x.name) := box_two _ _ _ _ _ 0 _ rfl
  have m0 : ((w.alloc (.cells #[.string x.name, .slice aa0 x.params.length ca0, .slice aa1 x.alts.length ca1] 40)).alloc (.cells #[.string y.name, .slice ba0 y.params.length da0, .slice ba1 y.alts.length da1] 40)).cell? ⟨w.heap.size + 1, 0, none⟩ = some (.string y.name) := box_two' _ _ _ _ _ 0 _ rfl
  have n1 : ((w.alloc (.cells #[.string x.name, .slice aa0 x.params.length ca0, .slice aa1 x.alts.length ca1] 40)).alloc (.cells #[.string y.name, .slice ba0 y.params.length da0, .slice ba1 y.alts.length da1] 40)).cell? ⟨w.heap.size, 1, none⟩ = some (.slice aa0 x.params.length ca0) := box_two _ _ _ _ _ 1 _ rfl
  have m1 : ((w.alloc (.cells #[.string x.name, .slice aa0 x.params.length ca0, .slice aa1 x.alts.length ca1] 40)).alloc (.cells #[.string y.name, .slice ba0 y.params.length da0, .slice ba1 y.alts.length da1] 40)).cell? ⟨w.heap.size + 1, 1, none⟩ = some (.slice ba0 y.params.length da0) := box_two' _ _ _ _ _ 1 _ rfl
  have n2 : ((w.alloc (.cells #[.string x.name, .slice aa0 x.params.length ca0, .slice aa1 x.alts.length ca1] 40)).alloc (.cells #[.string y.name, .slice ba0 y.params.length da0, .slice ba1 y.alts.length da1] 40)).cell? ⟨w.heap.size, 2, none⟩ = some (.slice aa1 x.alts.length ca1) := box_two _ _ _ _ _ 2 _ rfl
  have m2 : ((w.alloc (.cells #[.string x.name, .slice aa0 x.params.length ca0, .slice aa1 x.alts.length ca1] 40)).alloc (.cells #[.string y.name, .slice ba0 y.params.length da0, .slice ba1 y.alts.length da1] 40)).cell? ⟨w.heap.size + 1, 2, none⟩ = some (.slice ba1 y.alts.length da1) := box_two' _ _ _ _ _ 2 _ rfl
  have H0 : Hid (∀ W, Below w.heap.size w W → Calls Try.prog 26 #[.slice aa0 x.params.length ca0, .slice ba0 y.params.length da0] W fun e w' => e = .returned (.bool (same x.params y.params)) ∧ Below W.heap.size W w') := fun W hW => (eqT_any _ _ x.params y.params W s0 t0 (R0.out.below hW) (U0.out.below hW)).mono (by rintro e w' ⟨rfl, q, rfl⟩; exact ⟨rfl, bel_drewN (Below.refl _ _) q⟩)
  have H1 : Hid (∀ W, Below w.heap.size w W → Calls Try.prog 27 #[.slice aa1 x.alts.length ca1, .slice ba1 y.alts.length da1, .func (.func 28) #[] #[]] W fun e w' => e = .returned (.bool (same x.alts y.alts)) ∧ Below W.heap.size W w') := fun W hW => eqfAlt_any _ _ x.alts y.alts W s1 t1 (RowC.below AltE_stable R1.out hW) (RowC.below AltE_stable U1.out hW)
  by_cases c0 : x.name = y.name
  · have d0 := beq_yes c0
    have C0 : Hid (x.name = y.name) := c0
    clear c0
    by_cases c1 : x.params = y.params
    · have HS := same_yes c1
      have C1 : Hid (x.params = y.params) := c1
      clear c1
      go_enter Try.func14, Try.ntmps14
      go_wp2_with fail
      refine (H0.out _ BW.out).mono ?_
      rintro e w0 ⟨rfl, hb0⟩
      rw [HS]
      clear HS
      have B0 : Hid (Below w.heap.size w w0) := BW.out.trans (hb0.mono BW.out.size)
      have N0_2 := cell_keep n2 hb0
      have M0_2 := cell_keep m2 hb0
      clear hb0
      have HV : Hid (same x y = same x.alts y.alts) := by
        by_cases c2 : x.alts = y.alts
        · have c0 := C0.out; have c1 := C1.out; rw [Hid, same_yes c2]; exact same_yes (by cases x; cases y; simp only at *; subst_vars; rfl)
        · rw [Hid, same_no c2]; exact same_no fun e => c2 (by rw [e])
      go_wp2_with (go_at_call 27; refine (H1.out _ B0.out).mono ?_; rintro e w9 ⟨rfl, hb9⟩)
      go_ret
      rw [HV.out]
      exact ⟨rfl, B0.out.trans (hb9.mono B0.out.size)⟩
    · have HV : Hid (same x y = false) := same_no fun e => c1 (by rw [e])
      have HS := same_no c1
      clear c1
      go_enter Try.func14, Try.ntmps14
      go_wp2_with fail
      refine (H0.out _ BW.out).mono ?_
      rintro e w0 ⟨rfl, hb0⟩
      rw [HS]
      go_wp2
      go_ret
      rw [HV.out]
      exact ⟨rfl, BW.out.trans (hb0.mono BW.out.size)⟩
  · have d0 := beq_no c0
    have HV : Hid (same x y = false) := same_no fun e => c0 (by rw [e])
    clear c0
    go_enter Try.func14, Try.ntmps14
    go_wp2
    go_ret
    rw [HV.out]
    exact ⟨rfl, BW.out⟩

set_option maxHeartbeats 3200000 in
set_option maxRecDepth 100000 in
theorem eqfRule_any (u v : Value) (a b : List (RuleD)) (w : World) (hn : rowTot ruleTot a ≤ 1048576) (hn' : rowTot ruleTot b ≤ 1048576) (h : RowC 3 RuleE w u a) (h' : RowC 3 RuleE w v b) :
    Calls Try.prog 13 #[u, v, .func (.func 14) #[] #[]] w fun e w' => e = .returned (.bool (same a b)) ∧ Below w.heap.size w w' := by
  have HA : Hid (RowC 3 RuleE w u a) := h
  have HB : Hid (RowC 3 RuleE w v b) := h'
  have hla : a.length ≤ 1048576 := Nat.le_trans (rowTot_len _ _) hn
  have hlb : b.length ≤ 1048576 := Nat.le_trans (rowTot_len _ _) hn'
  obtain ⟨p, cap, rfl⟩ := h.slice
  obtain ⟨p', cap', rfl⟩ := h'.slice
  clear h h'
  by_cases hl : a.length = b.length
  rotate_left
  · have hl1 : ((a.length : Int) != (b.length : Int)) = true := by simpa using (by omega : ¬ (a.length : Int) = (b.length : Int))
    have HV : Hid (same a b = false) := same_no fun e => hl (by rw [e])
    clear hl
    go_enter Try.func13, Try.ntmps13
    go_wp2
    go_ret
    rw [HV.out]
    exact ⟨rfl, Below.refl _ _⟩
  have hl1 : ((a.length : Int) != (b.length : Int)) = false := by rw [hl]; simp
  have HL : Hid (a.length = b.length) := hl
  go_enter Try.func13, Try.ntmps13
  clear hl
  go_wp2
  go_loopw [17] (fun iv wr => ∃ k : Nat, iv = .int .i64 k ∧ k ≤ a.length ∧ (∀ i (h : i < a.length) (h' : i < b.length), i < k → a[i] = b[i]) ∧ Below w.heap.size w wr) (fun iv _ => a.length - (intOf iv).toNat)
  case atStart => exact ⟨0, rfl, Nat.zero_le _, fun i _ _ h => by omega, Below.refl _ _⟩
  case round =>
    obtain ⟨k, rfl, hk, hto, hbw⟩ := hrel
    have HTo : Hid (∀ i (h : i < a.length) (h' : i < b.length), i < k → a[i] = b[i]) := hto
    have BW : Hid (Below w.heap.size w wr) := hbw
    clear hto hbw
    by_cases hlt : k < a.length
    · have hlt' : k < b.length := by rw [← HL.out]; exact hlt
      have tot_a : a[k].name.size + (a[k].params.length + (a[k].params.map ByteArray.size).sum) + rowTot altTot a[k].alts ≤ 1048576 := Nat.le_trans (rowTot_mem (ruleTot) (List.getElem_mem hlt)) hn
      have za0 : a[k].params.length ≤ 1048576 := by omega
      have za1 : rowTot altTot a[k].alts ≤ 1048576 := by omega
      clear tot_a
      have tot_b : b[k].name.size + (b[k].params.length + (b[k].params.map ByteArray.size).sum) + rowTot altTot b[k].alts ≤ 1048576 := Nat.le_trans (rowTot_mem (ruleTot) (List.getElem_mem hlt')) hn'
      have zb0 : b[k].params.length ≤ 1048576 := by omega
      have zb1 : rowTot altTot b[k].alts ≤ 1048576 := by omega
      clear tot_b
      obtain ⟨g, off, vs, rfl, _, hc, hcE⟩ := (RowC.below RuleE_stable HA.out BW.out).at hlt
      obtain ⟨r0, r1, rfl, hh0, hh1⟩ := hcE
      have n0 : wr.cell? ⟨g, off + k * 3, none⟩ = some (.string a[k].name) := hc 0 (by simp)
      have n1 : wr.cell? ⟨g, off + k * 3 + 1, none⟩ = some (r0) := hc 1 (by simp)
      have n2 : wr.cell? ⟨g, off + k * 3 + 2, none⟩ = some (r1) := hc 2 (by simp)
      clear hc
      obtain ⟨g', off', vs', rfl, _, hc', hc'E⟩ := (RowC.below RuleE_stable HB.out BW.out).at hlt'
      obtain ⟨u0, u1, rfl, gg0, gg1⟩ := hc'E
      have m0 : wr.cell? ⟨g', off' + k * 3, none⟩ = some (.string b[k].name) := hc' 0 (by simp)
      have m1 : wr.cell? ⟨g', off' + k * 3 + 1, none⟩ = some (u0) := hc' 1 (by simp)
      have m2 : wr.cell? ⟨g', off' + k * 3 + 2, none⟩ = some (u1) := hc' 2 (by simp)
      clear hc'
      have i4 : (k : Int) < (a.length : Int) := by omega
      have i5 : (k : Int) < (b.length : Int) := by omega
      have HE : Hid (∀ W, Below wr.heap.size wr W → _) := fun W hW => sameRule_any r0 u0 r1 u1 a[k] b[k] W za0 zb0 (hh0.below hW) (gg0.below hW) za1 zb1 (RowC.below AltE_stable hh1 hW) (RowC.below AltE_stable gg1 hW)
      obtain ⟨aa0, ca0, rfl⟩ := hh0.slice
      obtain ⟨ba0, da0, rfl⟩ := gg0.slice
      obtain ⟨aa1, ca1, rfl⟩ := hh1.slice
      obtain ⟨ba1, da1, rfl⟩ := gg1.slice
      clear hh0 gg0 za0 zb0 hh1 gg1 za1 zb1
      have M0 := cell_keep m0 (show Below wr.heap.size wr (wr.alloc (.cells #[.string a[k].name, .slice aa0 a[k].params.length ca0, .slice aa1 a[k].alts.length ca1] 40)) from (Below.refl _ _).alloc (Nat.le_refl _) _)
      have M1 := cell_keep m1 (show Below wr.heap.size wr (wr.alloc (.cells #[.string a[k].name, .slice aa0 a[k].params.length ca0, .slice aa1 a[k].alts.length ca1] 40)) from (Below.refl _ _).alloc (Nat.le_refl _) _)
      have M2 := cell_keep m2 (show Below wr.heap.size wr (wr.alloc (.cells #[.string a[k].name, .slice aa0 a[k].params.length ca0, .slice aa1 a[k].alts.length ca1] 40)) from (Below.refl _ _).alloc (Nat.le_refl _) _)
      have BA : Hid (Below wr.heap.size wr ((wr.alloc (.cells #[.string a[k].name, .slice aa0 a[k].params.length ca0, .slice aa1 a[k].alts.length ca1] 40)).alloc (.cells #[.string b[k].name, .slice ba0 b[k].params.length da0, .slice ba1 b[k].alts.length da1] 40))) := ((Below.refl _ _).alloc (Nat.le_refl _) _).alloc (by simp) _
      by_cases he : a[k] = b[k]
      · have HN : Hid (∀ i (h : i < a.length) (h' : i < b.length), i < k + 1 → a[i] = b[i]) := fun i h1 h2 h3 => by
          by_cases e : i = k
          · subst e; exact he
          · exact HTo.out i h1 h2 (by omega)
        have HS := same_yes he
        clear he HTo
        go_wp2_with fail
        refine (HE.out _ BA.out).mono ?_
        rintro e w1 ⟨rfl, hb1⟩
        rw [HS]
        have HB1 : Hid (Below w.heap.size w w1) := (BW.out.trans (BA.out.mono BW.out.size)).trans (hb1.mono (Nat.le_trans BW.out.size BA.out.size))
        clear hb1
        go_wp2
        go_roundw
        case rel => exact ⟨k + 1, by go_num, by omega, HN.out, HB1.out⟩
        case measure => simp [intOf]; omega
      · have HV : Hid (same a b = false) := same_no (sm_no hlt hlt' he)
        have HS := same_no he
        clear he HTo
        go_wp2_with fail
        refine (HE.out _ BA.out).mono ?_
        rintro e w1 ⟨rfl, hb1⟩
        rw [HS]
        have HB1 : Hid (Below w.heap.size w w1) := (BW.out.trans (BA.out.mono BW.out.size)).trans (hb1.mono (Nat.le_trans BW.out.size BA.out.size))
        clear hb1
        go_wp2
        go_ret
        rw [HV.out]
        exact ⟨rfl, HB1.out⟩
    · obtain rfl : k = a.length := by omega
      have HV : Hid (same a b = true) := same_yes (sm_all HL.out fun i h1 h2 => HTo.out i h1 h2 h1)
      clear HTo
      go_wp2
      go_ret
      rw [HV.out]
      exact ⟨rfl, BW.out⟩

end Go.Proofs.Ytipkbkhnaekceaa
