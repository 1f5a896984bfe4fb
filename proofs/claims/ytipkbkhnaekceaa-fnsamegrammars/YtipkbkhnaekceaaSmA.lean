/- The program's slices.Equal, slices.EqualFunc, sameNode, sameHead, sameExpr, SameSurface (printed by mk/same.py). -/
import Derived.Test.YtipkbkhnaekceaaSmP
import Derived.Deep.QuietTactic
import Derived.BigQuiet
namespace Go.Proofs.Ytipkbkhnaekceaa
open Go.RowKit
set_option linter.unusedVariables false

set_option maxHeartbeats 1600000 in
theorem eqI_any (u v : Value) (a b : List Int) (w : World) (hn : a.length ≤ 1048576) (hn' : b.length ≤ 1048576) (h : IRow w u a) (h' : IRow w v b) :
    Calls Try.prog 78 #[u, v] w fun e w' => e = .returned (.bool (same a b)) ∧ ∃ q, w' = w.drewN q := by
  have HA : Hid (IRow w u a) := h
  have HB : Hid (IRow w v b) := h'
  obtain ⟨p, cap, rfl⟩ := h.slice
  obtain ⟨p', cap', rfl⟩ := h'.slice
  clear h h'
  by_cases hl : a.length = b.length
  · have hl1 : ((a.length : Int) != (b.length : Int)) = false := by rw [hl]; simp
    have HL : Hid (a.length = b.length) := hl
    go_enter Try.func78, Try.ntmps78
    clear hl
    go_wp2
    go_loopw [13] (fun iv wr => ∃ k q : Nat, iv = .int .i64 k ∧ k ≤ a.length ∧ (∀ i (h : i < a.length) (h' : i < b.length), i < k → a[i] = b[i]) ∧ wr = w.drewN q) (fun iv _ => a.length - (intOf iv).toNat)
    case atStart => exact ⟨0, 0, rfl, Nat.zero_le _, fun i _ _ h => by omega, rfl⟩
    case round =>
      obtain ⟨k, q, rfl, hk, hto, hwr⟩ := hrel
      have HTo : Hid (∀ i (h : i < a.length) (h' : i < b.length), i < k → a[i] = b[i]) := hto
      have HW : Hid (wr = w.drewN q) := hwr
      clear hto hwr
      by_cases hlt : k < a.length
      · have hlt' : k < b.length := by rw [← HL.out]; exact hlt
        obtain ⟨g, off, rfl, hc⟩ := HA.out.at hlt
        obtain ⟨g', off', rfl, hc'⟩ := HB.out.at hlt'
        have hd : wr.cell? ⟨g, off + k, none⟩ = some (.int .i64 a[k]) := by rw [HW.out]; exact hc
        have hd' : wr.cell? ⟨g', off' + k, none⟩ = some (.int .i64 b[k]) := by rw [HW.out]; exact hc'
        have i4 : (k : Int) < (a.length : Int) := by omega
        have i5 : (k : Int) < (b.length : Int) := by omega
        clear hc hc'
        by_cases he : a[k] = b[k]
        · have HN : Hid (∀ i (h : i < a.length) (h' : i < b.length), i < k + 1 → a[i] = b[i]) := fun i h1 h2 h3 => by
            by_cases e : i = k
            · subst e; exact he
            · exact HTo.out i h1 h2 (by omega)
          have q1 : (a[k] != b[k]) = false := by rw [he]; simp
          clear he HTo
          generalize a[k] = x at *
          generalize b[k] = y at *
          go_wp2
          go_quiet (fail)
          go_wp2
          go_roundw
          case rel => exact ⟨k + 1, q + nq, by go_num, by omega, HN.out, by rw [HW.out, World.drewN_drewN]⟩
          case measure => simp [intOf]; omega
        · have HV : Hid (same a b = false) := same_no (sm_no hlt hlt' he)
          have q1 : (a[k] != b[k]) = true := by simpa using he
          clear he HTo
          generalize a[k] = x at *
          generalize b[k] = y at *
          go_wp2
          go_quiet (fail)
          go_wp2
          go_ret
          rw [HV.out]
          exact ⟨rfl, q + nq, by rw [HW.out, World.drewN_drewN]⟩
      · obtain rfl : k = a.length := by omega
        have HV : Hid (same a b = true) := same_yes (sm_all HL.out fun i h1 h2 => HTo.out i h1 h2 h1)
        clear HTo
        go_wp2
        go_ret
        rw [HV.out]
        exact ⟨rfl, q, HW.out⟩
  · have hl1 : ((a.length : Int) != (b.length : Int)) = true := by simpa using (by omega : ¬ (a.length : Int) = (b.length : Int))
    have HV : Hid (same a b = false) := same_no fun e => hl (by rw [e])
    clear hl
    go_enter Try.func78, Try.ntmps78
    go_wp2
    go_ret
    rw [HV.out]
    exact ⟨rfl, 0, rfl⟩

set_option maxHeartbeats 1600000 in
theorem eqT_any (u v : Value) (a b : List ByteArray) (w : World) (hn : a.length ≤ 1048576) (hn' : b.length ≤ 1048576) (h : SRow w u a) (h' : SRow w v b) :
    Calls Try.prog 26 #[u, v] w fun e w' => e = .returned (.bool (same a b)) ∧ ∃ q, w' = w.drewN q := by
  have HA : Hid (SRow w u a) := h
  have HB : Hid (SRow w v b) := h'
  obtain ⟨p, cap, rfl⟩ := h.slice
  obtain ⟨p', cap', rfl⟩ := h'.slice
  clear h h'
  by_cases hl : a.length = b.length
  · have hl1 : ((a.length : Int) != (b.length : Int)) = false := by rw [hl]; simp
    have HL : Hid (a.length = b.length) := hl
    go_enter Try.func26, Try.ntmps26
    clear hl
    go_wp2
    go_loopw [13] (fun iv wr => ∃ k q : Nat, iv = .int .i64 k ∧ k ≤ a.length ∧ (∀ i (h : i < a.length) (h' : i < b.length), i < k → a[i] = b[i]) ∧ wr = w.drewN q) (fun iv _ => a.length - (intOf iv).toNat)
    case atStart => exact ⟨0, 0, rfl, Nat.zero_le _, fun i _ _ h => by omega, rfl⟩
    case round =>
      obtain ⟨k, q, rfl, hk, hto, hwr⟩ := hrel
      have HTo : Hid (∀ i (h : i < a.length) (h' : i < b.length), i < k → a[i] = b[i]) := hto
      have HW : Hid (wr = w.drewN q) := hwr
      clear hto hwr
      by_cases hlt : k < a.length
      · have hlt' : k < b.length := by rw [← HL.out]; exact hlt
        obtain ⟨g, off, rfl, hc⟩ := HA.out.at hlt
        obtain ⟨g', off', rfl, hc'⟩ := HB.out.at hlt'
        have hd : wr.cell? ⟨g, off + k, none⟩ = some (.string a[k]) := by rw [HW.out]; exact hc
        have hd' : wr.cell? ⟨g', off' + k, none⟩ = some (.string b[k]) := by rw [HW.out]; exact hc'
        have i4 : (k : Int) < (a.length : Int) := by omega
        have i5 : (k : Int) < (b.length : Int) := by omega
        clear hc hc'
        by_cases he : a[k] = b[k]
        · have HN : Hid (∀ i (h : i < a.length) (h' : i < b.length), i < k + 1 → a[i] = b[i]) := fun i h1 h2 h3 => by
            by_cases e : i = k
            · subst e; exact he
            · exact HTo.out i h1 h2 (by omega)
          have q1 : (a[k].toList == b[k].toList) = true := beq_yes he
          have q2 : (a[k].toList != b[k].toList) = false := by rw [bne, beq_yes he]; rfl
          clear he HTo
          generalize a[k] = x at *
          generalize b[k] = y at *
          go_wp2
          go_quiet (fail)
          go_wp2
          go_roundw
          case rel => exact ⟨k + 1, q + nq, by go_num, by omega, HN.out, by rw [HW.out, World.drewN_drewN]⟩
          case measure => simp [intOf]; omega
        · have HV : Hid (same a b = false) := same_no (sm_no hlt hlt' he)
          have q1 : (a[k].toList == b[k].toList) = false := beq_no he
          have q2 : (a[k].toList != b[k].toList) = true := by rw [bne, beq_no he]; rfl
          clear he HTo
          generalize a[k] = x at *
          generalize b[k] = y at *
          go_wp2
          go_quiet (fail)
          go_wp2
          go_ret
          rw [HV.out]
          exact ⟨rfl, q + nq, by rw [HW.out, World.drewN_drewN]⟩
      · obtain rfl : k = a.length := by omega
        have HV : Hid (same a b = true) := same_yes (sm_all HL.out fun i h1 h2 => HTo.out i h1 h2 h1)
        clear HTo
        go_wp2
        go_ret
        rw [HV.out]
        exact ⟨rfl, q, HW.out⟩
  · have hl1 : ((a.length : Int) != (b.length : Int)) = true := by simpa using (by omega : ¬ (a.length : Int) = (b.length : Int))
    have HV : Hid (same a b = false) := same_no fun e => hl (by rw [e])
    clear hl
    go_enter Try.func26, Try.ntmps26
    go_wp2
    go_ret
    rw [HV.out]
    exact ⟨rfl, 0, rfl⟩

set_option maxHeartbeats 1600000 in
theorem sameExNode_any (r0 u0 : Value) (x y : NodeD) (w : World) (s0 : x.kids.length ≤ 1048576) (t0 : y.kids.length ≤ 1048576) (hh0 : IRow w r0 x.kids) (gg0 : IRow w u0 y.kids) :
    Calls Try.prog 77 #[.agg #[.int .i64 x.op, .int .i64 x.num, .string x.name, r0], .agg #[.int .i64 y.op, .int .i64 y.num, .string y.name, u0]] w fun e w' => e = .returned (.bool (same x y)) ∧ Below w.heap.size w w' := by
  have R0 : Hid (IRow w r0 x.kids) := hh0
  have U0 : Hid (IRow w u0 y.kids) := gg0
  obtain ⟨aa0, ca0, rfl⟩ := hh0.slice
  obtain ⟨ba0, da0, rfl⟩ := gg0.slice
  clear hh0 gg0
  have BW : Hid (Below w.heap.size w ((w.alloc (.cells #[.int .i64 x.op, .int .i64 x.num, .string x.name, .slice aa0 x.kids.length ca0] 72)).alloc (.cells #[.int .i64 y.op, .int .i64 y.num, .string y.name, .slice ba0 y.kids.length da0] 72))) := ((Below.refl _ _).alloc (Nat.le_refl _) _).alloc (by simp) _
  have n0 : ((w.alloc (.cells #[.int .i64 x.op, .int .i64 x.num, .string x.name, .slice aa0 x.kids.length ca0] 72)).alloc (.cells #[.int .i64 y.op, .int .i64 y.num, .string y.name, .slice ba0 y.kids.length da0] 72)).cell? ⟨w.heap.size, 0, none⟩ = some (.int .i64 x.op) := box_two _ _ _ _ _ 0 _ rfl
  have m0 : ((w.alloc (.cells #[.int .i64 x.op, .int .i64 x.num, .string x.name, .slice aa0 x.kids.length ca0] 72)).alloc (.cells #[.int .i64 y.op, .int .i64 y.num, .string y.name, .slice ba0 y.kids.length da0] 72)).cell? ⟨w.heap.size + 1, 0, none⟩ = some (.int .i64 y.op) := box_two' _ _ _ _ _ 0 _ rfl
  have n1 : ((w.alloc (.cells #[.int .i64 x.op, .int .i64 x.num, .string x.name, .slice aa0 x.kids.length ca0] 72)).alloc (.cells #[.int .i64 y.op, .int .i64 y.num, .string y.name, .slice ba0 y.kids.length da0] 72)).cell? ⟨w.heap.size, 1, none⟩ = some (.int .i64 x.num) := box_two _ _ _ _ _ 1 _ rfl
  have m1 : ((w.alloc (.cells #[.int .i64 x.op, .int .i64 x.num, .string x.name, .slice aa0 x.kids.length ca0] 72)).alloc (.cells #[.int .i64 y.op, .int .i64 y.num, .string y.name, .slice ba0 y.kids.length da0] 72)).cell? ⟨w.heap.size + 1, 1, none⟩ = some (.int .i64 y.num) := box_two' _ _ _ _ _ 1 _ rfl
  have n2 : ((w.alloc (.cells #[.int .i64 x.op, .int .i64 x.num, .string x.name, .slice aa0 x.kids.length ca0] 72)).alloc (.cells #[.int .i64 y.op, .int .i64 y.num, .string y.name, .slice ba0 y.kids.length da0] 72)).cell? ⟨w.heap.size, 2, none⟩ = some (.string x.name) := box_two _ _ _ _ _ 2 _ rfl
  have m2 : ((w.alloc (.cells #[.int .i64 x.op, .int .i64 x.num, .string x.name, .slice aa0 x.kids.length ca0] 72)).alloc (.cells #[.int .i64 y.op, .int .i64 y.num, .string y.name, .slice ba0 y.kids.length da0] 72)).cell? ⟨w.heap.size + 1, 2, none⟩ = some (.string y.name) := box_two' _ _ _ _ _ 2 _ rfl
  have n3 : ((w.alloc (.cells #[.int .i64 x.op, .int .i64 x.num, .string x.name, .slice aa0 x.kids.length ca0] 72)).alloc (.cells #[.int .i64 y.op, .int .i64 y.num, .string y.name, .slice ba0 y.kids.length da0] 72)).cell? ⟨w.heap.size, 3, none⟩ = some (.slice aa0 x.kids.length ca0) := box_two _ _ _ _ _ 3 _ rfl
  have m3 : ((w.alloc (.cells #[.int .i64 x.op, .int .i64 x.num, .string x.name, .slice aa0 x.kids.length ca0] 72)).alloc (.cells #[.int .i64 y.op, .int .i64 y.num, .string y.name, .slice ba0 y.kids.length da0] 72)).cell? ⟨w.heap.size + 1, 3, none⟩ = some (.slice ba0 y.kids.length da0) := box_two' _ _ _ _ _ 3 _ rfl
  have H0 : Hid (∀ W, Below w.heap.size w W → Calls Try.prog 78 #[.slice aa0 x.kids.length ca0, .slice ba0 y.kids.length da0] W fun e w' => e = .returned (.bool (same x.kids y.kids)) ∧ Below W.heap.size W w') := fun W hW => (eqI_any _ _ x.kids y.kids W s0 t0 (R0.out.below hW) (U0.out.below hW)).mono (by rintro e w' ⟨rfl, q, rfl⟩; exact ⟨rfl, bel_drewN (Below.refl _ _) q⟩)
  by_cases c0 : x.op = y.op
  · have d0 : (x.op == y.op) = true := by rw [c0]; simp
    have C0 : Hid (x.op = y.op) := c0
    clear c0
    by_cases c1 : x.num = y.num
    · have d1 : (x.num == y.num) = true := by rw [c1]; simp
      have C1 : Hid (x.num = y.num) := c1
      clear c1
      by_cases c2 : x.name = y.name
      · have d2 := beq_yes c2
        have C2 : Hid (x.name = y.name) := c2
        clear c2
        have HV : Hid (same x y = same x.kids y.kids) := by
          by_cases c3 : x.kids = y.kids
          · have c0 := C0.out; have c1 := C1.out; have c2 := C2.out; rw [Hid, same_yes c3]; exact same_yes (by cases x; cases y; simp only at *; subst_vars; rfl)
          · rw [Hid, same_no c3]; exact same_no fun e => c3 (by rw [e])
        go_enter Try.func77, Try.ntmps77
        go_wp2_with (go_at_call 78; refine (H0.out _ BW.out).mono ?_; rintro e w9 ⟨rfl, hb9⟩)
        go_ret
        rw [HV.out]
        exact ⟨rfl, BW.out.trans (hb9.mono BW.out.size)⟩
      · have d2 := beq_no c2
        have HV : Hid (same x y = false) := same_no fun e => c2 (by rw [e])
        clear c2
        go_enter Try.func77, Try.ntmps77
        go_wp2
        go_ret
        rw [HV.out]
        exact ⟨rfl, BW.out⟩
    · have d1 : (x.num == y.num) = false := by simpa using c1
      have HV : Hid (same x y = false) := same_no fun e => c1 (by rw [e])
      clear c1
      go_enter Try.func77, Try.ntmps77
      go_wp2
      go_ret
      rw [HV.out]
      exact ⟨rfl, BW.out⟩
  · have d0 : (x.op == y.op) = false := by simpa using c0
    have HV : Hid (same x y = false) := same_no fun e => c0 (by rw [e])
    clear c0
    go_enter Try.func77, Try.ntmps77
    go_wp2
    go_ret
    rw [HV.out]
    exact ⟨rfl, BW.out⟩

set_option maxHeartbeats 3200000 in
set_option maxRecDepth 100000 in
theorem eqfExNode_any (u v : Value) (a b : List (NodeD)) (w : World) (hn : nodesTot a ≤ 1048576) (hn' : nodesTot b ≤ 1048576) (h : NRow w u a) (h' : NRow w v b) :
    Calls Try.prog 76 #[u, v, .func (.func 77) #[] #[]] w fun e w' => e = .returned (.bool (same a b)) ∧ Below w.heap.size w w' := by
  have HA : Hid (NRow w u a) := h
  have HB : Hid (NRow w v b) := h'
  have hla : a.length ≤ 1048576 := Nat.le_trans (Nat.le_add_right _ _) hn
  have hlb : b.length ≤ 1048576 := Nat.le_trans (Nat.le_add_right _ _) hn'
  obtain ⟨p, cap, rfl⟩ := h.slice
  obtain ⟨p', cap', rfl⟩ := h'.slice
  clear h h'
  by_cases hl : a.length = b.length
  rotate_left
  · have hl1 : ((a.length : Int) != (b.length : Int)) = true := by simpa using (by omega : ¬ (a.length : Int) = (b.length : Int))
    have HV : Hid (same a b = false) := same_no fun e => hl (by rw [e])
    clear hl
    go_enter Try.func76, Try.ntmps76
    go_wp2
    go_ret
    rw [HV.out]
    exact ⟨rfl, Below.refl _ _⟩
  have hl1 : ((a.length : Int) != (b.length : Int)) = false := by rw [hl]; simp
  have HL : Hid (a.length = b.length) := hl
  go_enter Try.func76, Try.ntmps76
  clear hl
  go_wp2
  go_loopw [17] (fun iv wr => ∃ k : Nat, iv = .int .i64 k ∧ k ≤ a.length ∧ (∀ i (h : i < a.length) (h' : i < b.length), i < k → a[i] = b[i]) ∧ Below w.heap.size w wr) (fun iv _ => a.length - (intOf iv).toNat)
  case atStart => exact ⟨0, rfl, Nat.zero_le _, fun i _ _ h => by omega, Below.refl _ _⟩
  case round =>
    obtain ⟨k, rfl, hk, hto, hbw⟩ := hrel
    have HTo : Hid (∀ i (h : i < a.length) (h' : i < b.length), i < k → a[i] = b[i]) := hto
    have BW : Hid (Below w.heap.size w wr) := hbw
    clear hto hbw
    by_cases hlt : k < a.length
    · have hlt' : k < b.length := by rw [← HL.out]; exact hlt
      have tot_a : a[k].name.size + a[k].kids.length ≤ 1048576 := Nat.le_trans (sum_mem (fun x : NodeD => x.name.size + x.kids.length) (List.getElem_mem hlt)) (Nat.le_trans (Nat.le_add_left _ _) hn)
      have za0 : a[k].kids.length ≤ 1048576 := by omega
      clear tot_a
      have tot_b : b[k].name.size + b[k].kids.length ≤ 1048576 := Nat.le_trans (sum_mem (fun x : NodeD => x.name.size + x.kids.length) (List.getElem_mem hlt')) (Nat.le_trans (Nat.le_add_left _ _) hn')
      have zb0 : b[k].kids.length ≤ 1048576 := by omega
      clear tot_b
      obtain ⟨g, off, r0, rfl, hc⟩ := (HA.out.below BW.out).at hlt
      obtain ⟨n0, n1, n2, n3, hh0⟩ := hc
      obtain ⟨g', off', u0, rfl, hc'⟩ := (HB.out.below BW.out).at hlt'
      obtain ⟨m0, m1, m2, m3, gg0⟩ := hc'
      have i4 : (k : Int) < (a.length : Int) := by omega
      have i5 : (k : Int) < (b.length : Int) := by omega
      have HE : Hid (∀ W, Below wr.heap.size wr W → _) := fun W hW => sameExNode_any r0 u0 a[k] b[k] W za0 zb0 (hh0.below hW) (gg0.below hW)
      obtain ⟨aa0, ca0, rfl⟩ := hh0.slice
      obtain ⟨ba0, da0, rfl⟩ := gg0.slice
      clear hh0 gg0 za0 zb0
      have M0 := cell_keep m0 (show Below wr.heap.size wr (wr.alloc (.cells #[.int .i64 a[k].op, .int .i64 a[k].num, .string a[k].name, .slice aa0 a[k].kids.length ca0] 72)) from (Below.refl _ _).alloc (Nat.le_refl _) _)
      have M1 := cell_keep m1 (show Below wr.heap.size wr (wr.alloc (.cells #[.int .i64 a[k].op, .int .i64 a[k].num, .string a[k].name, .slice aa0 a[k].kids.length ca0] 72)) from (Below.refl _ _).alloc (Nat.le_refl _) _)
      have M2 := cell_keep m2 (show Below wr.heap.size wr (wr.alloc (.cells #[.int .i64 a[k].op, .int .i64 a[k].num, .string a[k].name, .slice aa0 a[k].kids.length ca0] 72)) from (Below.refl _ _).alloc (Nat.le_refl _) _)
      have M3 := cell_keep m3 (show Below wr.heap.size wr (wr.alloc (.cells #[.int .i64 a[k].op, .int .i64 a[k].num, .string a[k].name, .slice aa0 a[k].kids.length ca0] 72)) from (Below.refl _ _).alloc (Nat.le_refl _) _)
      have BA : Hid (Below wr.heap.size wr ((wr.alloc (.cells #[.int .i64 a[k].op, .int .i64 a[k].num, .string a[k].name, .slice aa0 a[k].kids.length ca0] 72)).alloc (.cells #[.int .i64 b[k].op, .int .i64 b[k].num, .string b[k].name, .slice ba0 b[k].kids.length da0] 72))) := ((Below.refl _ _).alloc (Nat.le_refl _) _).alloc (by simp) _
      by_cases he : a[k] = b[k]
      · have HN : Hid (∀ i (h : i < a.length) (h' : i < b.length), i < k + 1 → a[i] = b[i]) := fun i h1 h2 h3 => by
          by_cases e : i = k
          · subst e; exact he
          · exact HTo.out i h1 h2 (by omega)
        have HS := same_yes he
        clear he HTo
        go_wp2_with fail
        refine (HE.out _ BA.out).mono ?_
        rintro e w1 ⟨rfl, hb1⟩
        rw [HS]
        have HB1 : Hid (Below w.heap.size w w1) := (BW.out.trans (BA.out.mono BW.out.size)).trans (hb1.mono (Nat.le_trans BW.out.size BA.out.size))
        clear hb1
        go_wp2
        go_roundw
        case rel => exact ⟨k + 1, by go_num, by omega, HN.out, HB1.out⟩
        case measure => simp [intOf]; omega
      · have HV : Hid (same a b = false) := same_no (sm_no hlt hlt' he)
        have HS := same_no he
        clear he HTo
        go_wp2_with fail
        refine (HE.out _ BA.out).mono ?_
        rintro e w1 ⟨rfl, hb1⟩
        rw [HS]
        have HB1 : Hid (Below w.heap.size w w1) := (BW.out.trans (BA.out.mono BW.out.size)).trans (hb1.mono (Nat.le_trans BW.out.size BA.out.size))
        clear hb1
        go_wp2
        go_ret
        rw [HV.out]
        exact ⟨rfl, HB1.out⟩
    · obtain rfl : k = a.length := by omega
      have HV : Hid (same a b = true) := same_yes (sm_all HL.out fun i h1 h2 => HTo.out i h1 h2 h1)
      clear HTo
      go_wp2
      go_ret
      rw [HV.out]
      exact ⟨rfl, BW.out⟩

end Go.Proofs.Ytipkbkhnaekceaa
