/- The specification's l11SameExprs. -/
import Derived.Test.YtipkbkhnaekceaaSmS
namespace Go.Proofs.Ytipkbkhnaekceaa
open Go.RowKit
set_option linter.unusedVariables false

theorem exprRow_at {w : World} {a : Option Addr} {n cap k : Nat} {xs : List (List NodeD)} (h : RowC 1 ExprE w (.slice a n cap) xs) (hk : k < xs.length) :
    ∃ g off aa ca, a = some ⟨g, off, none⟩ ∧ w.cell? ⟨g, off + k, none⟩ = some (.slice aa xs[k].length ca) ∧ NRow w (.slice aa xs[k].length ca) xs[k] := by
  obtain ⟨g, off, vs, rfl, _, hc, r0, rfl, hh⟩ := h.at hk
  obtain ⟨aa, ca, rfl⟩ := hh.slice
  refine ⟨g, off, aa, ca, rfl, ?_, hh⟩
  have h := hc 0 (by simp)
  rw [Nat.mul_one] at h
  exact h

set_option maxHeartbeats 6400000 in
set_option maxRecDepth 100000 in
theorem smE_any (u v : Value) (a b : List (List NodeD)) (w : World) (hn : rowTot exprTot a ≤ 1048576) (hn' : rowTot exprTot b ≤ 1048576) (h : RowC 1 ExprE w u a) (h' : RowC 1 ExprE w v b) :
    Calls Try.prog 21 #[u, v] w fun e w' => e = .returned (.bool (same a b)) ∧ Below w.heap.size w w' := by
  have HA : Hid (RowC 1 ExprE w u a) := h
  have HB : Hid (RowC 1 ExprE w v b) := h'
  have hla : a.length ≤ 1048576 := Nat.le_trans (rowTot_len _ _) hn
  have hlb : b.length ≤ 1048576 := Nat.le_trans (rowTot_len _ _) hn'
  obtain ⟨p, cap, rfl⟩ := h.slice
  obtain ⟨p', cap', rfl⟩ := h'.slice
  clear h h'
  by_cases hl : a.length = b.length
  rotate_left
  · have hl1 : ((a.length : Int) != (b.length : Int)) = true := by simpa using (by omega : ¬ (a.length : Int) = (b.length : Int))
    have HV : Hid (same a b = false) := same_no fun e => hl (by rw [e])
    clear hl
    go_enter Try.func21, Try.ntmps21
    go_wp2
    go_ret
    rw [HV.out]
    exact ⟨rfl, Below.refl _ _⟩
  have hl1 : ((a.length : Int) != (b.length : Int)) = false := by rw [hl]; simp
  have HL : Hid (a.length = b.length) := hl
  go_enter Try.func21, Try.ntmps21
  clear hl
  go_wp2
  go_loopw [5] (fun iv wr => ∃ k : Nat, iv = .int .i64 k ∧ k ≤ a.length ∧ (∀ i (h : i < a.length) (h' : i < b.length), i < k → a[i] = b[i]) ∧ Below w.heap.size w wr) (fun iv _ => a.length - (intOf iv).toNat)
  case atStart => exact ⟨0, rfl, Nat.zero_le _, fun i _ _ h => by omega, Below.refl _ _⟩
  case round =>
    obtain ⟨k, rfl, hk, hto, hbw⟩ := hrel
    have HTo : Hid (∀ i (h : i < a.length) (h' : i < b.length), i < k → a[i] = b[i]) := hto
    have BW : Hid (Below w.heap.size w wr) := hbw
    clear hto hbw
    by_cases hlt : k < a.length
    rotate_left
    · obtain rfl : k = a.length := by omega
      have HV : Hid (same a b = true) := same_yes (sm_all HL.out fun i h1 h2 => HTo.out i h1 h2 h1)
      clear HTo
      go_wp2
      go_ret
      rw [HV.out]
      exact ⟨rfl, BW.out⟩
    have hlt' : k < b.length := by rw [← HL.out]; exact hlt
    have ta : nodesTot a[k] ≤ 1048576 := Nat.le_trans (rowTot_mem exprTot (List.getElem_mem hlt)) hn
    have tb : nodesTot b[k] ≤ 1048576 := Nat.le_trans (rowTot_mem exprTot (List.getElem_mem hlt')) hn'
    obtain ⟨g, off, aa, ca, rfl, n0, hA⟩ := exprRow_at (RowC.below ExprE_stable HA.out BW.out) hlt
    obtain ⟨g', off', ba, da, rfl, m0, hB⟩ := exprRow_at (RowC.below ExprE_stable HB.out BW.out) hlt'
    have RA : Hid (NRow wr (.slice aa a[k].length ca) a[k]) := hA
    have RB : Hid (NRow wr (.slice ba b[k].length da) b[k]) := hB
    have i4 : (k : Int) < (a.length : Int) := by omega
    have i5 : (k : Int) < (b.length : Int) := by omega
    have za : a[k].length ≤ 1048576 := Nat.le_trans (Nat.le_add_right _ _) ta
    have zb : b[k].length ≤ 1048576 := Nat.le_trans (Nat.le_add_right _ _) tb
    have HTa : Hid (nodesTot a[k] ≤ 1048576) := ta
    have HTb : Hid (nodesTot b[k] ≤ 1048576) := tb
    have HNo : Hid (¬ a[k] = b[k] → same a b = false) := fun he => same_no (sm_no hlt hlt' he)
    have HYes : Hid (a[k] = b[k] → ∀ i (h : i < a.length) (h' : i < b.length), i < k + 1 → a[i] = b[i]) := fun he i h1 h2 h3 => by
      by_cases e : i = k
      · subst e; exact he
      · exact HTo.out i h1 h2 (by omega)
    clear hA hB ta tb HTo
    generalize a[k] = x at *
    generalize b[k] = y at *
    by_cases hxl : x.length = y.length
    rotate_left
    · have hx1 : ((x.length : Int) != (y.length : Int)) = true := by simpa using (by omega : ¬ (x.length : Int) = (y.length : Int))
      have HV : Hid (same a b = false) := HNo.out fun e => hxl (by rw [e])
      clear hxl
      go_wp2
      go_quiet (fail)
      go_wp2
      go_ret
      rw [HV.out]
      exact ⟨rfl, bel_drewN BW.out _⟩
    have hx1 : ((x.length : Int) != (y.length : Int)) = false := by rw [hxl]; simp
    have HXL : Hid (x.length = y.length) := hxl
    clear hxl
    go_wp2
    go_quiet (fail)
    have BN : Hid (Below w.heap.size w (wr.drewN nq)) := bel_drewN BW.out _
    have RAn : Hid (NRow (wr.drewN nq) (.slice aa x.length ca) x) := RA.out.below (bel_drewN (Below.refl _ _) _)
    have RBn : Hid (NRow (wr.drewN nq) (.slice ba y.length da) y) := RB.out.below (bel_drewN (Below.refl _ _) _)
    have n0' : (wr.drewN nq).cell? ⟨g, off + k, none⟩ = some (.slice aa x.length ca) := cell_keep n0 (bel_drewN (Below.refl _ _) _)
    have m0' : (wr.drewN nq).cell? ⟨g', off' + k, none⟩ = some (.slice ba y.length da) := cell_keep m0 (bel_drewN (Below.refl _ _) _)
    clear n0 m0 RA RB BW
    generalize wr.drewN nq = wn at *
    go_wp2
    go_loopw [6] (fun iv wr => ∃ j : Nat, iv = .int .i64 j ∧ j ≤ x.length ∧ (∀ i (h : i < x.length) (h' : i < y.length), i < j → x[i] = y[i]) ∧ Below wn.heap.size wn wr) (fun iv _ => x.length - (intOf iv).toNat)
    case atStart => exact ⟨0, rfl, Nat.zero_le _, fun i _ _ h => by omega, Below.refl _ _⟩
    case round =>
      obtain ⟨j, rfl, hj, hto, hbr⟩ := hrel
      have HTo : Hid (∀ i (h : i < x.length) (h' : i < y.length), i < j → x[i] = y[i]) := hto
      have BR : Hid (Below wn.heap.size wn wr) := hbr
      have n0 := cell_keep n0' hbr
      have m0 := cell_keep m0' hbr
      clear hto hbr
      by_cases hjt : j < x.length
      rotate_left
      · obtain rfl : j = x.length := by omega
        have HN : Hid (∀ i (h : i < a.length) (h' : i < b.length), i < k + 1 → a[i] = b[i]) := HYes.out (sm_all HXL.out fun i h1 h2 => HTo.out i h1 h2 h1)
        have HB3 : Hid (Below w.heap.size w wr) := BN.out.trans (BR.out.mono BN.out.size)
        clear HTo
        go_wp2
        go_roundw
        case rel => exact ⟨k + 1, by go_num, by omega, HN.out, HB3.out⟩
        case measure => simp [intOf]; omega
      have hjt' : j < y.length := by rw [← HXL.out]; exact hjt
      have tA : x[j].kids.length ≤ 1048576 := by
        have h1 := sum_mem (fun x : NodeD => x.name.size + x.kids.length) (List.getElem_mem hjt)
        have h2 := HTa.out
        unfold nodesTot at h2
        have h3 : x[j].name.size + x[j].kids.length ≤ (x.map fun x : NodeD => x.name.size + x.kids.length).sum := h1
        omega
      have tB : y[j].kids.length ≤ 1048576 := by
        have h1 := sum_mem (fun x : NodeD => x.name.size + x.kids.length) (List.getElem_mem hjt')
        have h2 := HTb.out
        unfold nodesTot at h2
        have h3 : y[j].name.size + y[j].kids.length ≤ (y.map fun x : NodeD => x.name.size + x.kids.length).sum := h1
        omega
      obtain ⟨e, eo, kx, rfl, p0, p1, p2, p3, hkx⟩ := (RAn.out.below BR.out).at hjt
      obtain ⟨e', eo', ky, rfl, o0, o1, o2, o3, hky⟩ := (RBn.out.below BR.out).at hjt'
      have i6 : (j : Int) < (x.length : Int) := by omega
      have i7 : (j : Int) < (y.length : Int) := by omega
      have HKx : Hid (IRow wr kx x[j].kids) := hkx
      have HKy : Hid (IRow wr ky y[j].kids) := hky
      obtain ⟨ax, cx, rfl⟩ := hkx.slice
      obtain ⟨ay, cy, rfl⟩ := hky.slice
      clear hkx hky
      have HNo2 : Hid (¬ x[j] = y[j] → same a b = false) := fun he => HNo.out (sm_no hjt hjt' he)
      have HYes2 : Hid (x[j] = y[j] → ∀ i (h : i < x.length) (h' : i < y.length), i < j + 1 → x[i] = y[i]) := fun he i h1 h2 h3 => by
        by_cases e : i = j
        · subst e; exact he
        · exact HTo.out i h1 h2 (by omega)
      clear HTo
      generalize x[j] = s at *
      generalize y[j] = t at *
      have bal : Below wr.heap.size wr (wr.alloc (.cells #[.int .i64 s.op, .int .i64 s.num, .string s.name, .slice ax s.kids.length cx] 72)) := (Below.refl _ _).alloc (Nat.le_refl _) _
      have q0 := cell_keep o0 bal
      have q1 := cell_keep o1 bal
      have q2 := cell_keep o2 bal
      have q3 := cell_keep o3 bal
      have q4 := cell_keep m0 bal
      have BAL : Hid (Below w.heap.size w ((wr.alloc (.cells #[.int .i64 s.op, .int .i64 s.num, .string s.name, .slice ax s.kids.length cx] 72)).alloc (.cells #[.int .i64 t.op, .int .i64 t.num, .string t.name, .slice ay t.kids.length cy] 72))) := ((BN.out.trans (BR.out.mono BN.out.size)).alloc (Nat.le_trans BN.out.size BR.out.size) _).alloc (by simp; exact Nat.le_succ_of_le (Nat.le_trans BN.out.size BR.out.size)) _
      have BAR : Hid (Below wn.heap.size wn ((wr.alloc (.cells #[.int .i64 s.op, .int .i64 s.num, .string s.name, .slice ax s.kids.length cx] 72)).alloc (.cells #[.int .i64 t.op, .int .i64 t.num, .string t.name, .slice ay t.kids.length cy] 72))) := (BR.out.alloc BR.out.size _).alloc (by simp; exact Nat.le_succ_of_le BR.out.size) _
      have BA2 : Hid (Below wr.heap.size wr ((wr.alloc (.cells #[.int .i64 s.op, .int .i64 s.num, .string s.name, .slice ax s.kids.length cx] 72)).alloc (.cells #[.int .i64 t.op, .int .i64 t.num, .string t.name, .slice ay t.kids.length cy] 72))) := ((Below.refl _ _).alloc (Nat.le_refl _) _).alloc (by simp) _
      have HC : Hid (∀ _ : Unit, _) := fun _ => smI_any (.slice ax s.kids.length cx) (.slice ay t.kids.length cy) s.kids t.kids _ tA tB (HKx.out.below BA2.out) (HKy.out.below BA2.out)
      clear bal
      by_cases c0 : s.op = t.op
      rotate_left
      · have d0 : (s.op != t.op) = true := by simpa using c0
        have HV : Hid (same a b = false) := HNo2.out fun e => c0 (by rw [e])
        clear c0
        go_wp2
        go_ret
        rw [HV.out]
        exact ⟨rfl, BAL.out⟩
      have d0 : (s.op != t.op) = false := by rw [c0]; simp
      have C0 : Hid (s.op = t.op) := c0
      clear c0
      by_cases c1 : s.num = t.num
      rotate_left
      · have d1 : (s.num != t.num) = true := by simpa using c1
        have HV : Hid (same a b = false) := HNo2.out fun e => c1 (by rw [e])
        clear c1
        go_wp2
        go_ret
        rw [HV.out]
        exact ⟨rfl, BAL.out⟩
      have d1 : (s.num != t.num) = false := by rw [c1]; simp
      have C1 : Hid (s.num = t.num) := c1
      clear c1
      by_cases c2 : s.name = t.name
      rotate_left
      · have d2 := beq_no c2
        have d2' : (s.name.toList != t.name.toList) = true := by rw [bne, d2]; rfl
        have HV : Hid (same a b = false) := HNo2.out fun e => c2 (by rw [e])
        clear c2
        go_wp2
        go_ret
        rw [HV.out]
        exact ⟨rfl, BAL.out⟩
      have d2 := beq_yes c2
      have d2' : (s.name.toList != t.name.toList) = false := by rw [bne, d2]; rfl
      have C2 : Hid (s.name = t.name) := c2
      clear c2
      by_cases c3 : s.kids = t.kids
      rotate_left
      · have HS := same_no c3
        have HV : Hid (same a b = false) := HNo2.out fun e => c3 (by rw [e])
        clear c3
        go_wp2_with fail
        refine (HC.out ()).mono ?_
        rintro e w1 ⟨rfl, q, rfl⟩
        rw [HS]
        go_wp2
        go_ret
        rw [HV.out]
        exact ⟨rfl, bel_drewN BAL.out _⟩
      have HS := same_yes c3
      have HST : Hid (s = t) := by
        have e0 := C0.out
        have e1 := C1.out
        have e2 := C2.out
        rw [Hid]
        cases s; cases t
        simp only at *
        subst_vars
        rfl
      clear c3
      go_wp2_with fail
      refine (HC.out ()).mono ?_
      rintro e w1 ⟨rfl, q, rfl⟩
      rw [HS]
      go_wp2
      have HN : Hid (∀ i (h : i < x.length) (h' : i < y.length), i < j + 1 → x[i] = y[i]) := HYes2.out HST.out
      go_roundw
      case rel => exact ⟨j + 1, by go_num, by omega, HN.out, bel_drewN BAR.out _⟩
      case measure => simp [intOf]; omega

end Go.Proofs.Ytipkbkhnaekceaa
