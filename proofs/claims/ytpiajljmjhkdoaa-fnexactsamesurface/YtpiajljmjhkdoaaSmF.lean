/- SameSurface: the specification's and the program's. -/
import Derived.Test.YtpiajljmjhkdoaaSmE
import Derived.Test.YtpiajljmjhkdoaaSmB
namespace Go.Proofs.Ytpiajljmjhkdoaa
open Go.RowKit
set_option linter.unusedVariables false

theorem snode_at {w : World} {a : Option Addr} {n cap i : Nat} {ns : List SNodeD} (h : RowC 5 SNodeE w (.slice a n cap) ns) (hi : i < ns.length) :
    ∃ b off aa ca ka ck, a = some ⟨b, off, none⟩ ∧ w.cell? ⟨b, off + i * 5, none⟩ = some (.int .i64 ns[i].kind) ∧ w.cell? ⟨b, off + i * 5 + 1, none⟩ = some (.string ns[i].text) ∧ w.cell? ⟨b, off + i * 5 + 2, none⟩ = some (.slice aa ns[i].args.length ca) ∧ w.cell? ⟨b, off + i * 5 + 3, none⟩ = some (.string ns[i].bind) ∧ w.cell? ⟨b, off + i * 5 + 4, none⟩ = some (.slice ka ns[i].kids.length ck) ∧ RowC 1 ExprE w (.slice aa ns[i].args.length ca) ns[i].args ∧ IRow w (.slice ka ns[i].kids.length ck) ns[i].kids := by
  obtain ⟨b, off, vs, rfl, _, hc, r0, r1, rfl, h0, h1⟩ := RowC.at h hi
  obtain ⟨aa, ca, rfl⟩ := h0.slice
  obtain ⟨ka, ck, rfl⟩ := h1.slice
  exact ⟨b, off, aa, ca, ka, ck, rfl, hc 0 (by simp), hc 1 (by simp), hc 2 (by simp), hc 3 (by simp), hc 4 (by simp), h0, h1⟩
theorem srule_at {w : World} {a : Option Addr} {n cap i : Nat} {rs : List SRuleD} (h : RowC 3 SRuleE w (.slice a n cap) rs) (hi : i < rs.length) :
    ∃ b off pa pc, a = some ⟨b, off, none⟩ ∧ w.cell? ⟨b, off + i * 3, none⟩ = some (.string rs[i].name) ∧ w.cell? ⟨b, off + i * 3 + 1, none⟩ = some (.slice pa rs[i].params.length pc) ∧ w.cell? ⟨b, off + i * 3 + 2, none⟩ = some (.int .i64 rs[i].body) ∧ SRow w (.slice pa rs[i].params.length pc) rs[i].params := by
  obtain ⟨b, off, vs, rfl, _, hc, r0, rfl, h0⟩ := RowC.at h hi
  obtain ⟨pa, pc, rfl⟩ := h0.slice
  exact ⟨b, off, pa, pc, rfl, hc 0 (by simp), hc 1 (by simp), hc 2 (by simp), h0⟩
theorem surf_eq {x y : SurfD} (h : x.nodes = y.nodes) (h' : x.rules = y.rules) : x = y := by
  cases x; cases y
  simp only at *
  subst_vars
  rfl

set_option maxHeartbeats 1600000 in
theorem implSame_any (nv rv nv' rv' : Value) (x y : SurfD) (w : World) (hx : surfaceTot x ≤ 1048576) (hy : surfaceTot y ≤ 1048576) (h0 : RowC 5 SNodeE w nv x.nodes) (h1 : RowC 3 SRuleE w rv x.rules) (h2 : RowC 5 SNodeE w nv' y.nodes) (h3 : RowC 3 SRuleE w rv' y.rules) :
    Calls Try.prog 7 #[.agg #[nv, rv], .agg #[nv', rv']] w fun e w' => e = .returned (.bool (same x y)) ∧ Below w.heap.size w w' := by
  have R0 : Hid (RowC 5 SNodeE w nv x.nodes) := h0
  have R1 : Hid (RowC 3 SRuleE w rv x.rules) := h1
  have R2 : Hid (RowC 5 SNodeE w nv' y.nodes) := h2
  have R3 : Hid (RowC 3 SRuleE w rv' y.rules) := h3
  obtain ⟨a0, c0, rfl⟩ := h0.slice
  obtain ⟨a1, c1, rfl⟩ := h1.slice
  obtain ⟨a2, c2, rfl⟩ := h2.slice
  obtain ⟨a3, c3, rfl⟩ := h3.slice
  clear h0 h1 h2 h3
  have t0 : rowTot sNodeTot x.nodes ≤ 1048576 := by unfold surfaceTot at hx; omega
  have t1 : rowTot sRuleTot x.rules ≤ 1048576 := by unfold surfaceTot at hx; omega
  have t2 : rowTot sNodeTot y.nodes ≤ 1048576 := by unfold surfaceTot at hy; omega
  have t3 : rowTot sRuleTot y.rules ≤ 1048576 := by unfold surfaceTot at hy; omega
  have BW : Hid (Below w.heap.size w ((w.alloc (.cells #[.slice a0 x.nodes.length c0, .slice a1 x.rules.length c1] 31)).alloc (.cells #[.slice a2 y.nodes.length c2, .slice a3 y.rules.length c3] 31))) := ((Below.refl _ _).alloc (Nat.le_refl _) _).alloc (by simp) _
  have e0 : ((w.alloc (.cells #[.slice a0 x.nodes.length c0, .slice a1 x.rules.length c1] 31)).alloc (.cells #[.slice a2 y.nodes.length c2, .slice a3 y.rules.length c3] 31)).cell? ⟨w.heap.size, 0, none⟩ = some (.slice a0 x.nodes.length c0) := box_two _ _ _ _ _ 0 _ rfl
  have e1 : ((w.alloc (.cells #[.slice a0 x.nodes.length c0, .slice a1 x.rules.length c1] 31)).alloc (.cells #[.slice a2 y.nodes.length c2, .slice a3 y.rules.length c3] 31)).cell? ⟨w.heap.size, 1, none⟩ = some (.slice a1 x.rules.length c1) := box_two _ _ _ _ _ 1 _ rfl
  have e2 : ((w.alloc (.cells #[.slice a0 x.nodes.length c0, .slice a1 x.rules.length c1] 31)).alloc (.cells #[.slice a2 y.nodes.length c2, .slice a3 y.rules.length c3] 31)).cell? ⟨w.heap.size + 1, 0, none⟩ = some (.slice a2 y.nodes.length c2) := box_two' _ _ _ _ _ 0 _ rfl
  have e3 : ((w.alloc (.cells #[.slice a0 x.nodes.length c0, .slice a1 x.rules.length c1] 31)).alloc (.cells #[.slice a2 y.nodes.length c2, .slice a3 y.rules.length c3] 31)).cell? ⟨w.heap.size + 1, 1, none⟩ = some (.slice a3 y.rules.length c3) := box_two' _ _ _ _ _ 1 _ rfl
  have HN : Hid (∀ W, Below w.heap.size w W → _) := fun W hW => eqfSNode_any (.slice a0 x.nodes.length c0) (.slice a2 y.nodes.length c2) x.nodes y.nodes W t0 t2 (RowC.below SNodeE_stable R0.out hW) (RowC.below SNodeE_stable R2.out hW)
  have HR : Hid (∀ W, Below w.heap.size w W → _) := fun W hW => eqfSRule_any (.slice a1 x.rules.length c1) (.slice a3 y.rules.length c3) x.rules y.rules W t1 t3 (RowC.below SRuleE_stable R1.out hW) (RowC.below SRuleE_stable R3.out hW)
  clear hx hy t0 t1 t2 t3
  by_cases d0 : x.nodes = y.nodes
  · have HS := same_yes d0
    have HV : Hid (same x y = same x.rules y.rules) := by
      by_cases d1 : x.rules = y.rules
      · rw [Hid, same_yes d1, same_yes (surf_eq d0 d1)]
      · rw [Hid, same_no d1, same_no fun e => d1 (by rw [e])]
    clear d0
    go_enter Try.func7, Try.ntmps7
    go_wp2_with fail
    refine (HN.out _ BW.out).mono ?_
    rintro e w1 ⟨rfl, hb1⟩
    rw [HS]
    have B1 : Hid (Below w.heap.size w w1) := BW.out.trans (hb1.mono BW.out.size)
    have f1 := cell_keep e1 hb1
    have f3 := cell_keep e3 hb1
    clear hb1 HS
    go_wp2_with (go_at_call 18; refine (HR.out _ B1.out).mono ?_; rintro e w2 ⟨rfl, hb2⟩)
    go_ret
    rw [HV.out]
    exact ⟨rfl, B1.out.trans (hb2.mono B1.out.size)⟩
  · have HS := same_no d0
    have HV : Hid (same x y = false) := same_no fun e => d0 (by rw [e])
    clear d0
    go_enter Try.func7, Try.ntmps7
    go_wp2_with fail
    refine (HN.out _ BW.out).mono ?_
    rintro e w1 ⟨rfl, hb1⟩
    rw [HS]
    have B1 : Hid (Below w.heap.size w w1) := BW.out.trans (hb1.mono BW.out.size)
    clear hb1 HS
    go_wp2
    go_ret
    rw [HV.out]
    exact ⟨rfl, B1.out⟩

set_option maxHeartbeats 6400000 in
set_option maxRecDepth 100000 in
theorem specSame_any (nv rv nv' rv' : Value) (x y : SurfD) (w : World) (hx : surfaceTot x ≤ 1048576) (hy : surfaceTot y ≤ 1048576) (h0 : RowC 5 SNodeE w nv x.nodes) (h1 : RowC 3 SRuleE w rv x.rules) (h2 : RowC 5 SNodeE w nv' y.nodes) (h3 : RowC 3 SRuleE w rv' y.rules) :
    Calls Try.prog 5 #[.agg #[nv, rv], .agg #[nv', rv']] w fun e w' => e = .returned (.bool (same x y)) ∧ Below w.heap.size w w' := by
  have R0 : Hid (RowC 5 SNodeE w nv x.nodes) := h0
  have R1 : Hid (RowC 3 SRuleE w rv x.rules) := h1
  have R2 : Hid (RowC 5 SNodeE w nv' y.nodes) := h2
  have R3 : Hid (RowC 3 SRuleE w rv' y.rules) := h3
  obtain ⟨a0, c0, rfl⟩ := h0.slice
  obtain ⟨a1, c1, rfl⟩ := h1.slice
  obtain ⟨a2, c2, rfl⟩ := h2.slice
  obtain ⟨a3, c3, rfl⟩ := h3.slice
  clear h0 h1 h2 h3
  have t0 : rowTot sNodeTot x.nodes ≤ 1048576 := by unfold surfaceTot at hx; omega
  have t1 : rowTot sRuleTot x.rules ≤ 1048576 := by unfold surfaceTot at hx; omega
  have t2 : rowTot sNodeTot y.nodes ≤ 1048576 := by unfold surfaceTot at hy; omega
  have t3 : rowTot sRuleTot y.rules ≤ 1048576 := by unfold surfaceTot at hy; omega
  have l0 := Nat.le_trans (rowTot_len sNodeTot x.nodes) t0
  have l1 := Nat.le_trans (rowTot_len sRuleTot x.rules) t1
  have l2 := Nat.le_trans (rowTot_len sNodeTot y.nodes) t2
  have l3 := Nat.le_trans (rowTot_len sRuleTot y.rules) t3
  have HVn : Hid (¬ x.nodes = y.nodes → same x y = false) := fun h => same_no fun e => h (by rw [e])
  have HVr : Hid (¬ x.rules = y.rules → same x y = false) := fun h => same_no fun e => h (by rw [e])
  have HVy : Hid (x.nodes = y.nodes → x.rules = y.rules → same x y = true) := fun h h' => same_yes (surf_eq h h')
  clear hx hy
  generalize x.nodes = xn at *
  generalize x.rules = xr at *
  generalize y.nodes = yn at *
  generalize y.rules = yr at *
  have BW : Hid (Below w.heap.size w ((w.alloc (.cells #[.slice a0 xn.length c0, .slice a1 xr.length c1] 31)).alloc (.cells #[.slice a2 yn.length c2, .slice a3 yr.length c3] 31))) := ((Below.refl _ _).alloc (Nat.le_refl _) _).alloc (by simp) _
  have e0 : ((w.alloc (.cells #[.slice a0 xn.length c0, .slice a1 xr.length c1] 31)).alloc (.cells #[.slice a2 yn.length c2, .slice a3 yr.length c3] 31)).cell? ⟨w.heap.size, 0, none⟩ = some (.slice a0 xn.length c0) := box_two _ _ _ _ _ 0 _ rfl
  have e1 : ((w.alloc (.cells #[.slice a0 xn.length c0, .slice a1 xr.length c1] 31)).alloc (.cells #[.slice a2 yn.length c2, .slice a3 yr.length c3] 31)).cell? ⟨w.heap.size, 1, none⟩ = some (.slice a1 xr.length c1) := box_two _ _ _ _ _ 1 _ rfl
  have e2 : ((w.alloc (.cells #[.slice a0 xn.length c0, .slice a1 xr.length c1] 31)).alloc (.cells #[.slice a2 yn.length c2, .slice a3 yr.length c3] 31)).cell? ⟨w.heap.size + 1, 0, none⟩ = some (.slice a2 yn.length c2) := box_two' _ _ _ _ _ 0 _ rfl
  have e3 : ((w.alloc (.cells #[.slice a0 xn.length c0, .slice a1 xr.length c1] 31)).alloc (.cells #[.slice a2 yn.length c2, .slice a3 yr.length c3] 31)).cell? ⟨w.heap.size + 1, 1, none⟩ = some (.slice a3 yr.length c3) := box_two' _ _ _ _ _ 1 _ rfl
  by_cases hl : xn.length = yn.length
  rotate_left
  · have hl1 : ((xn.length : Int) != (yn.length : Int)) = true := by simpa using (by omega : ¬ (xn.length : Int) = (yn.length : Int))
    have HV : Hid (same x y = false) := HVn.out fun e => hl (by rw [e])
    clear hl
    go_enter Try.func5, Try.ntmps5
    go_wp2
    go_ret
    rw [HV.out]
    exact ⟨rfl, BW.out⟩
  have hl1 : ((xn.length : Int) != (yn.length : Int)) = false := by rw [hl]; simp
  have HL : Hid (xn.length = yn.length) := hl
  clear hl
  by_cases hl : xr.length = yr.length
  rotate_left
  · have hl2 : ((xr.length : Int) != (yr.length : Int)) = true := by simpa using (by omega : ¬ (xr.length : Int) = (yr.length : Int))
    have HV : Hid (same x y = false) := HVr.out fun e => hl (by rw [e])
    clear hl
    go_enter Try.func5, Try.ntmps5
    go_wp2
    go_ret
    rw [HV.out]
    exact ⟨rfl, BW.out⟩
  have hl2 : ((xr.length : Int) != (yr.length : Int)) = false := by rw [hl]; simp
  have HLr : Hid (xr.length = yr.length) := hl
  clear hl
  go_enter Try.func5, Try.ntmps5
  go_wp2
  generalize (w.alloc (.cells #[.slice a0 xn.length c0, .slice a1 xr.length c1] 31)).alloc (.cells #[.slice a2 yn.length c2, .slice a3 yr.length c3] 31) = W0 at *
  go_loopw [5] (fun iv wr => ∃ k : Nat, iv = .int .i64 k ∧ k ≤ xn.length ∧ (∀ i (h : i < xn.length) (h' : i < yn.length), i < k → xn[i] = yn[i]) ∧ Below W0.heap.size W0 wr) (fun iv _ => xn.length - (intOf iv).toNat)
  case atStart => exact ⟨0, rfl, Nat.zero_le _, fun i _ _ h => by omega, Below.refl _ _⟩
  case round =>
    obtain ⟨k, rfl, hk, hto, hbr⟩ := hrel
    have HTo : Hid (∀ i (h : i < xn.length) (h' : i < yn.length), i < k → xn[i] = yn[i]) := hto
    have BR : Hid (Below W0.heap.size W0 wr) := hbr
    have BWr : Hid (Below w.heap.size w wr) := BW.out.trans (hbr.mono BW.out.size)
    have f0 := cell_keep e0 hbr
    have f1 := cell_keep e1 hbr
    have f2 := cell_keep e2 hbr
    have f3 := cell_keep e3 hbr
    clear hto hbr
    by_cases hlt : k < xn.length
    rotate_left
    · obtain rfl : k = xn.length := by omega
      have HE : Hid (xn = yn) := sm_all HL.out fun i h1 h2 => HTo.out i h1 h2 h1
      clear HTo hl1 e0 e1 e2 e3 BW
      go_wp2
      have BW1 : Hid (Below w.heap.size w wr) := BWr.out
      clear BWr BR
      generalize wr = W1 at *
      go_loopw [8] (fun iv wr => ∃ k : Nat, iv = .int .i64 k ∧ k ≤ xr.length ∧ (∀ i (h : i < xr.length) (h' : i < yr.length), i < k → xr[i] = yr[i]) ∧ Below W1.heap.size W1 wr) (fun iv _ => xr.length - (intOf iv).toNat)
      case atStart => exact ⟨0, rfl, Nat.zero_le _, fun i _ _ h => by omega, Below.refl _ _⟩
      case round =>
        obtain ⟨k, rfl, hk, hto, hbr⟩ := hrel
        have HTo : Hid (∀ i (h : i < xr.length) (h' : i < yr.length), i < k → xr[i] = yr[i]) := hto
        have BR : Hid (Below W1.heap.size W1 wr) := hbr
        have BWr : Hid (Below w.heap.size w wr) := BW1.out.trans (hbr.mono BW1.out.size)
        have g1 := cell_keep f1 hbr
        have g3 := cell_keep f3 hbr
        clear hto hbr
        by_cases hlt : k < xr.length
        rotate_left
        · obtain rfl : k = xr.length := by omega
          have HV : Hid (same x y = true) := HVy.out HE.out (sm_all HLr.out fun i h1 h2 => HTo.out i h1 h2 h1)
          clear HTo
          go_wp2
          go_ret
          rw [HV.out]
          exact ⟨rfl, BWr.out⟩
        have hlt' : k < yr.length := by rw [← HLr.out]; exact hlt
        obtain ⟨b, off, pa, pc, rfl, n0, n1, n2, hP⟩ := srule_at (RowC.below SRuleE_stable R1.out BWr.out) hlt
        obtain ⟨b', off', pa', pc', rfl, m0, m1, m2, hP'⟩ := srule_at (RowC.below SRuleE_stable R3.out BWr.out) hlt'
        have i4 : (k : Int) < (xr.length : Int) := by omega
        have i5 : (k : Int) < (yr.length : Int) := by omega
        have z1 : xr[k].params.length ≤ 1048576 := by
          have h1 := Nat.le_trans (rowTot_mem sRuleTot (List.getElem_mem hlt)) t1
          have h2 := rowTot_len ByteArray.size xr[k].params
          have h3 : sRuleTot xr[k] = xr[k].name.size + rowTot ByteArray.size xr[k].params := rfl
          omega
        have z2 : yr[k].params.length ≤ 1048576 := by
          have h1 := Nat.le_trans (rowTot_mem sRuleTot (List.getElem_mem hlt')) t3
          have h2 := rowTot_len ByteArray.size yr[k].params
          have h3 : sRuleTot yr[k] = yr[k].name.size + rowTot ByteArray.size yr[k].params := rfl
          omega
        have HNo : Hid (¬ xr[k] = yr[k] → same x y = false) := fun he => HVr.out (sm_no hlt hlt' he)
        have HYes : Hid (xr[k] = yr[k] → ∀ i (h : i < xr.length) (h' : i < yr.length), i < k + 1 → xr[i] = yr[i]) := fun he i h1 h2 h3 => by
          by_cases e : i = k
          · subst e; exact he
          · exact HTo.out i h1 h2 (by omega)
        have HC : Hid (∀ n : Nat, _) := fun n => smT_any (.slice pa xr[k].params.length pc) (.slice pa' yr[k].params.length pc') xr[k].params yr[k].params (wr.drewN n) z1 z2 (hP.below (bel_drewN (Below.refl _ _) n)) (hP'.below (bel_drewN (Below.refl _ _) n))
        clear HTo hP hP'
        generalize xr[k] = s at *
        generalize yr[k] = t at *
        by_cases d0 : s.name = t.name
        rotate_left
        · have q0 := beq_no d0
          have q0' : (s.name.toList != t.name.toList) = true := by rw [bne, q0]; rfl
          have HV : Hid (same x y = false) := HNo.out fun e => d0 (by rw [e])
          clear d0
          go_wp2
          go_quiet (fail)
          go_wp2
          go_ret
          rw [HV.out]
          exact ⟨rfl, bel_drewN BWr.out _⟩
        have q0 := beq_yes d0
        have q0' : (s.name.toList != t.name.toList) = false := by rw [bne, q0]; rfl
        have D0 : Hid (s.name = t.name) := d0
        clear d0
        by_cases d1 : s.body = t.body
        rotate_left
        · have q1 : (s.body != t.body) = true := by simpa using d1
          have HV : Hid (same x y = false) := HNo.out fun e => d1 (by rw [e])
          clear d1
          go_wp2
          go_quiet (fail)
          go_wp2
          go_ret
          rw [HV.out]
          exact ⟨rfl, bel_drewN BWr.out _⟩
        have q1 : (s.body != t.body) = false := by rw [d1]; simp
        have D1 : Hid (s.body = t.body) := d1
        clear d1
        by_cases d2 : s.params = t.params
        rotate_left
        · have HS := same_no d2
          have HV : Hid (same x y = false) := HNo.out fun e => d2 (by rw [e])
          have HC2 : Hid (∀ n : Nat, Calls Try.prog 13 #[.slice pa s.params.length pc, .slice pa' t.params.length pc'] (wr.drewN n) fun e w' => e = .returned (.bool false) ∧ ∃ q, w' = (wr.drewN n).drewN q) := fun n => (HC.out n).mono (by rintro e w' ⟨rfl, hq⟩; exact ⟨by rw [HS], hq⟩)
          clear d2 HS HC
          go_wp2
          go_quiet ((go_at_call 13; refine Calls.quiet_of (HC2.out _)))
          go_wp2
          go_ret
          rw [HV.out]
          exact ⟨rfl, bel_drewN BWr.out _⟩
        have HS := same_yes d2
        have HST : Hid (s = t) := by
          have e0 := D0.out
          have e1 := D1.out
          rw [Hid]
          cases s; cases t
          simp only at *
          subst_vars
          rfl
        have HC2 : Hid (∀ n : Nat, Calls Try.prog 13 #[.slice pa s.params.length pc, .slice pa' t.params.length pc'] (wr.drewN n) fun e w' => e = .returned (.bool true) ∧ ∃ q, w' = (wr.drewN n).drewN q) := fun n => (HC.out n).mono (by rintro e w' ⟨rfl, hq⟩; exact ⟨by rw [HS], hq⟩)
        clear d2 HS HC
        go_wp2
        go_quiet ((go_at_call 13; refine Calls.quiet_of (HC2.out _)))
        go_wp2
        have HN : Hid (∀ i (h : i < xr.length) (h' : i < yr.length), i < k + 1 → xr[i] = yr[i]) := HYes.out HST.out
        go_roundw
        case rel => exact ⟨k + 1, by go_num, by omega, HN.out, bel_drewN BR.out _⟩
        case measure => simp [intOf]; omega
    have hlt' : k < yn.length := by rw [← HL.out]; exact hlt
    obtain ⟨b, off, aa, ca, ka, ck, rfl, n0, n1, n2, n3, n4, hA, hK⟩ := snode_at (RowC.below SNodeE_stable R0.out BWr.out) hlt
    obtain ⟨b', off', ba, da, la, lk, rfl, m0, m1, m2, m3, m4, hB, hL⟩ := snode_at (RowC.below SNodeE_stable R2.out BWr.out) hlt'
    have i4 : (k : Int) < (xn.length : Int) := by omega
    have i5 : (k : Int) < (yn.length : Int) := by omega
    have h1 := Nat.le_trans (rowTot_mem sNodeTot (List.getElem_mem hlt)) t0
    have h2 := Nat.le_trans (rowTot_mem sNodeTot (List.getElem_mem hlt')) t2
    have h3 : sNodeTot xn[k] = xn[k].text.size + rowTot exprTot xn[k].args + xn[k].bind.size + List.length xn[k].kids := rfl
    have h4 : sNodeTot yn[k] = yn[k].text.size + rowTot exprTot yn[k].args + yn[k].bind.size + List.length yn[k].kids := rfl
    have z0 : rowTot exprTot xn[k].args ≤ 1048576 := by omega
    have z1 : xn[k].kids.length ≤ 1048576 := by omega
    have z2 : rowTot exprTot yn[k].args ≤ 1048576 := by omega
    have z3 : yn[k].kids.length ≤ 1048576 := by omega
    clear h1 h2 h3 h4
    have HNo : Hid (¬ xn[k] = yn[k] → same x y = false) := fun he => HVn.out (sm_no hlt hlt' he)
    have HYes : Hid (xn[k] = yn[k] → ∀ i (h : i < xn.length) (h' : i < yn.length), i < k + 1 → xn[i] = yn[i]) := fun he i h1 h2 h3 => by
      by_cases e : i = k
      · subst e; exact he
      · exact HTo.out i h1 h2 (by omega)
    have HCe : Hid (∀ W, Below wr.heap.size wr W → _) := fun W hW => smE_any (.slice aa xn[k].args.length ca) (.slice ba yn[k].args.length da) xn[k].args yn[k].args W z0 z2 (RowC.below ExprE_stable hA hW) (RowC.below ExprE_stable hB hW)
    have HCk : Hid (∀ W, Below wr.heap.size wr W → _) := fun W hW => smI_any (.slice ka xn[k].kids.length ck) (.slice la yn[k].kids.length lk) xn[k].kids yn[k].kids W z1 z3 (hK.below hW) (hL.below hW)
    clear HTo hA hB hK hL z0 z1 z2 z3
    generalize xn[k] = s at *
    generalize yn[k] = t at *
    have bal : Below wr.heap.size wr (wr.alloc (.cells #[.int .i64 s.kind, .string s.text, .slice aa s.args.length ca, .string s.bind, .slice ka s.kids.length ck] 39)) := (Below.refl _ _).alloc (Nat.le_refl _) _
    have p0 := cell_keep m0 bal
    have p1 := cell_keep m1 bal
    have p2 := cell_keep m2 bal
    have p3 := cell_keep m3 bal
    have p4 := cell_keep m4 bal
    have p5 := cell_keep f2 bal
    clear bal
    have BA : Hid (Below wr.heap.size wr ((wr.alloc (.cells #[.int .i64 s.kind, .string s.text, .slice aa s.args.length ca, .string s.bind, .slice ka s.kids.length ck] 39)).alloc (.cells #[.int .i64 t.kind, .string t.text, .slice ba t.args.length da, .string t.bind, .slice la t.kids.length lk] 39))) := ((Below.refl _ _).alloc (Nat.le_refl _) _).alloc (by simp) _
    have x4 : ((wr.alloc (.cells #[.int .i64 s.kind, .string s.text, .slice aa s.args.length ca, .string s.bind, .slice ka s.kids.length ck] 39)).alloc (.cells #[.int .i64 t.kind, .string t.text, .slice ba t.args.length da, .string t.bind, .slice la t.kids.length lk] 39)).cell? ⟨wr.heap.size, 4, none⟩ = some (.slice ka s.kids.length ck) := box_two _ _ _ _ _ 4 _ rfl
    have y4 : ((wr.alloc (.cells #[.int .i64 s.kind, .string s.text, .slice aa s.args.length ca, .string s.bind, .slice ka s.kids.length ck] 39)).alloc (.cells #[.int .i64 t.kind, .string t.text, .slice ba t.args.length da, .string t.bind, .slice la t.kids.length lk] 39)).cell? ⟨wr.heap.size + 1, 4, none⟩ = some (.slice la t.kids.length lk) := box_two' _ _ _ _ _ 4 _ rfl
    have BWA : Hid (Below w.heap.size w ((wr.alloc (.cells #[.int .i64 s.kind, .string s.text, .slice aa s.args.length ca, .string s.bind, .slice ka s.kids.length ck] 39)).alloc (.cells #[.int .i64 t.kind, .string t.text, .slice ba t.args.length da, .string t.bind, .slice la t.kids.length lk] 39))) := BWr.out.trans (BA.out.mono BWr.out.size)
    have BRA : Hid (Below W0.heap.size W0 ((wr.alloc (.cells #[.int .i64 s.kind, .string s.text, .slice aa s.args.length ca, .string s.bind, .slice ka s.kids.length ck] 39)).alloc (.cells #[.int .i64 t.kind, .string t.text, .slice ba t.args.length da, .string t.bind, .slice la t.kids.length lk] 39))) := BR.out.trans (BA.out.mono BR.out.size)
    by_cases d0 : s.kind = t.kind
    rotate_left
    · have q0 : (s.kind != t.kind) = true := by simpa using d0
      have HV : Hid (same x y = false) := HNo.out fun e => d0 (by rw [e])
      clear d0
      go_wp2
      go_ret
      rw [HV.out]
      exact ⟨rfl, BWA.out⟩
    have q0 : (s.kind != t.kind) = false := by rw [d0]; simp
    have D0 : Hid (s.kind = t.kind) := d0
    clear d0
    by_cases d1 : s.text = t.text
    rotate_left
    · have q1 := beq_no d1
      have q1' : (s.text.toList != t.text.toList) = true := by rw [bne, q1]; rfl
      have HV : Hid (same x y = false) := HNo.out fun e => d1 (by rw [e])
      clear d1
      go_wp2
      go_ret
      rw [HV.out]
      exact ⟨rfl, BWA.out⟩
    have q1 := beq_yes d1
    have q1' : (s.text.toList != t.text.toList) = false := by rw [bne, q1]; rfl
    have D1 : Hid (s.text = t.text) := d1
    clear d1
    by_cases d2 : s.bind = t.bind
    rotate_left
    · have q2 := beq_no d2
      have q2' : (s.bind.toList != t.bind.toList) = true := by rw [bne, q2]; rfl
      have HV : Hid (same x y = false) := HNo.out fun e => d2 (by rw [e])
      clear d2
      go_wp2
      go_ret
      rw [HV.out]
      exact ⟨rfl, BWA.out⟩
    have q2 := beq_yes d2
    have q2' : (s.bind.toList != t.bind.toList) = false := by rw [bne, q2]; rfl
    have D2 : Hid (s.bind = t.bind) := d2
    clear d2
    by_cases d3 : s.args = t.args
    rotate_left
    · have HS := same_no d3
      have HV : Hid (same x y = false) := HNo.out fun e => d3 (by rw [e])
      clear d3
      go_wp2_with fail
      refine (HCe.out _ BA.out).mono ?_
      rintro e w1 ⟨rfl, hb1⟩
      rw [HS]
      have B1 : Hid (Below w.heap.size w w1) := BWA.out.trans (hb1.mono BWA.out.size)
      clear hb1
      go_wp2
      go_ret
      rw [HV.out]
      exact ⟨rfl, B1.out⟩
    have HS := same_yes d3
    have D3 : Hid (s.args = t.args) := d3
    clear d3
    by_cases d4 : s.kids = t.kids
    rotate_left
    · have HS2 := same_no d4
      have HV : Hid (same x y = false) := HNo.out fun e => d4 (by rw [e])
      clear d4
      go_wp2_with fail
      refine (HCe.out _ BA.out).mono ?_
      rintro e w1 ⟨rfl, hb1⟩
      rw [HS]
      have B1 : Hid (Below w.heap.size w w1) := BWA.out.trans (hb1.mono BWA.out.size)
      have B2 : Hid (Below wr.heap.size wr w1) := BA.out.trans (hb1.mono BA.out.size)
      have x4' := cell_keep x4 hb1
      have y4' := cell_keep y4 hb1
      clear hb1 HS x4 y4
      go_wp2_with fail
      refine (HCk.out _ B2.out).mono ?_
      rintro e w2 ⟨rfl, q, rfl⟩
      rw [HS2]
      go_wp2
      go_ret
      rw [HV.out]
      exact ⟨rfl, bel_drewN B1.out _⟩
    have HS2 := same_yes d4
    have HST : Hid (s = t) := by
      have e0 := D0.out
      have e1 := D1.out
      have e2 := D2.out
      have e3 := D3.out
      rw [Hid]
      cases s; cases t
      simp only at *
      subst_vars
      rfl
    clear d4
    go_wp2_with fail
    refine (HCe.out _ BA.out).mono ?_
    rintro e w1 ⟨rfl, hb1⟩
    rw [HS]
    have B1 : Hid (Below W0.heap.size W0 w1) := BRA.out.trans (hb1.mono BRA.out.size)
    have B2 : Hid (Below wr.heap.size wr w1) := BA.out.trans (hb1.mono BA.out.size)
    have x4' := cell_keep x4 hb1
    have y4' := cell_keep y4 hb1
    clear hb1 HS x4 y4
    go_wp2_with fail
    refine (HCk.out _ B2.out).mono ?_
    rintro e w2 ⟨rfl, q, rfl⟩
    rw [HS2]
    go_wp2
    have HN : Hid (∀ i (h : i < xn.length) (h' : i < yn.length), i < k + 1 → xn[i] = yn[i]) := HYes.out HST.out
    go_roundw
    case rel => exact ⟨k + 1, by go_num, by omega, HN.out, bel_drewN B1.out _⟩
    case measure => simp [intOf]; omega

end Go.Proofs.Ytpiajljmjhkdoaa
