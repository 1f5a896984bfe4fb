/- SameGrammar: the specification's (printed by mk/gmf.py). -/
import Derived.Test.YtipkbkhnaekceaaSmE
import Derived.Test.YtipkbkhnaekceaaGmA
namespace Go.Proofs.Ytipkbkhnaekceaa
open Go.RowKit
set_option linter.unusedVariables false

set_option maxHeartbeats 12800000 in
set_option maxRecDepth 100000 in
theorem specSameG_any (rv rv' : Value) (x y : List RuleD) (w : World) (hx : grammarTot x ≤ 1048576) (hy : grammarTot y ≤ 1048576) (h0 : RowC 3 RuleE w rv x) (h1 : RowC 3 RuleE w rv' y) :
    Calls Try.prog 8 #[.agg #[rv], .agg #[rv']] w fun e w' => e = .returned (.bool (same x y)) ∧ Below w.heap.size w w' := by
  have R0 : Hid (RowC 3 RuleE w rv x) := h0
  have R1 : Hid (RowC 3 RuleE w rv' y) := h1
  obtain ⟨a0, c0, rfl⟩ := h0.slice
  obtain ⟨a1, c1, rfl⟩ := h1.slice
  clear h0 h1
  have HX : Hid (rowTot ruleTot x ≤ 1048576) := hx
  have HY : Hid (rowTot ruleTot y ≤ 1048576) := hy
  have l0 : x.length ≤ 1048576 := Nat.le_trans (rowTot_len ruleTot x) hx
  have l1 : y.length ≤ 1048576 := Nat.le_trans (rowTot_len ruleTot y) hy
  clear hx hy
  have BW : Hid (Below w.heap.size w ((w.alloc (.cells #[.slice a0 x.length c0] 26)).alloc (.cells #[.slice a1 y.length c1] 26))) := ((Below.refl _ _).alloc (Nat.le_refl _) _).alloc (by simp) _
  have e0 : ((w.alloc (.cells #[.slice a0 x.length c0] 26)).alloc (.cells #[.slice a1 y.length c1] 26)).cell? ⟨w.heap.size, 0, none⟩ = some (.slice a0 x.length c0) := box_two _ _ _ _ _ 0 _ rfl
  have e1 : ((w.alloc (.cells #[.slice a0 x.length c0] 26)).alloc (.cells #[.slice a1 y.length c1] 26)).cell? ⟨w.heap.size + 1, 0, none⟩ = some (.slice a1 y.length c1) := box_two' _ _ _ _ _ 0 _ rfl
  by_cases hl : x.length = y.length
  rotate_left
  · have hl1 : ((x.length : Int) != (y.length : Int)) = true := by simpa using (by omega : ¬ (x.length : Int) = (y.length : Int))
    have HV : Hid (same x y = false) := same_no fun e => hl (by rw [e])
    clear hl
    go_enter Try.func8, Try.ntmps8
    go_wp2
    go_ret
    rw [HV.out]
    exact ⟨rfl, BW.out⟩
  have hl1 : ((x.length : Int) != (y.length : Int)) = false := by rw [hl]; simp
  have HL : Hid (x.length = y.length) := hl
  clear hl
  go_enter Try.func8, Try.ntmps8
  go_wp2
  generalize (w.alloc (.cells #[.slice a0 x.length c0] 26)).alloc (.cells #[.slice a1 y.length c1] 26) = W0 at *
  go_loopw [5] (fun iv wr => ∃ k : Nat, iv = .int .i64 k ∧ k ≤ x.length ∧ (∀ i (h : i < x.length) (h' : i < y.length), i < k → x[i] = y[i]) ∧ Below W0.heap.size W0 wr) (fun iv _ => x.length - (intOf iv).toNat)
  case atStart => exact ⟨0, rfl, Nat.zero_le _, fun i _ _ h => by omega, Below.refl _ _⟩
  case round =>
    obtain ⟨k, rfl, hk, hto, hbr⟩ := hrel
    have HTo : Hid (∀ i (h : i < x.length) (h' : i < y.length), i < k → x[i] = y[i]) := hto
    have BR : Hid (Below W0.heap.size W0 wr) := hbr
    have BWr : Hid (Below w.heap.size w wr) := BW.out.trans (hbr.mono BW.out.size)
    have f0 := cell_keep e0 hbr
    have f1 := cell_keep e1 hbr
    clear hto hbr
    by_cases hlt : k < x.length
    rotate_left
    · obtain rfl : k = x.length := by omega
      have HV : Hid (same x y = true) := same_yes (sm_all HL.out fun i h1 h2 => HTo.out i h1 h2 h1)
      clear HTo
      go_wp2
      go_ret
      rw [HV.out]
      exact ⟨rfl, BWr.out⟩
    have hlt' : k < y.length := by rw [← HL.out]; exact hlt
    obtain ⟨b, off, pa, pc, ea, ec, rfl, n0, n1, n2, hP, hE⟩ := grule_at (RowC.below RuleE_stable R0.out BWr.out) hlt
    obtain ⟨b', off', pb, pd, eb, ed, rfl, m0, m1, m2, hP', hE'⟩ := grule_at (RowC.below RuleE_stable R1.out BWr.out) hlt'
    have i4 : (k : Int) < (x.length : Int) := by omega
    have i5 : (k : Int) < (y.length : Int) := by omega
    have tA : ruleTot x[k] ≤ 1048576 := Nat.le_trans (rowTot_mem ruleTot (List.getElem_mem hlt)) HX.out
    have tB : ruleTot y[k] ≤ 1048576 := Nat.le_trans (rowTot_mem ruleTot (List.getElem_mem hlt')) HY.out
    have HNo : Hid (¬ x[k] = y[k] → same x y = false) := fun he => same_no (sm_no hlt hlt' he)
    have HYes : Hid (x[k] = y[k] → ∀ i (h : i < x.length) (h' : i < y.length), i < k + 1 → x[i] = y[i]) := fun he i h1 h2 h3 => by
      by_cases e : i = k
      · subst e; exact he
      · exact HTo.out i h1 h2 (by omega)
    have HRP : Hid (SRow wr (.slice pa x[k].params.length pc) x[k].params) := hP
    have HRP' : Hid (SRow wr (.slice pb y[k].params.length pd) y[k].params) := hP'
    have HRE : Hid (RowC 1 AltE wr (.slice ea x[k].alts.length ec) x[k].alts) := hE
    have HRE' : Hid (RowC 1 AltE wr (.slice eb y[k].alts.length ed) y[k].alts) := hE'
    clear HTo hP hP' hE hE'
    generalize x[k] = s at *
    generalize y[k] = t at *
    have z0 : rowTot ByteArray.size s.params ≤ 1048576 := by unfold ruleTot at tA; omega
    have z1 : rowTot ByteArray.size t.params ≤ 1048576 := by unfold ruleTot at tB; omega
    have HSa : Hid (rowTot altTot s.alts ≤ 1048576) := by rw [Hid]; unfold ruleTot at tA; omega
    have HTa : Hid (rowTot altTot t.alts ≤ 1048576) := by rw [Hid]; unfold ruleTot at tB; omega
    have z2 : s.alts.length ≤ 1048576 := Nat.le_trans (rowTot_len _ _) HSa.out
    have z3 : t.alts.length ≤ 1048576 := Nat.le_trans (rowTot_len _ _) HTa.out
    have BA : Hid (Below wr.heap.size wr ((wr.alloc (.cells #[.string s.name, .slice pa s.params.length pc, .slice ea s.alts.length ec] 40)).alloc (.cells #[.string t.name, .slice pb t.params.length pd, .slice eb t.alts.length ed] 40))) := ((Below.refl _ _).alloc (Nat.le_refl _) _).alloc (by simp) _
    have HCt : Hid (∀ W, Below wr.heap.size wr W → _) := fun W hW => smT_any (.slice pa s.params.length pc) (.slice pb t.params.length pd) s.params t.params W (Nat.le_trans (rowTot_len _ _) z0) (Nat.le_trans (rowTot_len _ _) z1) (HRP.out.below hW) (HRP'.out.below hW)
    clear z0 z1 HRP HRP' tA tB
    have bal : Below wr.heap.size wr (wr.alloc (.cells #[.string s.name, .slice pa s.params.length pc, .slice ea s.alts.length ec] 40)) := (Below.refl _ _).alloc (Nat.le_refl _) _
    have p0 := cell_keep m0 bal
    have p1 := cell_keep m1 bal
    have p2 := cell_keep m2 bal
    have p3 := cell_keep f1 bal
    clear bal
    have x0 : ((wr.alloc (.cells #[.string s.name, .slice pa s.params.length pc, .slice ea s.alts.length ec] 40)).alloc (.cells #[.string t.name, .slice pb t.params.length pd, .slice eb t.alts.length ed] 40)).cell? ⟨wr.heap.size, 0, none⟩ = some (.string s.name) := box_two _ _ _ _ _ 0 _ rfl
    have x1 : ((wr.alloc (.cells #[.string s.name, .slice pa s.params.length pc, .slice ea s.alts.length ec] 40)).alloc (.cells #[.string t.name, .slice pb t.params.length pd, .slice eb t.alts.length ed] 40)).cell? ⟨wr.heap.size, 1, none⟩ = some (.slice pa s.params.length pc) := box_two _ _ _ _ _ 1 _ rfl
    have x2 : ((wr.alloc (.cells #[.string s.name, .slice pa s.params.length pc, .slice ea s.alts.length ec] 40)).alloc (.cells #[.string t.name, .slice pb t.params.length pd, .slice eb t.alts.length ed] 40)).cell? ⟨wr.heap.size, 2, none⟩ = some (.slice ea s.alts.length ec) := box_two _ _ _ _ _ 2 _ rfl
    have y0 : ((wr.alloc (.cells #[.string s.name, .slice pa s.params.length pc, .slice ea s.alts.length ec] 40)).alloc (.cells #[.string t.name, .slice pb t.params.length pd, .slice eb t.alts.length ed] 40)).cell? ⟨wr.heap.size + 1, 0, none⟩ = some (.string t.name) := box_two' _ _ _ _ _ 0 _ rfl
    have y1 : ((wr.alloc (.cells #[.string s.name, .slice pa s.params.length pc, .slice ea s.alts.length ec] 40)).alloc (.cells #[.string t.name, .slice pb t.params.length pd, .slice eb t.alts.length ed] 40)).cell? ⟨wr.heap.size + 1, 1, none⟩ = some (.slice pb t.params.length pd) := box_two' _ _ _ _ _ 1 _ rfl
    have y2 : ((wr.alloc (.cells #[.string s.name, .slice pa s.params.length pc, .slice ea s.alts.length ec] 40)).alloc (.cells #[.string t.name, .slice pb t.params.length pd, .slice eb t.alts.length ed] 40)).cell? ⟨wr.heap.size + 1, 2, none⟩ = some (.slice eb t.alts.length ed) := box_two' _ _ _ _ _ 2 _ rfl
    have BWA : Hid (Below w.heap.size w ((wr.alloc (.cells #[.string s.name, .slice pa s.params.length pc, .slice ea s.alts.length ec] 40)).alloc (.cells #[.string t.name, .slice pb t.params.length pd, .slice eb t.alts.length ed] 40))) := BWr.out.trans (BA.out.mono BWr.out.size)
    have BRA : Hid (Below W0.heap.size W0 ((wr.alloc (.cells #[.string s.name, .slice pa s.params.length pc, .slice ea s.alts.length ec] 40)).alloc (.cells #[.string t.name, .slice pb t.params.length pd, .slice eb t.alts.length ed] 40))) := BR.out.trans (BA.out.mono BR.out.size)
    by_cases d0 : s.name = t.name
    rotate_left
    · have q0 := beq_no d0
      have q0' : (s.name.toList != t.name.toList) = true := by rw [bne, q0]; rfl
      have HV : Hid (same x y = false) := HNo.out fun e => d0 (by rw [e])
      clear d0
      go_wp2
      go_ret
      rw [HV.out]
      exact ⟨rfl, BWA.out⟩
    have q0 := beq_yes d0
    have q0' : (s.name.toList != t.name.toList) = false := by rw [bne, q0]; rfl
    have D0 : Hid (s.name = t.name) := d0
    clear d0
    by_cases d1 : s.params = t.params
    rotate_left
    · have HS := same_no d1
      have HV : Hid (same x y = false) := HNo.out fun e => d1 (by rw [e])
      clear d1
      go_wp2_with fail
      refine (HCt.out _ BA.out).mono ?_
      rintro e w1 ⟨rfl, q, rfl⟩
      rw [HS]
      go_wp2
      go_ret
      rw [HV.out]
      exact ⟨rfl, bel_drewN BWA.out _⟩
    have HS := same_yes d1
    have D1 : Hid (s.params = t.params) := d1
    clear d1
    by_cases d2 : s.alts.length = t.alts.length
    rotate_left
    · have q2 : ((s.alts.length : Int) != (t.alts.length : Int)) = true := by simpa using (by omega : ¬ (s.alts.length : Int) = (t.alts.length : Int))
      have HV : Hid (same x y = false) := HNo.out fun e => d2 (by rw [e])
      clear d2
      go_wp2_with fail
      refine (HCt.out _ BA.out).mono ?_
      rintro e w1 ⟨rfl, q, rfl⟩
      rw [HS]
      go_wp2
      go_ret
      rw [HV.out]
      exact ⟨rfl, bel_drewN BWA.out _⟩
    have q2 : ((s.alts.length : Int) != (t.alts.length : Int)) = false := by rw [d2]; simp
    have D2 : Hid (s.alts.length = t.alts.length) := d2
    clear d2
    go_wp2_with fail
    refine (HCt.out _ BA.out).mono ?_
    rintro e w1 ⟨rfl, q, rfl⟩
    rw [HS]
    have SYes : Hid (s.alts = t.alts → s = t) := fun e2 => by
      have e0 := D0.out
      have e1 := D1.out
      cases s; cases t
      simp only at *
      subst_vars
      rfl
    have bd : Below ((wr.alloc (.cells #[.string s.name, .slice pa s.params.length pc, .slice ea s.alts.length ec] 40)).alloc (.cells #[.string t.name, .slice pb t.params.length pd, .slice eb t.alts.length ed] 40)).heap.size ((wr.alloc (.cells #[.string s.name, .slice pa s.params.length pc, .slice ea s.alts.length ec] 40)).alloc (.cells #[.string t.name, .slice pb t.params.length pd, .slice eb t.alts.length ed] 40)) (((wr.alloc (.cells #[.string s.name, .slice pa s.params.length pc, .slice ea s.alts.length ec] 40)).alloc (.cells #[.string t.name, .slice pb t.params.length pd, .slice eb t.alts.length ed] 40)).drewN q) := bel_drewN (Below.refl _ _) q
    have X2 := cell_keep x2 bd
    have Y2 := cell_keep y2 bd
    have BW1 : Hid (Below w.heap.size w (((wr.alloc (.cells #[.string s.name, .slice pa s.params.length pc, .slice ea s.alts.length ec] 40)).alloc (.cells #[.string t.name, .slice pb t.params.length pd, .slice eb t.alts.length ed] 40)).drewN q)) := bel_drewN BWA.out q
    have BR1 : Hid (Below W0.heap.size W0 (((wr.alloc (.cells #[.string s.name, .slice pa s.params.length pc, .slice ea s.alts.length ec] 40)).alloc (.cells #[.string t.name, .slice pb t.params.length pd, .slice eb t.alts.length ed] 40)).drewN q)) := bel_drewN BRA.out q
    have HE1 : Hid (RowC 1 AltE (((wr.alloc (.cells #[.string s.name, .slice pa s.params.length pc, .slice ea s.alts.length ec] 40)).alloc (.cells #[.string t.name, .slice pb t.params.length pd, .slice eb t.alts.length ed] 40)).drewN q) (.slice ea s.alts.length ec) s.alts ∧ RowC 1 AltE (((wr.alloc (.cells #[.string s.name, .slice pa s.params.length pc, .slice ea s.alts.length ec] 40)).alloc (.cells #[.string t.name, .slice pb t.params.length pd, .slice eb t.alts.length ed] 40)).drewN q) (.slice eb t.alts.length ed) t.alts) := ⟨RowC.below AltE_stable (RowC.below AltE_stable HRE.out BA.out) bd, RowC.below AltE_stable (RowC.below AltE_stable HRE'.out BA.out) bd⟩
    clear bd HS HCt BA BWA BRA HRE HRE' x0 x1 x2 y0 y1 y2 p0 p1 p2 p3 n0 n1 n2 m0 m1 m2 BR BWr
    go_wp2
    generalize hW1 : ((wr.alloc (.cells #[.string s.name, .slice pa s.params.length pc, .slice ea s.alts.length ec] 40)).alloc (.cells #[.string t.name, .slice pb t.params.length pd, .slice eb t.alts.length ed] 40)).drewN q = W1 at *
    clear hW1
    generalize wr.heap.size = bx at *
    go_loopw [8] (fun iv wr => ∃ k : Nat, iv = .int .i64 k ∧ k ≤ s.alts.length ∧ (∀ i (h : i < s.alts.length) (h' : i < t.alts.length), i < k → s.alts[i] = t.alts[i]) ∧ Below W1.heap.size W1 wr) (fun iv _ => s.alts.length - (intOf iv).toNat)
    case atStart => exact ⟨0, rfl, Nat.zero_le _, fun i _ _ h => by omega, Below.refl _ _⟩
    case round =>
      obtain ⟨k1, rfl, hk1, hto, hbr⟩ := hrel
      have HTo1 : Hid (∀ i (h : i < s.alts.length) (h' : i < t.alts.length), i < k1 → s.alts[i] = t.alts[i]) := hto
      have BR : Hid (Below W1.heap.size W1 wr) := hbr
      have BWr : Hid (Below w.heap.size w wr) := BW1.out.trans (hbr.mono BW1.out.size)
      have g0 := cell_keep X2 hbr
      have g1 := cell_keep Y2 hbr
      clear hto hbr
      by_cases hlt1 : k1 < s.alts.length
      rotate_left
      · obtain rfl : k1 = s.alts.length := by omega
        have HN : Hid (∀ i (h : i < x.length) (h' : i < y.length), i < k + 1 → x[i] = y[i]) := HYes.out (SYes.out (sm_all D2.out fun i h1 h2 => HTo1.out i h1 h2 h1))
        have HB3 : Hid (Below W0.heap.size W0 wr) := BR1.out.trans (BR.out.mono BR1.out.size)
        clear HTo1
        go_wp2
        go_roundw
        case rel => exact ⟨k + 1, by go_num, by omega, HN.out, HB3.out⟩
        case measure => simp [intOf]; omega
      have hlt1' : k1 < t.alts.length := by rw [← D2.out]; exact hlt1
      obtain ⟨b1, off1, ga, gc, rfl, n0, hA⟩ := galt_at (RowC.below AltE_stable HE1.out.1 BR.out) hlt1
      obtain ⟨b1', off1', gb, gd, rfl, m0, hA'⟩ := galt_at (RowC.below AltE_stable HE1.out.2 BR.out) hlt1'
      have j4 : (k1 : Int) < (s.alts.length : Int) := by omega
      have j5 : (k1 : Int) < (t.alts.length : Int) := by omega
      have HZa : Hid (rowTot symTot s.alts[k1] ≤ 1048576) := Nat.le_trans (rowTot_mem altTot (List.getElem_mem hlt1)) HSa.out
      have HZb : Hid (rowTot symTot t.alts[k1] ≤ 1048576) := Nat.le_trans (rowTot_mem altTot (List.getElem_mem hlt1')) HTa.out
      have HNo1 : Hid (¬ s.alts[k1] = t.alts[k1] → same x y = false) := fun he => HNo.out fun e => sm_no hlt1 hlt1' he (by rw [e])
      have HYes1 : Hid (s.alts[k1] = t.alts[k1] → ∀ i (h : i < s.alts.length) (h' : i < t.alts.length), i < k1 + 1 → s.alts[i] = t.alts[i]) := fun he i h1 h2 h3 => by
        by_cases e : i = k1
        · subst e; exact he
        · exact HTo1.out i h1 h2 (by omega)
      have RA : Hid (RowC 4 SymE wr (.slice ga s.alts[k1].length gc) s.alts[k1]) := hA
      have RB : Hid (RowC 4 SymE wr (.slice gb t.alts[k1].length gd) t.alts[k1]) := hA'
      clear HTo1 hA hA'
      generalize s.alts[k1] = u at *
      generalize t.alts[k1] = v at *
      have y4 : u.length ≤ 1048576 := Nat.le_trans (rowTot_len _ _) HZa.out
      have y5 : v.length ≤ 1048576 := Nat.le_trans (rowTot_len _ _) HZb.out
      by_cases d3 : u.length = v.length
      rotate_left
      · have q3 : ((u.length : Int) != (v.length : Int)) = true := by simpa using (by omega : ¬ (u.length : Int) = (v.length : Int))
        have HV : Hid (same x y = false) := HNo1.out fun e => d3 (by rw [e])
        clear d3
        go_wp2
        go_quiet (fail)
        go_wp2
        go_ret
        rw [HV.out]
        exact ⟨rfl, bel_drewN BWr.out _⟩
      have q3 : ((u.length : Int) != (v.length : Int)) = false := by rw [d3]; simp
      have D3 : Hid (u.length = v.length) := d3
      clear d3
      go_wp2
      go_quiet (fail)
      have bq : Below wr.heap.size wr (wr.drewN nq) := bel_drewN (Below.refl _ _) nq
      have BW2 : Hid (Below w.heap.size w (wr.drewN nq)) := bel_drewN BWr.out _
      have BR2 : Hid (Below W1.heap.size W1 (wr.drewN nq)) := bel_drewN BR.out _
      have HS2 : Hid (RowC 4 SymE (wr.drewN nq) (.slice ga u.length gc) u ∧ RowC 4 SymE (wr.drewN nq) (.slice gb v.length gd) v) := ⟨RowC.below SymE_stable RA.out bq, RowC.below SymE_stable RB.out bq⟩
      have n0' := cell_keep n0 bq
      have m0' := cell_keep m0 bq
      have g0' := cell_keep g0 bq
      have g1' := cell_keep g1 bq
      clear n0 m0 g0 g1 RA RB bq BWr BR
      generalize wr.drewN nq = W2 at *
      go_wp2
      go_loopw [9] (fun iv wr => ∃ k : Nat, iv = .int .i64 k ∧ k ≤ u.length ∧ (∀ i (h : i < u.length) (h' : i < v.length), i < k → u[i] = v[i]) ∧ Below W2.heap.size W2 wr) (fun iv _ => u.length - (intOf iv).toNat)
      case atStart => exact ⟨0, rfl, Nat.zero_le _, fun i _ _ h => by omega, Below.refl _ _⟩
      case round =>
        obtain ⟨k2, rfl, hk2, hto, hbr⟩ := hrel
        have HTo2 : Hid (∀ i (h : i < u.length) (h' : i < v.length), i < k2 → u[i] = v[i]) := hto
        have BR : Hid (Below W2.heap.size W2 wr) := hbr
        have BWr : Hid (Below w.heap.size w wr) := BW2.out.trans (hbr.mono BW2.out.size)
        have n1 := cell_keep n0' hbr
        have m1 := cell_keep m0' hbr
        have h0 := cell_keep g0' hbr
        have h1 := cell_keep g1' hbr
        clear hto hbr
        by_cases hlt2 : k2 < u.length
        rotate_left
        · obtain rfl : k2 = u.length := by omega
          have HN : Hid (∀ i (h : i < s.alts.length) (h' : i < t.alts.length), i < k1 + 1 → s.alts[i] = t.alts[i]) := HYes1.out (sm_all D3.out fun i h1 h2 => HTo2.out i h1 h2 h1)
          have HB3 : Hid (Below W1.heap.size W1 wr) := BR2.out.trans (BR.out.mono BR2.out.size)
          clear HTo2
          go_wp2
          go_roundw
          case rel => exact ⟨k1 + 1, by go_num, by omega, HN.out, HB3.out⟩
          case measure => simp [intOf]; omega
        have hlt2' : k2 < v.length := by rw [← D3.out]; exact hlt2
        obtain ⟨b2, off2, fa, fc, rfl, r0, r1, r2, r3, hX⟩ := gsym_at (RowC.below SymE_stable HS2.out.1 BR.out) hlt2
        obtain ⟨b2', off2', fb, fd, rfl, o0, o1, o2, o3, hX'⟩ := gsym_at (RowC.below SymE_stable HS2.out.2 BR.out) hlt2'
        have i6 : (k2 : Int) < (u.length : Int) := by omega
        have i7 : (k2 : Int) < (v.length : Int) := by omega
        have ta : symTot u[k2] ≤ 1048576 := Nat.le_trans (rowTot_mem symTot (List.getElem_mem hlt2)) HZa.out
        have tb : symTot v[k2] ≤ 1048576 := Nat.le_trans (rowTot_mem symTot (List.getElem_mem hlt2')) HZb.out
        have HNo2 : Hid (¬ u[k2] = v[k2] → same x y = false) := fun he => HNo1.out (sm_no hlt2 hlt2' he)
        have HYes2 : Hid (u[k2] = v[k2] → ∀ i (h : i < u.length) (h' : i < v.length), i < k2 + 1 → u[i] = v[i]) := fun he i h1 h2 h3 => by
          by_cases e : i = k2
          · subst e; exact he
          · exact HTo2.out i h1 h2 (by omega)
        have RX : Hid (RowC 1 ExprE wr (.slice fa u[k2].args.length fc) u[k2].args) := hX
        have RX' : Hid (RowC 1 ExprE wr (.slice fb v[k2].args.length fd) v[k2].args) := hX'
        clear HTo2 hX hX'
        generalize u[k2] = p at *
        generalize v[k2] = q at *
        have zA : rowTot exprTot p.args ≤ 1048576 := by unfold symTot at ta; omega
        have zB : rowTot exprTot q.args ≤ 1048576 := by unfold symTot at tb; omega
        clear ta tb
        have bal : Below wr.heap.size wr (wr.alloc (.cells #[.int .i64 p.kind, .string p.text, .slice fa p.args.length fc, .string p.bind] 51)) := (Below.refl _ _).alloc (Nat.le_refl _) _
        have u0 := cell_keep o0 bal
        have u1 := cell_keep o1 bal
        have u2 := cell_keep o2 bal
        have u3 := cell_keep o3 bal
        have u4 := cell_keep m1 bal
        have u5 := cell_keep h1 bal
        clear bal
        have BA : Hid (Below wr.heap.size wr ((wr.alloc (.cells #[.int .i64 p.kind, .string p.text, .slice fa p.args.length fc, .string p.bind] 51)).alloc (.cells #[.int .i64 q.kind, .string q.text, .slice fb q.args.length fd, .string q.bind] 51))) := ((Below.refl _ _).alloc (Nat.le_refl _) _).alloc (by simp) _
        have BWA : Hid (Below w.heap.size w ((wr.alloc (.cells #[.int .i64 p.kind, .string p.text, .slice fa p.args.length fc, .string p.bind] 51)).alloc (.cells #[.int .i64 q.kind, .string q.text, .slice fb q.args.length fd, .string q.bind] 51))) := BWr.out.trans (BA.out.mono BWr.out.size)
        have BRA : Hid (Below W2.heap.size W2 ((wr.alloc (.cells #[.int .i64 p.kind, .string p.text, .slice fa p.args.length fc, .string p.bind] 51)).alloc (.cells #[.int .i64 q.kind, .string q.text, .slice fb q.args.length fd, .string q.bind] 51))) := BR.out.trans (BA.out.mono BR.out.size)
        have HCe : Hid (∀ _ : Unit, _) := fun _ => smE_any (.slice fa p.args.length fc) (.slice fb q.args.length fd) p.args q.args ((wr.alloc (.cells #[.int .i64 p.kind, .string p.text, .slice fa p.args.length fc, .string p.bind] 51)).alloc (.cells #[.int .i64 q.kind, .string q.text, .slice fb q.args.length fd, .string q.bind] 51)) zA zB (RowC.below ExprE_stable RX.out BA.out) (RowC.below ExprE_stable RX'.out BA.out)
        clear zA zB RX RX'
        by_cases d4 : p.kind = q.kind
        rotate_left
        · have q4 : (p.kind != q.kind) = true := by simpa using d4
          have HV : Hid (same x y = false) := HNo2.out fun e => d4 (by rw [e])
          clear d4
          go_wp2
          go_ret
          rw [HV.out]
          exact ⟨rfl, BWA.out⟩
        have q4 : (p.kind != q.kind) = false := by rw [d4]; simp
        have D4 : Hid (p.kind = q.kind) := d4
        clear d4
        by_cases d5 : p.text = q.text
        rotate_left
        · have q5 := beq_no d5
          have q5' : (p.text.toList != q.text.toList) = true := by rw [bne, q5]; rfl
          have HV : Hid (same x y = false) := HNo2.out fun e => d5 (by rw [e])
          clear d5
          go_wp2
          go_ret
          rw [HV.out]
          exact ⟨rfl, BWA.out⟩
        have q5 := beq_yes d5
        have q5' : (p.text.toList != q.text.toList) = false := by rw [bne, q5]; rfl
        have D5 : Hid (p.text = q.text) := d5
        clear d5
        by_cases d6 : p.bind = q.bind
        rotate_left
        · have q6 := beq_no d6
          have q6' : (p.bind.toList != q.bind.toList) = true := by rw [bne, q6]; rfl
          have HV : Hid (same x y = false) := HNo2.out fun e => d6 (by rw [e])
          clear d6
          go_wp2
          go_ret
          rw [HV.out]
          exact ⟨rfl, BWA.out⟩
        have q6 := beq_yes d6
        have q6' : (p.bind.toList != q.bind.toList) = false := by rw [bne, q6]; rfl
        have D6 : Hid (p.bind = q.bind) := d6
        clear d6
        by_cases d7 : p.args = q.args
        rotate_left
        · have HS := same_no d7
          have HV : Hid (same x y = false) := HNo2.out fun e => d7 (by rw [e])
          clear d7
          go_wp2_with fail
          refine (HCe.out ()).mono ?_
          rintro e w1 ⟨rfl, hb1⟩
          rw [HS]
          go_wp2
          go_ret
          rw [HV.out]
          exact ⟨rfl, BWA.out.trans (hb1.mono BWA.out.size)⟩
        have HS := same_yes d7
        have HST : Hid (p = q) := by
          have e0 := D4.out
          have e1 := D5.out
          have e2 := D6.out
          rw [Hid]
          cases p; cases q
          simp only at *
          subst_vars
          rfl
        clear d7
        go_wp2_with fail
        refine (HCe.out ()).mono ?_
        rintro e w1 ⟨rfl, hb1⟩
        rw [HS]
        have HB4 : Hid (Below W2.heap.size W2 w1) := BRA.out.trans (hb1.mono BRA.out.size)
        clear hb1
        go_wp2
        have HN : Hid (∀ i (h : i < u.length) (h' : i < v.length), i < k2 + 1 → u[i] = v[i]) := HYes2.out HST.out
        go_roundw
        case rel => exact ⟨k2 + 1, by go_num, by omega, HN.out, HB4.out⟩
        case measure => simp [intOf]; omega

end Go.Proofs.Ytipkbkhnaekceaa
