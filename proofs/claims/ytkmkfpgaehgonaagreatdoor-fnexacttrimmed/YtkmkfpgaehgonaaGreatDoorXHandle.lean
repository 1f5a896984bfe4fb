/- The exact law on Trimmed, walked (printed by mk/f15tl.py). -/
/- What the condition on errors.errorType gives a walk: the variable's one cell. -/
import Derived.Test.YtkmkfpgaehgonaaGreatDoorF15TS
import Derived.Test.YtkmkfpgaehgonaaGreatDoorF15TI
import Derived.Test.YtkmkfpgaehgonaaGreatDoorGEl
import Derived.Test.YtkmkfpgaehgonaaGreatDoorRG
import Derived.Test.YtkmkfpgaehgonaaGreatDoorGSz
import Derived.Test.YtkmkfpgaehgonaaGreatDoorHdA
import Derived.Test.YtkmkfpgaehgonaaGreatDoorGOpen
import Derived.Test.YtkmkfpgaehgonaaGreatDoorRows
import Derived.Test.YtkmkfpgaehgonaaGreatDoorXFault2
import Derived.LaidLaws
import Derived.LaidHandle
namespace Go.Proofs.YtkmkfpgaehgonaaGreatDoor
open Go.RowKit
set_option linter.unusedVariables false

/-! ### what trimming keeps -/
theorem sum_subT {α : Type} (f : α → Nat) {xs ys : List α} (h : xs.Sublist ys) : (xs.map f).sum ≤ (ys.map f).sum := by
  induction h with
  | slnil => exact Nat.le_refl _
  | cons a _ ih => rw [List.map_cons, List.sum_cons]; omega
  | cons_cons a _ ih => rw [List.map_cons, List.sum_cons, List.map_cons, List.sum_cons]; omega
theorem range_getT (g : List RuleD) : (List.range g.length).map (fun i => g.getD i default) = g := by
  apply List.ext_getElem
  · simp
  · intro i h1 h2
    simp [List.getD_eq_getElem?_getD, List.getElem?_eq_getElem h2]
theorem trimB_sub (g : List RuleD) : (trimB g).Sublist g := by
  unfold trimB
  split
  · have h : (trimTo g g.length).Sublist ((List.range g.length).map fun i => g.getD i default) := (List.filter_sublist (p := keepT g)).map _
    rwa [range_getT] at h
  · exact List.Sublist.refl g
theorem trimB_gramL (g : List RuleD) : gramL (trimB g) ≤ gramL g := by
  have h1 := sum_subT ruleL (trimB_sub g)
  have h2 := (trimB_sub g).length_le
  unfold gramL rowTot
  omega
theorem trimB_cnt (g : List RuleD) : ((trimB g).map cntRule).sum ≤ (g.map cntRule).sum := sum_subT cntRule (trimB_sub g)
theorem copyIn_tot {g : List RuleD} (h : grammarTot g ≤ 1048576) : CopyIn g := by
  have h0 : rowTot ruleTot g ≤ 1048576 := h
  refine ⟨Nat.le_trans (rowTot_len _ _) h0, fun r hr => ?_⟩
  have h1 := rowTot_mem ruleTot hr
  have e1 : ruleTot r = r.name.size + rowTot ByteArray.size r.params + rowTot altTot r.alts := rfl
  have p1 := rowTot_len ByteArray.size r.params
  have p2 := rowTot_len altTot r.alts
  refine ⟨by omega, by omega, fun a ha => ?_⟩
  have h2 := rowTot_mem altTot ha
  have e2 : altTot a = rowTot symTot a := rfl
  have p3 := rowTot_len symTot a
  refine ⟨by omega, fun s hs => ?_⟩
  have h3 := rowTot_mem symTot hs
  have e3 : symTot s = s.text.size + rowTot exprTot s.args + s.bind.size := rfl
  have p4 := rowTot_len exprTot s.args
  refine ⟨by omega, fun e he => ?_⟩
  have h4 := rowTot_mem exprTot he
  have e4 : exprTot e = e.length + (e.map fun y => y.name.size + y.kids.length).sum := rfl
  refine ⟨by omega, fun x hx => ?_⟩
  have : x.name.size + x.kids.length ≤ (e.map fun y => y.name.size + y.kids.length).sum := sum_mem (fun y : NodeD => y.name.size + y.kids.length) hx
  omega
theorem cell_midW {B H b o : Nat} {w w' : World} {x : Value} (h : w.cell? ⟨b, o, none⟩ = some x) (hm : Mid B H w w') (hb : b < B ∨ H ≤ b) : w'.cell? ⟨b, o, none⟩ = some x :=
  (World.cell?_of_block (hm.block b (World.block_lt_of_cell? w _ h) hb)).trans h
theorem cell_kpW {F : Nat → Prop} {b o : Nat} {w w' : World} {x : Value} (h : w.cell? ⟨b, o, none⟩ = some x) (hm : Kp F w w') (hb : ¬ F b) : w'.cell? ⟨b, o, none⟩ = some x :=
  (World.cell?_of_block (hm.block b (World.block_lt_of_cell? w _ h) hb)).trans h

set_option maxHeartbeats 6400000 in
set_option maxRecDepth 100000 in
theorem fnExactTrimmed_walk (v : Value) (xs : List RuleD) (w : World) (h : RowC 3 RuleE w v xs) (hin : GrammarIn xs) (hErr : errTy w) :
    Calls Tryz.prog 3 #[.agg #[v]] w fun e w' => e = .returned (.bool true) ∧ Below w.heap.size w w' := by
  have HA : Hid (RowC 3 RuleE w v xs) := h
  have HIn : Hid (GrammarIn xs) := hin
  have HErr : Hid (errTy w) := hErr
  obtain ⟨a, cap, rfl⟩ := h.slice
  clear h hin hErr
  have B0 : Hid (Below w.heap.size w (w.alloc (.cells #[.slice a xs.length cap] 24))) := (Below.refl _ _).alloc (Nat.le_refl _) _
  have E0 : Hid ((w.alloc (.cells #[.slice a xs.length cap] 24)).cell? ⟨w.heap.size, 0, none⟩ = some (.slice a xs.length cap)) := box_at _ _ _ 0 _ rfl
  have ST : Hid (∀ W, Below w.heap.size w W → RowC 3 RuleE W (.slice a xs.length cap) xs) := fun W hb => RowC.below RuleE_stable HA.out hb
  go_enter Tryz.func3, Tryz.ntmps3
  go_wp2_with fail
  refine (gszGrammar _ xs 1048576 _ (by omega) (by omega) HIn.out (ST.out _ B0.out)).mono ?_
  rintro e w1 ⟨rr, rfl, hr, hb1⟩
  have B1 : Hid (Below w.heap.size w w1) := B0.out.trans (hb1.mono B0.out.size)
  have hE1 := cell_keep E0.out hb1
  clear hb1 E0 B0
  rcases hr with rfl | hr
  · go_wp2
    go_ret
    exact ⟨rfl, B1.out⟩
  have hz : grammarTot xs ≤ 1048576 := by omega
  have hr2 : ¬ rr < 0 := by omega
  have HZ : Hid (grammarTot xs ≤ 1048576) := hz
  have HL : Hid (gramL (trimB xs) ≤ 1048576) := Nat.le_trans (trimB_gramL xs) (Nat.le_trans (gramL_le xs) hz)
  have HCg : Hid (((trimB xs).map cntRule).sum ≤ 3145728) := by have h1 := cntGram_le xs; have h2 := trimB_cnt xs; rw [Hid]; omega
  have HI : Hid (∀ (v : Value) (W : World), Below w.heap.size w W → RowC 3 RuleE W v xs → Calls Tryz.prog 7 #[.agg #[v]] W fun e w' => ∃ o, e = .returned (.agg #[o]) ∧ RowF 3 42 RuleF (Nw W.heap.size w'.heap.size) o (trimB xs) w' ∧ Below W.heap.size W w') := fun v W hb hv => implTrimmed_any v xs W (HErr.out.below hb) hz hv
  have HSp : Hid (∀ (v : Value) (W : World), RowC 3 RuleE W v xs → Calls Tryz.prog 5 #[.agg #[v]] W fun e w' => ∃ o, e = .returned (.agg #[o]) ∧ RowF 3 42 RuleG (Nw W.heap.size w'.heap.size) o (trimB xs) w' ∧ Below W.heap.size W w') := fun v W hv => specTrimmed_any v xs W HIn.out (copyIn_tot hz) hz hv
  have HT : Hid (∀ W, Below w.heap.size w W → _) := fun W hb => gtoGrammar _ xs W HZ.out (ST.out W hb)
  have HTs : Hid (∀ W, Below w.heap.size w W → _) := fun W hb => gtsGrammar W.heap.size _ xs W (Nat.le_refl _) HZ.out (ST.out W hb)
  have HQ : Hid (∀ u v W, RowC 3 RuleE W u xs → RowC 3 RuleE W v xs → _) := fun u v W h h' => gelGrammar u v xs W (Nat.le_trans (gramL_le xs) HZ.out) h h'
  have HQL : Hid (∀ u v W, RowC 3 RuleE W u (trimB xs) → RowC 3 RuleE W v (trimB xs) → _) := fun u v W h h' => gelGrammar u v (trimB xs) W HL.out h h'
  have HCn : Hid ((xs.map cntRule).sum ≤ 3145728) := by have := cntGram_le xs; rw [Hid]; omega
  clear hr hz ST HA HIn HL HErr
  generalize trimB xs = L at *
  go_wp2_with fail
  refine (HT.out _ B1.out).mono ?_
  rintro e w2 ⟨o2, c2, rfl, f2, hb2⟩
  have O2 : Hid (RowC 3 RuleE w2 (.slice o2 xs.length c2) xs) := f2.here
  have B2 : Hid (Below w.heap.size w w2) := B1.out.trans (hb2.mono B1.out.size)
  have hE2 := cell_keep hE1 hb2
  clear hb2 f2 hE1
  go_wp2_with fail
  refine (HSp.out _ _ O2.out).mono ?_
  rintro e w3 ⟨s0, rfl, hs0, hb3⟩
  obtain ⟨a3, c3, rfl⟩ := hs0.slice
  have bal3 := (Below.refl w3.heap.size w3).alloc (Nat.le_refl _) (.cells #[.slice a3 L.length c3] 28)
  have S3 : Hid (RowF 3 42 RuleG (Nw w2.heap.size w3.heap.size) (.slice a3 L.length c3) L (w3.alloc (.cells #[.slice a3 L.length c3] 28))) := hs0.below stabRuleG bal3
  have B3 : Hid (Below w.heap.size w (w3.alloc (.cells #[.slice a3 L.length c3] 28))) := (B2.out.trans (hb3.mono B2.out.size)).trans (bal3.mono (B2.out.trans (hb3.mono B2.out.size)).size)
  have hE3 := cell_keep (cell_keep hE2 hb3) bal3
  have hS3 : (w3.alloc (.cells #[.slice a3 L.length c3] 28)).cell? ⟨w3.heap.size, 0, none⟩ = some (.slice a3 L.length c3) := box_at _ _ _ 0 _ rfl
  have Z3 : Hid (w.heap.size < w3.heap.size ∧ w3.heap.size < (w3.alloc (.cells #[.slice a3 L.length c3] 28)).heap.size) := ⟨World.block_lt_of_cell? w3 _ (cell_keep hE2 hb3), by simp⟩
  clear hb3 hs0 hE2 bal3 O2
  go_wp2_with fail
  generalize w3.alloc (.cells #[.slice a3 L.length c3] 28) = W3 at *
  generalize w3.heap.size = H3 at *
  generalize w2.heap.size = H2 at *
  refine (HTs.out _ B3.out).mono ?_
  rintro e w4 ⟨a4, c4, rfl, f4, hb4⟩
  obtain ⟨n, cm, hcm, hsh⟩ := f4.here.2.here 6
  have hcm2 : cm ≤ 3145728 := Nat.le_trans hcm HCn.out
  have bal := (Below.refl w4.heap.size w4).alloc (Nat.le_refl _) (.cells #[.slice a4 xs.length c4] 28)
  have X5 : Hid (RowC 3 RuleE (w4.alloc (.cells #[.slice a4 xs.length c4] 28)) (.slice a4 xs.length c4) xs) := RowC.below RuleE_stable f4.here.1 bal
  have C5 : Hid (Shp tau W3.heap.size w4.heap.size (n + 6) (.row 42) (w4.alloc (.cells #[.slice a4 xs.length c4] 28)) (.slice a4 xs.length c4) cm) := Keeps.below bal _ _ _ _ hsh
  have S5 : Hid (RowF 3 42 RuleG (Nw H2 H3) (.slice a3 L.length c3) L (w4.alloc (.cells #[.slice a4 xs.length c4] 28))) := (S3.out.below stabRuleG hb4).below stabRuleG bal
  have B4 : Hid (Below w.heap.size w w4) := B3.out.trans (hb4.mono B3.out.size)
  have B5 : Hid (Below w.heap.size w (w4.alloc (.cells #[.slice a4 xs.length c4] 28))) := B4.out.trans (bal.mono B4.out.size)
  have hE5 := cell_keep (cell_keep hE3 hb4) bal
  have hS5 := cell_keep (cell_keep hS3 hb4) bal
  have hX5 : (w4.alloc (.cells #[.slice a4 xs.length c4] 28)).cell? ⟨w4.heap.size, 0, none⟩ = some (.slice a4 xs.length c4) := box_at _ _ _ 0 _ rfl
  have Z34 : Hid (W3.heap.size ≤ w4.heap.size) := hb4.size
  have Z45 : Hid (w4.heap.size < (w4.alloc (.cells #[.slice a4 xs.length c4] 28)).heap.size) := by rw [Hid]; simp
  clear hb4 f4 hsh hcm bal hE3 hS3 S3 B4
  go_wp2_with fail
  generalize w4.alloc (.cells #[.slice a4 xs.length c4] 28) = w5 at *
  generalize w4.heap.size = H4 at *
  refine (HI.out _ _ B5.out X5.out).mono ?_
  rintro e w6 ⟨g0, rfl, hg0, hb6⟩
  obtain ⟨a6, c6, rfl⟩ := hg0.slice
  have bal6 := (Below.refl w6.heap.size w6).alloc (Nat.le_refl _) (.cells #[.slice a6 L.length c6] 28)
  have hb6a : Below w5.heap.size w5 (w6.alloc (.cells #[.slice a6 L.length c6] 28)) := hb6.trans (bal6.mono hb6.size)
  have G6 : Hid (RowF 3 42 RuleF (Nw w5.heap.size w6.heap.size) (.slice a6 L.length c6) L (w6.alloc (.cells #[.slice a6 L.length c6] 28))) := hg0.below stabRule bal6
  have X6 : Hid (RowC 3 RuleE (w6.alloc (.cells #[.slice a6 L.length c6] 28)) (.slice a4 xs.length c4) xs) := RowC.below RuleE_stable X5.out hb6a
  have C6 : Hid (Shp tau W3.heap.size H4 (n + 6) (.row 42) (w6.alloc (.cells #[.slice a6 L.length c6] 28)) (.slice a4 xs.length c4) cm) := Keeps.below hb6a _ _ _ _ C5.out
  have S6 : Hid (RowF 3 42 RuleG (Nw H2 H3) (.slice a3 L.length c3) L (w6.alloc (.cells #[.slice a6 L.length c6] 28))) := S5.out.below stabRuleG hb6a
  have B6 : Hid (Below w.heap.size w (w6.alloc (.cells #[.slice a6 L.length c6] 28))) := B5.out.trans (hb6a.mono B5.out.size)
  have hE6 := cell_keep hE5 hb6a
  have hS6 := cell_keep hS5 hb6a
  have hX6 := cell_keep hX5 hb6a
  have hG6 : (w6.alloc (.cells #[.slice a6 L.length c6] 28)).cell? ⟨w6.heap.size, 0, none⟩ = some (.slice a6 L.length c6) := box_at _ _ _ 0 _ rfl
  have Z6 : Hid (w5.heap.size ≤ w6.heap.size) := hb6.size
  clear hb6 hb6a hg0 bal6 hE5 hX5 hS5 X5 C5 S5 B5
  go_wp2_with fail
  generalize w6.alloc (.cells #[.slice a6 L.length c6] 28) = W6 at *
  generalize w6.heap.size = H6 at *
  generalize w5.heap.size = H5 at *
  refine (HQL.out _ _ _ (G6.out.rowC (fun F w vs x h => h.e)) (S6.out.rowC (fun F w vs x h => h.e))).mono ?_
  rintro e w7 ⟨rfl, hb7⟩
  have G7 : Hid (RowF 3 42 RuleF (Nw H5 H6) (.slice a6 L.length c6) L w7) := G6.out.below stabRule hb7
  have X7 : Hid (RowC 3 RuleE w7 (.slice a4 xs.length c4) xs) := RowC.below RuleE_stable X6.out hb7
  have C7 : Hid (Shp tau W3.heap.size H4 (n + 6) (.row 42) w7 (.slice a4 xs.length c4) cm) := Keeps.below hb7 _ _ _ _ C6.out
  have S7 : Hid (RowF 3 42 RuleG (Nw H2 H3) (.slice a3 L.length c3) L w7) := S6.out.below stabRuleG hb7
  have B7 : Hid (Below w.heap.size w w7) := B6.out.trans (hb7.mono B6.out.size)
  have hE7 := cell_keep hE6 hb7
  have hS7 := cell_keep hS6 hb7
  have hX7 := cell_keep hX6 hb7
  have hG7 := cell_keep hG6 hb7
  clear hb7 hE6 hX6 hS6 hG6 X6 C6 S6 G6
  have HT7 : Hid (_) := HT.out w7.drew (bel_drewN B7.out 1)
  have X7d : Hid (RowC 3 RuleE w7.drew (.slice a4 xs.length c4) xs) := RowC.below RuleE_stable X7.out (bel_drewN (Below.refl _ _) 1)
  go_wp2
  go_region_held3 (fun W => W.cell? ⟨w.heap.size, 0, none⟩ = some (.slice a xs.length cap) ∧ W.cell? ⟨H4, 0, none⟩ = some (.slice a4 xs.length c4))
    ((first | exact gkeep2 (by assumption) hb9 | exact gkeep2 (by assumption) hb8 | go_keep))
    ((first
      | (go_at_call 6; refine Calls.mono HT7.out ?_; rintro e w8 ⟨o8, c8, rfl, f8, hb8⟩)
      | (go_at_call 8; refine (HQ.out _ _ _ (RowC.below RuleE_stable X7d.out hb8) f8.here).mono ?_; rintro e w9 ⟨rfl, hb9⟩)))
  have h78 : Below w7.heap.size w7 w8 := bel_of_drew hb8
  have h79 : Below w7.heap.size w7 w9 := h78.trans (hb9.mono h78.size)
  have G9 : Hid (RowF 3 42 RuleF (Nw H5 H6) (.slice a6 L.length c6) L w9) := G7.out.below stabRule h79
  have C9 : Hid (Shp tau W3.heap.size H4 (n + 6) (.row 42) w9 (.slice a4 xs.length c4) cm) := Keeps.below h79 _ _ _ _ C7.out
  have S9 : Hid (RowF 3 42 RuleG (Nw H2 H3) (.slice a3 L.length c3) L w9) := S7.out.below stabRuleG h79
  have B9 : Hid (Below w.heap.size w w9) := B7.out.trans (h79.mono B7.out.size)
  have hE9 := cell_keep hE7 h79
  have hS9 := cell_keep hS7 h79
  have hX9 := cell_keep hX7 h79
  have hG9 := cell_keep hG7 h79
  clear hb8 hb9 f8 h78 h79 HT7 X7d X7 C7 S7 G7 hE7 hX7 hS7 hG7
  go_wp2_with fail
  refine (mkGrammar _ 1 _ (by omega) (by omega) C9.out).mono ?_
  rintro e w10 ⟨rfl, hmk⟩
  have hm10 := hmk.mid
  have hrk2 : ¬ (1 + (cm : Int)) < 0 := by omega
  have hE10 := cell_midW hE9 hm10 (.inl (by have := Z3.out; omega))
  have hS10 := cell_midW hS9 hm10 (.inl (Z3.out.2))
  have hG10 := cell_midW hG9 hm10 (.inr (by have h1 := Z45.out; have h2 := Z6.out; omega))
  have G10 : Hid (RowF 3 42 RuleF (Nw H5 H6) (.slice a6 L.length c6) L w10) := G9.out.ag stabRule ⟨hm10.size, fun k hk hl => hm10.block k hl (.inr (by have h1 := hk.1; have h2 := Z45.out; omega))⟩
  have S10 : Hid (RowF 3 42 RuleG (Nw H2 H3) (.slice a3 L.length c3) L w10) := S9.out.ag stabRuleG ⟨hm10.size, fun k hk hl => hm10.block k hl (.inl (by have h1 := hk.2; have h2 := Z3.out; omega))⟩
  have B10 : Hid (Below w.heap.size w w10) := Mid.onto B9.out (Nat.le_refl _) (by have := Z3.out; omega) hm10
  clear hm10 hmk hE9 hX9 hS9 hG9 C9 G9 S9
  generalize (1 + (cm : Int)) = rk at *
  go_wp2_with fail
  refine (HQL.out _ _ _ (G10.out.rowC (fun F w vs x h => h.e)) (S10.out.rowC (fun F w vs x h => h.e))).mono ?_
  rintro e w11 ⟨rfl, hb11⟩
  have hE11 := cell_keep hE10 hb11
  have hS11 := cell_keep hS10 hb11
  have hG11 := cell_keep hG10 hb11
  have G11 : Hid (RowF 3 42 RuleF (Nw H5 H6) (.slice a6 L.length c6) L w11) := G10.out.below stabRule hb11
  have S11 : Hid (RowF 3 42 RuleG (Nw H2 H3) (.slice a3 L.length c3) L w11) := S10.out.below stabRuleG hb11
  have B11 : Hid (Below w.heap.size w w11) := B10.out.trans (hb11.mono B10.out.size)
  clear hb11 hE10 hS10 hG10 G10 S10
  obtain ⟨cg, hcg, hHd⟩ := (gram_hd G11.out).2
  have hcg2 : cg ≤ 3145728 := Nat.le_trans hcg HCg.out
  obtain ⟨m, hm, hm0⟩ : ∃ m : Int, m = ((1 + cg : Nat) : Int) ∧ ¬ m < 0 := ⟨_, rfl, by omega⟩
  have HMg : Hid (Calls Tryz.prog 9 #[.agg #[.slice a6 L.length c6], .int .i64 1] w11 fun e w' => e = .returned (.int .i64 m) ∧ Kp (Nw H5 H6) w11 w' ∧ Hd tau 6 (.row 42) w' (.slice a6 L.length c6) cg (Nw H5 H6) (some 1)) := by
    rw [hm]
    exact hmGrammar (n := 0) _ 1 w11 (by omega) (by omega) hHd
  have HHg : Hid (∀ W, Hd tau 6 (.row 42) W (.slice a6 L.length c6) cg (Nw H5 H6) (some 1) → Calls Tryz.prog 10 #[.agg #[.slice a6 L.length c6], .int .i64 1] W fun e w' => e = .returned (.int .i64 m) ∧ Below W.heap.size W w') := by
    rw [hm]
    exact fun W hW => hhGrammar (n := 0) _ 1 W (by omega) (by omega) hW
  clear hm hcg hHd hcg2 HCg
  go_wp2_with fail
  refine HMg.out.mono ?_
  rintro e w12 ⟨rfl, hk12, hd12⟩
  have D12 : Hid (Hd tau 6 (.row 42) w12 (.slice a6 L.length c6) cg (Nw H5 H6) (some 1)) := hd12
  have hZz : w.heap.size < H5 := by have h1 := Z3.out; have h2 := Z34.out; have h3 := Z45.out; omega
  have hE12 := cell_kpW hE11 hk12 (fun h => by have := h.1; omega)
  have hS12 := cell_kpW hS11 hk12 (fun h => by have h1 := h.1; have h2 := Z3.out; have h3 := Z34.out; have h4 := Z45.out; omega)
  have hG12 := cell_kpW hG11 hk12 (fun h => by have h1 := h.2; omega)
  have S12 : Hid (RowF 3 42 RuleG (Nw H2 H3) (.slice a3 L.length c3) L w12) := S11.out.ag stabRuleG (hk12.ag (fun k hk h => by have h0 := hk.2; have h1 := h.1; have h2 := Z3.out; have h3 := Z34.out; have h4 := Z45.out; omega))
  have B12 : Hid (Below w.heap.size w w12) := Kp.onto B11.out (Nat.le_refl _) (fun k hk => by have := hk.1; omega) hk12
  clear hk12 hd12 hE11 hS11 hG11 G11 S11 HMg hZz
  go_wp2_with fail
  refine (HHg.out _ D12.out).mono ?_
  rintro e w13 ⟨rfl, hb13⟩
  have D13 : Hid (Hd tau 6 (.row 42) w13 (.slice a6 L.length c6) cg (Nw H5 H6) (some 1)) := Hd.ag _ _ _ _ _ _ D12.out (Ag.below hb13)
  have hE13 := cell_keep hE12 hb13
  have hS13 := cell_keep hS12 hb13
  have hG13 := cell_keep hG12 hb13
  have S13 : Hid (RowF 3 42 RuleG (Nw H2 H3) (.slice a3 L.length c3) L w13) := S12.out.below stabRuleG hb13
  have B13 : Hid (Below w.heap.size w w13) := B12.out.trans (hb13.mono B12.out.size)
  clear hb13 hE12 hS12 hG12 S12 D12
  go_wp2_with fail
  refine (HT.out _ B13.out).mono ?_
  rintro e w14 ⟨o14, c14, rfl, f14, hb14⟩
  have O14 : Hid (RowC 3 RuleE w14 (.slice o14 xs.length c14) xs) := f14.here
  have D14 : Hid (Hd tau 6 (.row 42) w14 (.slice a6 L.length c6) cg (Nw H5 H6) (some 1)) := Hd.ag _ _ _ _ _ _ D13.out (Ag.below hb14)
  have hS14 := cell_keep hS13 hb14
  have hG14 := cell_keep hG13 hb14
  have S14 : Hid (RowF 3 42 RuleG (Nw H2 H3) (.slice a3 L.length c3) L w14) := S13.out.below stabRuleG hb14
  have B14 : Hid (Below w.heap.size w w14) := B13.out.trans (hb14.mono B13.out.size)
  clear hb14 f14 hE13 hS13 hG13 S13 D13
  go_wp2_with fail
  refine (HI.out _ _ B14.out O14.out).mono ?_
  rintro e w15 ⟨h0, rfl, hh0, hb15⟩
  obtain ⟨a15, c15, rfl⟩ := hh0.slice
  have bal15 := (Below.refl w15.heap.size w15).alloc (Nat.le_refl _) (.cells #[.slice a15 L.length c15] 28)
  have hb15a : Below w14.heap.size w14 (w15.alloc (.cells #[.slice a15 L.length c15] 28)) := hb15.trans (bal15.mono hb15.size)
  have Q15 : Hid (RowC 3 RuleE (w15.alloc (.cells #[.slice a15 L.length c15] 28)) (.slice a15 L.length c15) L) := (hh0.below stabRule bal15).rowC (fun F w vs x h => h.e)
  have D15 : Hid (Hd tau 6 (.row 42) (w15.alloc (.cells #[.slice a15 L.length c15] 28)) (.slice a6 L.length c6) cg (Nw H5 H6) (some 1)) := Hd.ag _ _ _ _ _ _ D14.out (Ag.below hb15a)
  have hS15 := cell_keep hS14 hb15a
  have hG15 := cell_keep hG14 hb15a
  have hH15 : (w15.alloc (.cells #[.slice a15 L.length c15] 28)).cell? ⟨w15.heap.size, 0, none⟩ = some (.slice a15 L.length c15) := box_at _ _ _ 0 _ rfl
  have S15 : Hid (RowF 3 42 RuleG (Nw H2 H3) (.slice a3 L.length c3) L (w15.alloc (.cells #[.slice a15 L.length c15] 28))) := S14.out.below stabRuleG hb15a
  have B15 : Hid (Below w.heap.size w (w15.alloc (.cells #[.slice a15 L.length c15] 28))) := B14.out.trans (hb15a.mono B14.out.size)
  clear hb15 hb15a hh0 bal15 hS14 hG14 S14 D14 O14
  go_wp2_with fail
  generalize w15.alloc (.cells #[.slice a15 L.length c15] 28) = W15 at *
  generalize w15.heap.size = H15 at *
  refine (HQL.out _ _ _ Q15.out (S15.out.rowC (fun F w vs x h => h.e))).mono ?_
  rintro e w16 ⟨rfl, hb16⟩
  have D16 : Hid (Hd tau 6 (.row 42) w16 (.slice a6 L.length c6) cg (Nw H5 H6) (some 1)) := Hd.ag _ _ _ _ _ _ D15.out (Ag.below hb16)
  have hG16 := cell_keep hG15 hb16
  have B16 : Hid (Below w.heap.size w w16) := B15.out.trans (hb16.mono B15.out.size)
  clear hb16 hG15 hS15 hH15 S15 D15 Q15
  go_wp2_with fail
  refine (HHg.out _ D16.out).mono ?_
  rintro e w17 ⟨rfl, hb17⟩
  have B17 : Hid (Below w.heap.size w w17) := B16.out.trans (hb17.mono B16.out.size)
  clear hb17
  go_wp2
  go_ret
  exact ⟨rfl, B17.out⟩

end Go.Proofs.YtkmkfpgaehgonaaGreatDoor

namespace Go.Proofs.YtkmkfpgaehgonaaGreatDoor
open Go.RowKit
theorem Tryz.et : Tryz.prog.globalNamed "errors.errorType" = some 1 := by kernel_rfl
theorem Tryz.rt : (Tryz.prog.cutTypes.find? (·.1 == "internal/reflectlite.rtype")).map (·.2) = some 227 := by kernel_rfl
theorem Tryz.oneRow : ((List.range 271).filter fun t => Tryz.prog.rowNamed t [101, 114, 114, 111, 114]) = [172] := by kernel_rfl
theorem Tryz.size : Tryz.prog.types.size = 271 := by kernel_rfl
theorem errTy_of {W : World} (h : handlesMet Tryz.prog [("errors.errorType", Rows.laid_errors_errorType)] W) : errTy W := by
  obtain ⟨name, u, ty, e1, e2, e3, e4, e5⟩ := h _ (List.mem_singleton.2 rfl)
  have en : name = [101, 114, 114, 111, 114] := (Option.some.inj e1).symm
  subst en
  obtain rfl := Option.some.inj (Tryz.rt.symm.trans e2)
  have hm : ty ∈ (List.range 271).filter fun t => Tryz.prog.rowNamed t [101, 114, 114, 111, 114] := List.mem_filter.2 ⟨List.mem_range.2 (by rw [← Tryz.size]; exact e3), e4⟩
  rw [Tryz.oneRow] at hm
  obtain rfl := List.mem_singleton.1 hm
  have hh : typeHandle Tryz.prog 172 = .pointer (some ⟨2, 172, none⟩) := by kernel_rfl
  rw [hh] at e5
  exact World.var?_cell Tryz.et e5 0
end Go.Proofs.YtkmkfpgaehgonaaGreatDoor
