/- The exact law on OpsGrammar, walked. -/
import Derived.Test.YtbjkfecailnelaaO13G
import Derived.Test.YtbjkfecailnelaaO13H
import Derived.Test.YtbjkfecailnelaaGEq
import Derived.Test.YtbjkfecailnelaaHdD
namespace Go.Proofs.Ytbjkfecailnelaa
open Go.RowKit
set_option linter.unusedVariables false

theorem sign13_one {s : ByteArray} (h : sign13 s = true) : s.size = 1 := by
  obtain ⟨b, _, hb⟩ := List.any_eq_true.1 h
  rw [decide_eq_true_eq] at hb
  rw [hb]
  rfl
theorem callD_tot (n : Int) : symTot (callD n) = 3 := rfl
theorem ifD_tot (n : Int) : symTot (ifD n) = 9 := rfl
theorem opAlt_tot (x : OpD) : altTot (opAltD x) = 19 + x.sign.size := by
  have h : altTot (opAltD x) = 4 + (symTot (ifD x.level) + (symTot (callD (if x.right then x.level + 1 else x.level)) + (x.sign.size + 0 + 0 + (symTot (callD (if x.right then x.level else x.level + 1)) + 0)))) := rfl
  rw [h, ifD_tot, callD_tot, callD_tot]
  omega
theorem sum_ops : ∀ xs : List OpD, (∀ x ∈ xs, x.sign.size = 1) → ((xs.map opAltD).map altTot).sum = 20 * xs.length
  | [], _ => rfl
  | x :: xs, h => by
    rw [List.map_cons, List.map_cons, List.sum_cons, sum_ops xs (fun y hy => h y (List.mem_cons_of_mem _ hy)), opAlt_tot, h x (List.mem_cons_self ..), List.length_cons]
    omega
theorem opsR_tot (xs : List OpD) : grammarTot (opsR xs) ≤ 1048576 := by
  unfold opsR
  split
  · rename_i hb
    obtain ⟨⟨h1, h6⟩, _⟩ := opsB_in hb
    have hs : ∀ x ∈ xs, x.sign.size = 1 := fun x hx => by
      obtain ⟨i, hi, rfl⟩ := List.getElem_of_mem hx
      unfold opsB at hb
      rw [Bool.and_eq_true, decide_eq_true_eq] at hb
      have h2 := List.all_eq_true.1 hb.1 i (List.mem_range.2 hi)
      rw [List.getD_eq_getElem?_getD, List.getElem?_eq_getElem hi] at h2
      have h3 : op13 xs i xs[i] = true := h2
      unfold op13 at h3
      rw [Bool.and_eq_true, Bool.and_eq_true] at h3
      exact sign13_one h3.1.1
    have hsum := sum_ops xs hs
    have hE : rowTot altTot (altsE xs) = (xs.length + 1) + (20 * xs.length + 2) := by
      unfold rowTot altsE
      rw [List.length_append, List.length_map, List.map_append, List.sum_append, hsum]
      rfl
    have h : grammarTot (opsG xs) = 3 + ((1 + 0 + rowTot altTot [[callD 0]]) + ((1 + 2 + rowTot altTot (altsE xs)) + ((1 + 0 + rowTot altTot altsA) + 0))) := rfl
    have hA : rowTot altTot altsA ≤ 100 := by decide
    have hS : rowTot altTot [[callD 0]] ≤ 100 := by decide
    rw [h, hE]
    omega
  · decide
theorem cell_grM {b o : Nat} {w w' : World} {x : Value} {ob : Option Nat} (h : w.cell? ⟨b, o, none⟩ = some x) (hm : w.grownBy w' ob) (hb : some b ≠ ob) : w'.cell? ⟨b, o, none⟩ = some x :=
  (World.cell?_of_block (hm.block b (World.block_lt_of_cell? w _ h) hb)).trans h
theorem cell_kpO {F : Nat → Prop} {b o : Nat} {w w' : World} {x : Value} (h : w.cell? ⟨b, o, none⟩ = some x) (hm : Kp F w w') (hb : ¬ F b) : w'.cell? ⟨b, o, none⟩ = some x :=
  (World.cell?_of_block (hm.block b (World.block_lt_of_cell? w _ h) hb)).trans h

set_option maxHeartbeats 6400000 in
set_option maxRecDepth 100000 in
theorem fnExactOpsGrammar_walk (v : Value) (xs : List OpD) (w : World) (h : Ops w v xs) (hin : RowInn OpIn xs) :
    Calls Try.prog 3 #[v] w fun e w' => e = .returned (.bool true) ∧ Below w.heap.size w w' := by
  have HR : Hid (Ops w v xs) := h
  have HSz : Hid (∀ W : World, Ops W v xs → Calls Try.prog 4 #[v, .int .i64 1048576] W fun e w' => ∃ r : Int, e = .returned (.int .i64 r) ∧ (r = -1 ∨ (0 ≤ r ∧ r + (rowTot opTot xs : Nat) = 1048576)) ∧ Below W.heap.size W w') := fun W hW => szOpS_any v xs 1048576 W (by omega) (by omega) hin hW
  have HIn : Hid (∀ x ∈ xs, x.sign.size ≤ maxLen) := fun x hx => (hin.2 x hx).1
  obtain ⟨a, cap, rfl⟩ := h.slice
  clear h hin
  go_enter Try.func3, Try.ntmps3
  go_wp2_with fail
  refine (HSz.out _ HR.out).mono ?_
  rintro e w1 ⟨r, rfl, hr, hb1⟩
  have B1 : Hid (Below w.heap.size w w1) := hb1
  clear hb1
  rcases hr with rfl | ⟨hr0, hr1⟩
  · go_wp2
    go_ret
    exact ⟨rfl, B1.out⟩
  have hr2 : ¬ r < 0 := by omega
  have hT : rowTot opTot xs ≤ 1048576 := by omega
  have hL : xs.length ≤ 1048576 := Nat.le_trans (rowTot_len opTot xs) hT
  have hzG := opsR_tot xs
  have HTo : Hid (∀ W, Below w.heap.size w W → _) := fun W hb => toOpS_own (.slice a xs.length cap) xs W hT (HR.out.below hb)
  have HSp : Hid (∀ (u : Value) (W : World), Ops W u xs → Calls Try.prog 5 #[u] W fun e w' => ∃ v, e = .returned (.tuple #[.agg #[v], .bool (opsB xs)]) ∧ RowF 3 43 RuleF (Nw W.heap.size w'.heap.size) v (opsR xs) w' ∧ Below W.heap.size W w') := fun u W hW => (specOpsGrammar_any u xs W hL hW).mono fun e w' h => by
    obtain ⟨h1, v, h2, h3⟩ := h
    exact ⟨v, h2, h3, h1⟩
  have HI : Hid (∀ (u : Value) (W : World), Ops W u xs → Calls Try.prog 7 #[u] W fun e w' => ∃ v, e = .returned (.tuple #[.agg #[v], .bool (opsB xs)]) ∧ RowF 3 43 RuleF (Nw W.heap.size w'.heap.size) v (opsR xs) w' ∧ Below W.heap.size W w') := fun u W hW => (implOpsGrammar_any u xs W hL HIn.out hW).mono fun e w' h => by
    obtain ⟨h1, v, h2, h3⟩ := h
    exact ⟨v, h2, h3, h1⟩
  have HEq : Hid (∀ (u u' : Value) (W : World), Ops W u xs → Ops W u' xs → Calls Try.prog 9 #[u, u'] W fun e w' => e = .returned (.bool true) ∧ Below W.heap.size W w') := fun u u' W h1 h2 => eqOpS_same u u' xs W hT h1 h2
  have HQ : Hid (∀ u v W, RowC 3 RuleE W u (opsR xs) → RowC 3 RuleE W v (opsR xs) → _) := fun u v W h h' => geqGrammar u v (opsR xs) W hzG h h'
  have HCg : Hid (((opsR xs).map cntRule).sum ≤ 3145728) := by have := cntGram_le (opsR xs); rw [Hid]; omega
  have HLn : Hid (xs.length ≤ 1048576) := hL
  generalize opsB xs = bb at *
  generalize opsR xs = L at *
  have hbb : (bb != bb) = false := by cases bb <;> rfl
  clear hr0 hr1 hT hL hzG HSz HIn
  go_wp2_with fail
  refine (HTo.out _ B1.out).mono ?_
  rintro e w2 ⟨a2, c2, rfl, hf2, hb2, _⟩
  have O2 : Hid (Ops w2 (.slice a2 xs.length c2) xs) := hf2 w2 (Nat.le_refl _) (fun _ _ _ => rfl)
  have B2 : Hid (Below w.heap.size w w2) := B1.out.trans (hb2.mono B1.out.size)
  clear hf2 hb2
  go_wp2_with fail
  refine (HSp.out _ _ O2.out).mono ?_
  rintro e w3 ⟨v3, rfl, hs3, hb3⟩
  obtain ⟨a3, c3, rfl⟩ := hs3.slice
  have bal3 := (Below.refl w3.heap.size w3).alloc (Nat.le_refl _) (.cells #[.slice a3 L.length c3] 26)
  have S3 : Hid (RowF 3 43 RuleF (Nw w2.heap.size w3.heap.size) (.slice a3 L.length c3) L (w3.alloc (.cells #[.slice a3 L.length c3] 26))) := hs3.below stabRule bal3
  have B3 : Hid (Below w.heap.size w (w3.alloc (.cells #[.slice a3 L.length c3] 26))) := (B2.out.trans (hb3.mono B2.out.size)).trans (bal3.mono (B2.out.trans (hb3.mono B2.out.size)).size)
  have hS3 : (w3.alloc (.cells #[.slice a3 L.length c3] 26)).cell? ⟨w3.heap.size, 0, none⟩ = some (.slice a3 L.length c3) := box_at _ _ _ 0 _ rfl
  have Z3 : Hid (w.heap.size ≤ w3.heap.size ∧ w3.heap.size < (w3.alloc (.cells #[.slice a3 L.length c3] 26)).heap.size) := ⟨(B2.out.trans (hb3.mono B2.out.size)).size, by simp⟩
  clear hb3 hs3 bal3 O2 HSp
  go_wp2_with fail
  generalize w3.alloc (.cells #[.slice a3 L.length c3] 26) = W3 at *
  generalize w3.heap.size = H3 at *
  generalize w2.heap.size = H2 at *
  refine (HTo.out _ B3.out).mono ?_
  rintro e w4 ⟨a4, c4, rfl, hf4, hb4, ⟨cs4, hw4⟩⟩
  have O4 : Hid (Ops w4 (.slice a4 xs.length c4) xs) := hf4 w4 (Nat.le_refl _) (fun _ _ _ => rfl)
  have HW4 : Hid (w4.ownsRow W3.heap.size 44 3 (.slice a4 xs.length c4) xs.length cs4) := hw4
  have HX4 : Hid (∀ q, (Value.slice a4 xs.length c4).ownBlock = some q → W3.heap.size ≤ q ∧ q < w4.heap.size) := fun q hq => World.ownsRow.lt hw4 q hq
  have S4 : Hid (RowF 3 43 RuleF (Nw H2 H3) (.slice a3 L.length c3) L w4) := S3.out.below stabRule hb4
  have B4 : Hid (Below w.heap.size w w4) := B3.out.trans (hb4.mono B3.out.size)
  have hS4 := cell_keep hS3 hb4
  have Z4 : Hid (W3.heap.size ≤ w4.heap.size) := hb4.size
  clear hf4 hb4 hw4 hS3 S3 B3
  go_wp2_with fail
  refine (HI.out _ _ O4.out).mono ?_
  rintro e w5 ⟨v5, rfl, hg5, hb5⟩
  obtain ⟨a5, c5, rfl⟩ := hg5.slice
  have bal5 := (Below.refl w5.heap.size w5).alloc (Nat.le_refl _) (.cells #[.slice a5 L.length c5] 26)
  have hb5a : Below w4.heap.size w4 (w5.alloc (.cells #[.slice a5 L.length c5] 26)) := hb5.trans (bal5.mono hb5.size)
  have G5 : Hid (RowF 3 43 RuleF (Nw w4.heap.size w5.heap.size) (.slice a5 L.length c5) L (w5.alloc (.cells #[.slice a5 L.length c5] 26))) := hg5.below stabRule bal5
  have S5 : Hid (RowF 3 43 RuleF (Nw H2 H3) (.slice a3 L.length c3) L (w5.alloc (.cells #[.slice a5 L.length c5] 26))) := S4.out.below stabRule hb5a
  have O5 : Hid (Ops (w5.alloc (.cells #[.slice a5 L.length c5] 26)) (.slice a4 xs.length c4) xs) := O4.out.below hb5a
  have HW5 : Hid ((w5.alloc (.cells #[.slice a5 L.length c5] 26)).ownsRow W3.heap.size 44 3 (.slice a4 xs.length c4) xs.length cs4) := own_below HW4.out hb5a
  have B5 : Hid (Below w.heap.size w (w5.alloc (.cells #[.slice a5 L.length c5] 26))) := B4.out.trans (hb5a.mono B4.out.size)
  have hS5 := cell_keep hS4 hb5a
  have hG5 : (w5.alloc (.cells #[.slice a5 L.length c5] 26)).cell? ⟨w5.heap.size, 0, none⟩ = some (.slice a5 L.length c5) := box_at _ _ _ 0 _ rfl
  have Z5 : Hid (w4.heap.size ≤ w5.heap.size) := hb5.size
  clear hb5 hb5a hg5 bal5 hS4 S4 B4 O4 HW4
  go_wp2_with fail
  generalize w5.alloc (.cells #[.slice a5 L.length c5] 26) = W5 at *
  generalize w5.heap.size = H5 at *
  generalize w4.heap.size = H4 at *
  refine (HQ.out _ _ _ (G5.out.rowC (fun F w vs x h => h.e)) (S5.out.rowC (fun F w vs x h => h.e))).mono ?_
  rintro e w6 ⟨rfl, hb6⟩
  have G6 : Hid (RowF 3 43 RuleF (Nw H4 H5) (.slice a5 L.length c5) L w6) := G5.out.below stabRule hb6
  have S6 : Hid (RowF 3 43 RuleF (Nw H2 H3) (.slice a3 L.length c3) L w6) := S5.out.below stabRule hb6
  have O6 : Hid (Ops w6 (.slice a4 xs.length c4) xs) := O5.out.below hb6
  have HW6 : Hid (w6.ownsRow W3.heap.size 44 3 (.slice a4 xs.length c4) xs.length cs4) := own_below HW5.out hb6
  have B6 : Hid (Below w.heap.size w w6) := B5.out.trans (hb6.mono B5.out.size)
  have hS6 := cell_keep hS5 hb6
  have hG6 := cell_keep hG5 hb6
  clear hb6 hS5 hG5 S5 G5 B5 O5 HW5
  go_wp2_with fail
  refine (HTo.out _ B6.out).mono ?_
  rintro e w7 ⟨a7, c7, rfl, hf7, hb7, _⟩
  have O7 : Hid (Ops w7 (.slice a7 xs.length c7) xs) := hf7 w7 (Nat.le_refl _) (fun _ _ _ => rfl)
  have Q7 : Hid (Ops w7 (.slice a4 xs.length c4) xs) := O6.out.below hb7
  have G7 : Hid (RowF 3 43 RuleF (Nw H4 H5) (.slice a5 L.length c5) L w7) := G6.out.below stabRule hb7
  have S7 : Hid (RowF 3 43 RuleF (Nw H2 H3) (.slice a3 L.length c3) L w7) := S6.out.below stabRule hb7
  have HW7 : Hid (w7.ownsRow W3.heap.size 44 3 (.slice a4 xs.length c4) xs.length cs4) := own_below HW6.out hb7
  have B7 : Hid (Below w.heap.size w w7) := B6.out.trans (hb7.mono B6.out.size)
  have hS7 := cell_keep hS6 hb7
  have hG7 := cell_keep hG6 hb7
  clear hf7 hb7 hS6 hG6 S6 G6 B6 O6 HW6
  go_wp2_with fail
  refine (HEq.out _ _ _ Q7.out O7.out).mono ?_
  rintro e w8 ⟨rfl, hb8⟩
  have G8 : Hid (RowF 3 43 RuleF (Nw H4 H5) (.slice a5 L.length c5) L w8) := G7.out.below stabRule hb8
  have S8 : Hid (RowF 3 43 RuleF (Nw H2 H3) (.slice a3 L.length c3) L w8) := S7.out.below stabRule hb8
  have HW8 : Hid (w8.ownsRow W3.heap.size 44 3 (.slice a4 xs.length c4) xs.length cs4) := own_below HW7.out hb8
  have B8 : Hid (Below w.heap.size w w8) := B7.out.trans (hb8.mono B7.out.size)
  have hS8 := cell_keep hS7 hb8
  have hG8 := cell_keep hG7 hb8
  clear hb8 hS7 hG7 S7 G7 B7 O7 Q7 HW7
  go_wp2_with fail
  refine (markOpS_held W3.heap.size (.slice a4 xs.length c4) xs.length cs4 1 w8 HLn.out (by omega) (by omega) HW8.out).mono ?_
  rintro e w9 ⟨rfl, hgr9⟩
  obtain ⟨hz3a, hz3b⟩ := Z3.out
  have hz4 := Z4.out
  have hz5 := Z5.out
  have hrk : ¬ ((1 + 3 * xs.length : Nat) : Int) < 0 := by omega
  have hx : ∀ q, (Value.slice a4 xs.length c4).ownBlock = some q → W3.heap.size ≤ q ∧ q < H4 := HX4.out
  have hS9 := cell_grM hS8 hgr9 (fun e => by have := hx _ e.symm; omega)
  have hG9 := cell_grM hG8 hgr9 (fun e => by have := hx _ e.symm; omega)
  have G9 : Hid (RowF 3 43 RuleF (Nw H4 H5) (.slice a5 L.length c5) L w9) := G8.out.ag stabRule ⟨hgr9.size, fun q hq hl => hgr9.block q hl (fun e => by have := hx q e.symm; have := hq.1; omega)⟩
  have S9 : Hid (RowF 3 43 RuleF (Nw H2 H3) (.slice a3 L.length c3) L w9) := S8.out.ag stabRule ⟨hgr9.size, fun q hq hl => hgr9.block q hl (fun e => by have := hx q e.symm; have := hq.2; omega)⟩
  have B9 : Hid (Below w.heap.size w w9) := B8.out.grown hgr9 B8.out.size (fun q hq => by have := hx q hq; omega)
  clear hgr9 hS8 hG8 S8 G8 B8 HW8 hx
  generalize ((1 + 3 * xs.length : Nat) : Int) = rk at *
  go_wp2_with fail
  refine (HQ.out _ _ _ (G9.out.rowC (fun F w vs x h => h.e)) (S9.out.rowC (fun F w vs x h => h.e))).mono ?_
  rintro e w10 ⟨rfl, hb10⟩
  have G10 : Hid (RowF 3 43 RuleF (Nw H4 H5) (.slice a5 L.length c5) L w10) := G9.out.below stabRule hb10
  have S10 : Hid (RowF 3 43 RuleF (Nw H2 H3) (.slice a3 L.length c3) L w10) := S9.out.below stabRule hb10
  have B10 : Hid (Below w.heap.size w w10) := B9.out.trans (hb10.mono B9.out.size)
  have hS10 := cell_keep hS9 hb10
  have hG10 := cell_keep hG9 hb10
  clear hb10 hS9 hG9 S9 G9 B9
  obtain ⟨cg, hcg, hHd⟩ := (gram_hd G10.out).2
  have hcg2 : cg ≤ 3145728 := Nat.le_trans hcg HCg.out
  obtain ⟨m, hm, hm0⟩ : ∃ m : Int, m = ((1 + cg : Nat) : Int) ∧ ¬ m < 0 := ⟨_, rfl, by omega⟩
  have HMg : Hid (Calls Try.prog 11 #[.agg #[.slice a5 L.length c5], .int .i64 1] w10 fun e w' => e = .returned (.int .i64 m) ∧ Kp (Nw H4 H5) w10 w' ∧ Hd tau 6 (.row 43) w' (.slice a5 L.length c5) cg (Nw H4 H5) (some 1)) := by
    rw [hm]
    exact hmGrammar (n := 0) _ 1 w10 (by omega) (by omega) hHd
  have HHg : Hid (∀ W, Hd tau 6 (.row 43) W (.slice a5 L.length c5) cg (Nw H4 H5) (some 1) → Calls Try.prog 12 #[.agg #[.slice a5 L.length c5], .int .i64 1] W fun e w' => e = .returned (.int .i64 m) ∧ Below W.heap.size W w') := by
    rw [hm]
    exact fun W hW => hhGrammar (n := 0) _ 1 W (by omega) (by omega) hW
  clear hm hcg hHd hcg2 HCg
  go_wp2_with fail
  refine HMg.out.mono ?_
  rintro e w11 ⟨rfl, hk11, hd11⟩
  have D11 : Hid (Hd tau 6 (.row 43) w11 (.slice a5 L.length c5) cg (Nw H4 H5) (some 1)) := hd11
  have hS11 := cell_kpO hS10 hk11 (fun h => by have h1 := h.1; omega)
  have hG11 := cell_kpO hG10 hk11 (fun h => by have h1 := h.2; omega)
  have S11 : Hid (RowF 3 43 RuleF (Nw H2 H3) (.slice a3 L.length c3) L w11) := S10.out.ag stabRule (hk11.ag (fun k hk h => by have h0 := hk.2; have h1 := h.1; omega))
  have B11 : Hid (Below w.heap.size w w11) := Kp.onto B10.out (Nat.le_refl _) (fun k hk => by have := hk.1; omega) hk11
  clear hk11 hd11 hS10 hG10 G10 S10 HMg B10
  go_wp2_with fail
  refine (HHg.out _ D11.out).mono ?_
  rintro e w12 ⟨rfl, hb12⟩
  have D12 : Hid (Hd tau 6 (.row 43) w12 (.slice a5 L.length c5) cg (Nw H4 H5) (some 1)) := Hd.ag _ _ _ _ _ _ D11.out (Ag.below hb12)
  have hS12 := cell_keep hS11 hb12
  have hG12 := cell_keep hG11 hb12
  have S12 : Hid (RowF 3 43 RuleF (Nw H2 H3) (.slice a3 L.length c3) L w12) := S11.out.below stabRule hb12
  have B12 : Hid (Below w.heap.size w w12) := B11.out.trans (hb12.mono B11.out.size)
  clear hb12 hS11 hG11 S11 D11 B11
  go_wp2_with fail
  refine (HTo.out _ B12.out).mono ?_
  rintro e w13 ⟨a13, c13, rfl, hf13, hb13, _⟩
  have O13 : Hid (Ops w13 (.slice a13 xs.length c13) xs) := hf13 w13 (Nat.le_refl _) (fun _ _ _ => rfl)
  have D13 : Hid (Hd tau 6 (.row 43) w13 (.slice a5 L.length c5) cg (Nw H4 H5) (some 1)) := Hd.ag _ _ _ _ _ _ D12.out (Ag.below hb13)
  have hS13 := cell_keep hS12 hb13
  have hG13 := cell_keep hG12 hb13
  have S13 : Hid (RowF 3 43 RuleF (Nw H2 H3) (.slice a3 L.length c3) L w13) := S12.out.below stabRule hb13
  have B13 : Hid (Below w.heap.size w w13) := B12.out.trans (hb13.mono B12.out.size)
  clear hf13 hb13 hS12 hG12 S12 D12 B12
  go_wp2_with fail
  refine (HI.out _ _ O13.out).mono ?_
  rintro e w14 ⟨v14, rfl, hh14, hb14⟩
  obtain ⟨a14, c14, rfl⟩ := hh14.slice
  have bal14 := (Below.refl w14.heap.size w14).alloc (Nat.le_refl _) (.cells #[.slice a14 L.length c14] 26)
  have hb14a : Below w13.heap.size w13 (w14.alloc (.cells #[.slice a14 L.length c14] 26)) := hb14.trans (bal14.mono hb14.size)
  have Q14 : Hid (RowC 3 RuleE (w14.alloc (.cells #[.slice a14 L.length c14] 26)) (.slice a14 L.length c14) L) := (hh14.below stabRule bal14).rowC (fun F w vs x h => h.e)
  have D14 : Hid (Hd tau 6 (.row 43) (w14.alloc (.cells #[.slice a14 L.length c14] 26)) (.slice a5 L.length c5) cg (Nw H4 H5) (some 1)) := Hd.ag _ _ _ _ _ _ D13.out (Ag.below hb14a)
  have hS14 := cell_keep hS13 hb14a
  have hG14 := cell_keep hG13 hb14a
  have hH14 : (w14.alloc (.cells #[.slice a14 L.length c14] 26)).cell? ⟨w14.heap.size, 0, none⟩ = some (.slice a14 L.length c14) := box_at _ _ _ 0 _ rfl
  have S14 : Hid (RowF 3 43 RuleF (Nw H2 H3) (.slice a3 L.length c3) L (w14.alloc (.cells #[.slice a14 L.length c14] 26))) := S13.out.below stabRule hb14a
  have B14 : Hid (Below w.heap.size w (w14.alloc (.cells #[.slice a14 L.length c14] 26))) := B13.out.trans (hb14a.mono B13.out.size)
  clear hb14 hb14a hh14 bal14 hS13 hG13 S13 D13 B13 O13
  go_wp2_with fail
  generalize w14.alloc (.cells #[.slice a14 L.length c14] 26) = W14 at *
  generalize w14.heap.size = H14 at *
  refine (HQ.out _ _ _ Q14.out (S14.out.rowC (fun F w vs x h => h.e))).mono ?_
  rintro e w15 ⟨rfl, hb15⟩
  have D15 : Hid (Hd tau 6 (.row 43) w15 (.slice a5 L.length c5) cg (Nw H4 H5) (some 1)) := Hd.ag _ _ _ _ _ _ D14.out (Ag.below hb15)
  have hG15 := cell_keep hG14 hb15
  have B15 : Hid (Below w.heap.size w w15) := B14.out.trans (hb15.mono B14.out.size)
  clear hb15 hG14 hS14 hH14 S14 D14 Q14 B14
  go_wp2_with fail
  refine (HHg.out _ D15.out).mono ?_
  rintro e w16 ⟨rfl, hb16⟩
  have B16 : Hid (Below w.heap.size w w16) := B15.out.trans (hb16.mono B15.out.size)
  clear hb16
  go_wp2
  go_ret
  exact ⟨rfl, B16.out⟩
end Go.Proofs.Ytbjkfecailnelaa
