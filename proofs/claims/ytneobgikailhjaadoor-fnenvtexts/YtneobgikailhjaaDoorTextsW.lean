/- The law on what is told of drawn names, walked. -/
import Derived.Test.YtneobgikailhjaaDoorTextInj
import Derived.Test.YtneobgikailhjaaDoorEnvTop
import Derived.Test.YtneobgikailhjaaDoorSameV
namespace Go.Proofs.YtneobgikailhjaaDoor
open Go.RowKit

theorem totS_le : ∀ (xs : List VarD), (∀ x ∈ xs, x.1.size ≤ 5) → totS xs ≤ 5 * xs.length
  | [], _ => Nat.le_refl _
  | x :: xs, h => by
    have h1 := h x (List.mem_cons_self ..)
    have h2 := totS_le xs (fun y hy => h y (List.mem_cons_of_mem _ hy))
    simp only [totS, List.map_cons, List.sum_cons, List.length_cons] at h2 ⊢
    omega

theorem big_txt (a : Option Addr) (n cap : Nat) (w : World) :
    Calls Tryd.prog 4 #[.slice a n cap] w fun e w' => e = .returned (.bool (decide (1048576 < (n : Int)))) ∧ w' = w := by
  go_enter Tryd.func4, Tryd.ntmps4
  go_wp2
  go_ret
  exact ⟨rfl, rfl⟩

/-- Both texts of a drawn list. -/
theorem textBoth {xs : List VarD} (hl : xs.length ≤ 8) (h : ∀ x ∈ xs, x.1.size ≤ 5 ∧ (-10000 ≤ x.2 ∧ x.2 ≤ 10000)) (v : Value) (w : World) (hr : VRow w v xs) :
    (Pow10 w → Calls Tryd.prog 8 #[v] w fun e w' => e = .returned (.string (textB xs)) ∧ Below w.heap.size w w') ∧ Calls Tryd.prog 9 #[v] w fun e w' => e = .returned (.string (textB xs)) ∧ Below w.heap.size w w' := by
  have ht := totS_le xs (fun x hx => (h x hx).1)
  have hb : ∀ x ∈ xs, -9223372036854775808 ≤ x.2 ∧ x.2 ≤ 9223372036854775807 := fun x hx => by have := (h x hx).2; omega
  exact ⟨fun hT => implEnvText_any v xs w (by omega) (by omega) hb hr hT, specEnvText_any v xs w (by omega) (by omega) hb hr⟩

theorem n_name : nameB ⟨#[110]⟩ = true := by decide
theorem put_text {xs : List VarD} {num : Int} (h : EnvGood xs 4) (hr : -9999 ≤ num ∧ num ≤ 9999) :
    setL xs ⟨#[110]⟩ num = putB xs ⟨#[110]⟩ num ∧ (putB xs ⟨#[110]⟩ num).length ≤ 8 ∧ (∀ x ∈ putB xs ⟨#[110]⟩ num, x.1.size ≤ 5 ∧ (-10000 ≤ x.2 ∧ x.2 ≤ 10000)) ∧ (∀ x ∈ putB xs ⟨#[110]⟩ num, Fine x) := by
  have h1 := chain_put xs none ⟨#[110]⟩ num h.1 n_name hr trivial
  have h2 := put_len xs none ⟨#[110]⟩ num h.1
  have h3 := h.2.1
  refine ⟨setL_yes (by rw [envB, h1, Bool.true_and, decide_eq_true_eq]; omega), by omega, fun x hx => ?_, fine_chain h1⟩
  rcases put_mem hx with hx | rfl
  · exact (anyV_good h).2.1 x hx
  · exact ⟨by show 1 ≤ 5; omega, by show -10000 ≤ num; omega, by show num ≤ 10000; omega⟩

theorem lit_vrow (w : World) : VRow (w.alloc (.cells #[.string ⟨#[97]⟩, .int .i64 (-3), .string ⟨#[98]⟩, .int .i64 4] 31)) (.slice (some ⟨w.heap.size, 0, none⟩) 2 2) litV := by
  have hb : (w.alloc (.cells #[.string ⟨#[97]⟩, .int .i64 (-3), .string ⟨#[98]⟩, .int .i64 4] 31)).heap[w.heap.size]? = some (.cells #[.string ⟨#[97]⟩, .int .i64 (-3), .string ⟨#[98]⟩, .int .i64 4] 31) := heap_alloc_new w _
  refine ⟨_, _, rfl, (fun h => by cases h), fun _ => ⟨w.heap.size, 0, rfl, by simp, fun i hi => ?_⟩⟩
  have hi2 : i < 2 := hi
  match i, hi2 with
  | 0, _ => exact ⟨by rw [cell_of_row _ _ _ _ _ _ hb]; rfl, by rw [cell_of_row _ _ _ _ _ _ hb]; rfl⟩
  | 1, _ => exact ⟨by rw [cell_of_row _ _ _ _ _ _ hb]; rfl, by rw [cell_of_row _ _ _ _ _ _ hb]; rfl⟩

set_option maxHeartbeats 3200000 in
set_option maxRecDepth 100000 in
theorem fnEnvTexts_walk (a : Option Addr) (n cap : Nat) (w : World) (hcode : CodeRow w (.slice a n cap) n) (hT : Pow10 w) :
    Calls Tryd.prog 3 #[.slice a n cap] w fun e w' => e = .returned (.bool true) ∧ Below w.heap.size w w' := by
  have HC : Hid (CodeRow w (.slice a n cap) n) := hcode
  have HP : Hid (∀ W, Below w.heap.size w W → Pow10 W) := fun W hb => tab_below hT hb
  clear hcode hT
  by_cases hn : n ≤ 1048576
  · have hd : decide (1048576 < (n : Int)) = false := by simp; omega
    go_enter Tryd.func3, Tryd.ntmps3
    go_wp2_with fail
    refine (big_txt a n cap _).mono ?_
    rintro e wq ⟨rfl, hw⟩
    rw [hw, hd]
    clear hw wq
    go_wp2_with fail
    refine (drawEnv_any w _ n _ (by omega) HC.out (Below.refl _ _)).mono ?_
    rintro e w1 ⟨o, xs, rfl, hgood, ho, hb1⟩
    have B1 : Hid (Below w.heap.size w w1) := hb1
    have O1 : Hid (VRow w1 o xs) := ho.row
    have hxl : xs.length ≤ 4 := hgood.2.1
    obtain ⟨s1, l1, r1, f1⟩ := put_text (num := 7) hgood (by omega)
    obtain ⟨s2, l2, r2, f2⟩ := put_text (num := -7) hgood (by omega)
    have HS1 : Hid (∀ (v : Value) (W : World), VRow W v xs → Calls Tryd.prog 6 #[v, .string ⟨#[110]⟩, .int .i64 7] W fun e w' => ∃ o, e = .returned (.tuple #[o, .bool (setOk xs ⟨#[110]⟩ 7)]) ∧ OwnV W.heap.size o (putB xs ⟨#[110]⟩ 7) w' ∧ Below W.heap.size W w') := fun v W hv => by
      have := specEnvSet_any v xs ⟨#[110]⟩ 7 W (by omega) (fun x hx => by have := ((anyV_good hgood).2.1 x hx).1; omega) (by decide) hv
      rwa [s1] at this
    have HS2 : Hid (∀ (v : Value) (W : World), VRow W v xs → Calls Tryd.prog 6 #[v, .string ⟨#[110]⟩, .int .i64 (-7)] W fun e w' => ∃ o, e = .returned (.tuple #[o, .bool (setOk xs ⟨#[110]⟩ (-7))]) ∧ OwnV W.heap.size o (putB xs ⟨#[110]⟩ (-7)) w' ∧ Below W.heap.size W w') := fun v W hv => by
      have := specEnvSet_any v xs ⟨#[110]⟩ (-7) W (by omega) (fun x hx => by have := ((anyV_good hgood).2.1 x hx).1; omega) (by decide) hv
      rwa [s2] at this
    have HNe : Hid (¬ textB (putB xs ⟨#[110]⟩ 7) = textB (putB xs ⟨#[110]⟩ (-7))) := fun h => by
      have e := text_inj f1 f2 h
      have g1 := get_put xs none ⟨#[110]⟩ 7 hgood.1
      have g2 := get_put xs none ⟨#[110]⟩ (-7) hgood.1
      rw [e, g2] at g1
      cases g1
    have HEq : Hid (textB (putB xs ⟨#[110]⟩ 7) = textB xs → putB xs ⟨#[110]⟩ 7 = xs) := fun h => text_inj f1 (fine_chain hgood.1) h
    have HTx : Hid (∀ (v : Value) (W : World), VRow W v xs → _) := textBoth (xs := xs) (by omega) (anyV_good hgood).2.1
    have HTy : Hid (∀ (v : Value) (W : World), VRow W v (putB xs ⟨#[110]⟩ 7) → _) := textBoth l1 r1
    have HTz : Hid (∀ (v : Value) (W : World), VRow W v (putB xs ⟨#[110]⟩ (-7)) → _) := textBoth l2 r2
    obtain ⟨ao, capo, rfl⟩ := ho.row.slice
    clear hb1 ho s1 s2 r1 r2 f1 f2 hgood
    generalize putB xs ⟨#[110]⟩ 7 = ys at *
    generalize putB xs ⟨#[110]⟩ (-7) = zs at *
    generalize setOk xs ⟨#[110]⟩ 7 = b1 at *
    generalize setOk xs ⟨#[110]⟩ (-7) = b2 at *
    go_wp2_with fail
    refine (HS1.out _ _ O1.out).mono ?_
    rintro e w2 ⟨y, rfl, hy, hb2⟩
    have B2 : Hid (Below w.heap.size w w2) := B1.out.trans (hb2.mono B1.out.size)
    have O2 : Hid (VRow w2 (.slice ao xs.length capo) xs) := O1.out.below hb2
    have Y2 : Hid (VRow w2 y ys) := hy.row
    clear hb2 hy HS1
    go_wp2_with fail
    refine (HS2.out _ _ O2.out).mono ?_
    rintro e w3 ⟨z, rfl, hz, hb3⟩
    have B3 : Hid (Below w.heap.size w w3) := B2.out.trans (hb3.mono B2.out.size)
    have O3 : Hid (VRow w3 (.slice ao xs.length capo) xs) := O2.out.below hb3
    have Y3 : Hid (VRow w3 y ys) := Y2.out.below hb3
    have Z3 : Hid (VRow w3 z zs) := hz.row
    clear hb3 hz HS2
    go_wp2_with fail
    refine (drawEnvText_any w _ n _ (by omega) HC.out B3.out).mono ?_
    rintro e w4 ⟨q, ts, rfl, hany, hq, hb4⟩
    have B4 : Hid (Below w.heap.size w w4) := B3.out.trans (hb4.mono B3.out.size)
    have O4 : Hid (VRow w4 (.slice ao xs.length capo) xs) := O3.out.below hb4
    have Y4 : Hid (VRow w4 y ys) := Y3.out.below hb4
    have Z4 : Hid (VRow w4 z zs) := Z3.out.below hb4
    have Q4 : Hid (VRow w4 q ts) := hq.row
    have HTq : Hid (∀ (v : Value) (W : World), VRow W v ts → _) := textBoth hany.1 hany.2.1
    obtain ⟨aq, capq, rfl⟩ := hq.row.slice
    obtain ⟨ay, capy, rfl⟩ := Y4.out.slice
    obtain ⟨az, capz, rfl⟩ := Z4.out.slice
    clear hb4 hq hany
    have hb := beq_yes (rfl : textB xs = textB xs)
    go_wp2_with fail
    refine ((HTx.out _ _ O4.out).1 (HP.out _ B4.out)).mono ?_
    rintro e w5 ⟨rfl, hb5⟩
    have B5 : Hid (Below w.heap.size w w5) := B4.out.trans (hb5.mono B4.out.size)
    have O5 : Hid (VRow w5 (.slice ao xs.length capo) xs) := O4.out.below hb5
    have Y5 : Hid (VRow w5 (.slice ay ys.length capy) ys) := Y4.out.below hb5
    have Z5 : Hid (VRow w5 (.slice az zs.length capz) zs) := Z4.out.below hb5
    have Q5 : Hid (VRow w5 (.slice aq ts.length capq) ts) := Q4.out.below hb5
    clear hb5
    go_wp2_with fail
    refine (HTx.out _ _ O5.out).2.mono ?_
    rintro e w6 ⟨rfl, hb6⟩
    have B6 : Hid (Below w.heap.size w w6) := B5.out.trans (hb6.mono B5.out.size)
    have O6 : Hid (VRow w6 (.slice ao xs.length capo) xs) := O5.out.below hb6
    have Y6 : Hid (VRow w6 (.slice ay ys.length capy) ys) := Y5.out.below hb6
    have Z6 : Hid (VRow w6 (.slice az zs.length capz) zs) := Z5.out.below hb6
    have Q6 : Hid (VRow w6 (.slice aq ts.length capq) ts) := Q5.out.below hb6
    clear hb6
    have hb' := beq_no HNe.out
    go_wp2_with fail
    refine ((HTy.out _ _ Y6.out).1 (HP.out _ B6.out)).mono ?_
    rintro e w7 ⟨rfl, hb7⟩
    have B7 : Hid (Below w.heap.size w w7) := B6.out.trans (hb7.mono B6.out.size)
    have O7 : Hid (VRow w7 (.slice ao xs.length capo) xs) := O6.out.below hb7
    have Y7 : Hid (VRow w7 (.slice ay ys.length capy) ys) := Y6.out.below hb7
    have Z7 : Hid (VRow w7 (.slice az zs.length capz) zs) := Z6.out.below hb7
    have Q7 : Hid (VRow w7 (.slice aq ts.length capq) ts) := Q6.out.below hb7
    clear hb7
    go_wp2_with fail
    refine ((HTz.out _ _ Z7.out).1 (HP.out _ B7.out)).mono ?_
    rintro e w8 ⟨rfl, hb8⟩
    have B8 : Hid (Below w.heap.size w w8) := B7.out.trans (hb8.mono B7.out.size)
    have O8 : Hid (VRow w8 (.slice ao xs.length capo) xs) := O7.out.below hb8
    have Y8 : Hid (VRow w8 (.slice ay ys.length capy) ys) := Y7.out.below hb8
    have Q8 : Hid (VRow w8 (.slice aq ts.length capq) ts) := Q7.out.below hb8
    clear hb8
    go_wp2_with fail
    refine ((HTy.out _ _ Y8.out).1 (HP.out _ B8.out)).mono ?_
    rintro e w9 ⟨rfl, hb9⟩
    have B9 : Hid (Below w.heap.size w w9) := B8.out.trans (hb9.mono B8.out.size)
    have O9 : Hid (VRow w9 (.slice ao xs.length capo) xs) := O8.out.below hb9
    have Y9 : Hid (VRow w9 (.slice ay ys.length capy) ys) := Y8.out.below hb9
    have Q9 : Hid (VRow w9 (.slice aq ts.length capq) ts) := Q8.out.below hb9
    clear hb9
    go_wp2_with fail
    refine ((HTx.out _ _ O9.out).1 (HP.out _ B9.out)).mono ?_
    rintro e w10 ⟨rfl, hb10⟩
    have B10 : Hid (Below w.heap.size w w10) := B9.out.trans (hb10.mono B9.out.size)
    have O10 : Hid (VRow w10 (.slice ao xs.length capo) xs) := O9.out.below hb10
    have Y10 : Hid (VRow w10 (.slice ay ys.length capy) ys) := Y9.out.below hb10
    have Q10 : Hid (VRow w10 (.slice aq ts.length capq) ts) := Q9.out.below hb10
    clear hb10
    have HSm : Hid (_) := sameVars_any _ _ ys xs _ (by omega) Y10.out O10.out
    have HEE : Hid ((decide (ys = xs) = true ∧ textB ys = textB xs) ∨ (decide (ys = xs) = false ∧ ¬ textB ys = textB xs)) := by
      by_cases e : ys = xs
      · exact .inl ⟨by simp [e], by rw [e]⟩
      · exact .inr ⟨by simp [e], fun h => e (HEq.out h)⟩
    have HLt : Hid (textB litV = ⟨#[97, 61, 45, 51, 44, 98, 61, 52]⟩) := lit_text
    have HTl : Hid (∀ (v : Value) (W : World), VRow W v litV → _) := textBoth (xs := litV) (by decide) (fun x hx => by
      simp only [litV, List.mem_cons, List.not_mem_nil, or_false] at hx
      rcases hx with rfl | rfl
      · exact ⟨by show 1 ≤ 5; omega, by show (-10000 : Int) ≤ -3; omega, by show (-3 : Int) ≤ 10000; omega⟩
      · exact ⟨by show 1 ≤ 5; omega, by show (-10000 : Int) ≤ 4; omega, by show (4 : Int) ≤ 10000; omega⟩)
    rcases HEE.out with ⟨hdec, htt⟩ | ⟨hdec, htt⟩
    · have hb5 := beq_yes htt
      rw [hdec] at HSm
      clear hdec htt HEE HEq HNe
      go_wp2_with fail
      refine Calls.mono HSm.out ?_
      rintro e w11 ⟨rfl, qq, hqq⟩
      have B11 : Hid (Below w.heap.size w w11) := by rw [hqq]; exact bel_drewN B10.out qq
      have Q11 : Hid (VRow w11 (.slice aq ts.length capq) ts) := by rw [hqq]; exact Q10.out.below (bel_drewN (Below.refl _ _) qq)
      clear hqq HSm
      have hb12 := (Below.refl w11.heap.size w11).alloc (Nat.le_refl _) (.cells #[.string ⟨#[97]⟩, .int .i64 (-3), .string ⟨#[98]⟩, .int .i64 4] 31)
      have B12 : Hid (Below w.heap.size w (w11.alloc (.cells #[.string ⟨#[97]⟩, .int .i64 (-3), .string ⟨#[98]⟩, .int .i64 4] 31))) := B11.out.trans (hb12.mono B11.out.size)
      have Q12 : Hid (VRow (w11.alloc (.cells #[.string ⟨#[97]⟩, .int .i64 (-3), .string ⟨#[98]⟩, .int .i64 4] 31)) (.slice aq ts.length capq) ts) := Q11.out.below hb12
      have L12 : Hid (VRow (w11.alloc (.cells #[.string ⟨#[97]⟩, .int .i64 (-3), .string ⟨#[98]⟩, .int .i64 4] 31)) (.slice (some ⟨w11.heap.size, 0, none⟩) 2 2) litV) := lit_vrow w11
      clear hb12
      go_wp2_with fail
      refine ((HTl.out _ _ L12.out).1 (HP.out _ B12.out)).mono ?_
      rw [HLt.out]
      rintro e w13 ⟨rfl, hb13⟩
      have B13 : Hid (Below w.heap.size w w13) := B12.out.trans (hb13.mono B12.out.size)
      have Q13 : Hid (VRow w13 (.slice aq ts.length capq) ts) := Q12.out.below hb13
      clear hb13
      have hb6 := beq_yes (rfl : textB ts = textB ts)
      go_wp2_with fail
      refine ((HTq.out _ _ Q13.out).1 (HP.out _ B13.out)).mono ?_
      rintro e w14 ⟨rfl, hb14⟩
      have B14 : Hid (Below w.heap.size w w14) := B13.out.trans (hb14.mono B13.out.size)
      have Q14 : Hid (VRow w14 (.slice aq ts.length capq) ts) := Q13.out.below hb14
      clear hb14
      go_wp2_with fail
      refine (HTq.out _ _ Q14.out).2.mono ?_
      rintro e w15 ⟨rfl, hb15⟩
      have B15 : Hid (Below w.heap.size w w15) := B14.out.trans (hb15.mono B14.out.size)
      clear hb15
      go_wp2
      go_ret
      exact ⟨rfl, B15.out⟩
    · have hb5 := beq_no htt
      rw [hdec] at HSm
      clear hdec htt HEE HEq HNe
      go_wp2_with fail
      refine Calls.mono HSm.out ?_
      rintro e w11 ⟨rfl, qq, hqq⟩
      have B11 : Hid (Below w.heap.size w w11) := by rw [hqq]; exact bel_drewN B10.out qq
      have Q11 : Hid (VRow w11 (.slice aq ts.length capq) ts) := by rw [hqq]; exact Q10.out.below (bel_drewN (Below.refl _ _) qq)
      clear hqq HSm
      have hb12 := (Below.refl w11.heap.size w11).alloc (Nat.le_refl _) (.cells #[.string ⟨#[97]⟩, .int .i64 (-3), .string ⟨#[98]⟩, .int .i64 4] 31)
      have B12 : Hid (Below w.heap.size w (w11.alloc (.cells #[.string ⟨#[97]⟩, .int .i64 (-3), .string ⟨#[98]⟩, .int .i64 4] 31))) := B11.out.trans (hb12.mono B11.out.size)
      have Q12 : Hid (VRow (w11.alloc (.cells #[.string ⟨#[97]⟩, .int .i64 (-3), .string ⟨#[98]⟩, .int .i64 4] 31)) (.slice aq ts.length capq) ts) := Q11.out.below hb12
      have L12 : Hid (VRow (w11.alloc (.cells #[.string ⟨#[97]⟩, .int .i64 (-3), .string ⟨#[98]⟩, .int .i64 4] 31)) (.slice (some ⟨w11.heap.size, 0, none⟩) 2 2) litV) := lit_vrow w11
      clear hb12
      go_wp2_with fail
      refine ((HTl.out _ _ L12.out).1 (HP.out _ B12.out)).mono ?_
      rw [HLt.out]
      rintro e w13 ⟨rfl, hb13⟩
      have B13 : Hid (Below w.heap.size w w13) := B12.out.trans (hb13.mono B12.out.size)
      have Q13 : Hid (VRow w13 (.slice aq ts.length capq) ts) := Q12.out.below hb13
      clear hb13
      have hb6 := beq_yes (rfl : textB ts = textB ts)
      go_wp2_with fail
      refine ((HTq.out _ _ Q13.out).1 (HP.out _ B13.out)).mono ?_
      rintro e w14 ⟨rfl, hb14⟩
      have B14 : Hid (Below w.heap.size w w14) := B13.out.trans (hb14.mono B13.out.size)
      have Q14 : Hid (VRow w14 (.slice aq ts.length capq) ts) := Q13.out.below hb14
      clear hb14
      go_wp2_with fail
      refine (HTq.out _ _ Q14.out).2.mono ?_
      rintro e w15 ⟨rfl, hb15⟩
      have B15 : Hid (Below w.heap.size w w15) := B14.out.trans (hb15.mono B14.out.size)
      clear hb15
      go_wp2
      go_ret
      exact ⟨rfl, B15.out⟩
  · have h2 : (1048576 : Int) < n := by omega
    have hd : decide (1048576 < (n : Int)) = true := by simp; omega
    go_enter Tryd.func3, Tryd.ntmps3
    go_wp2_with fail
    refine (big_txt a n cap _).mono ?_
    rintro e wq ⟨rfl, hw⟩
    rw [hw, hd]
    clear hw wq
    go_wp2
    go_ret
    exact ⟨rfl, Below.refl _ _⟩

end Go.Proofs.YtneobgikailhjaaDoor
