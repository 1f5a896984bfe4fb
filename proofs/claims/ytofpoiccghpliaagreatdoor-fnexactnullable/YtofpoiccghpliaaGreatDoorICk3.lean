/- The program's checkCall. -/
import Derived.Test.YtofpoiccghpliaaGreatDoorICk2
import Derived.Deep.QuietTactic
import Derived.BigQuiet
import Derived.RegionDies
namespace Go.Proofs.YtofpoiccghpliaaGreatDoor
open Go.RowKit

def callB (g : List RuleD) (x : SymD) (known : List ByteArray) : Bool :=
  decide (0 ≤ ruleAtI g x.text) && decide ((x.args.length : Int) = paramsOf g x.text) && (decide (x.bind = noS) || (nameB x.bind && !(inB known x.bind) && decide (known.length < 6)))

theorem bel_drew {B : Nat} {a w : World} (h : Below B a w) : Below B a w.drew := ⟨h.os, h.tape, h.output, h.size, h.block⟩

set_option maxHeartbeats 3200000 in
set_option maxRecDepth 100000 in
theorem checkCall_any (gv : Value) (g : List RuleD) (r0 : Value) (x : SymD) (u : Value) (known : List ByteArray) (w : World) (hg : g.length ≤ 1048576) (hk : known.length ≤ 1048576)
    (h : RowC 3 RuleE w gv g) (hp0 : ∀ r ∈ g, r.params.length ≤ 1048576) (h1 : RowC 1 ExprE w r0 x.args) (h2 : SRow w u known) :
    Calls Tryz.prog 89 #[.agg #[gv], .agg #[.int .i64 x.kind, .string x.text, r0, .string x.bind], u] w fun e w' => e = okE (callB g x known) ∧ Below w.heap.size w w' := by
  have HG : Hid (RowC 3 RuleE w gv g) := h
  have HK : Hid (SRow w u known) := h2
  have HP : Hid (∀ r ∈ g, r.params.length ≤ 1048576) := hp0
  obtain ⟨ag, cg, rfl⟩ := h.slice
  obtain ⟨a0, c0, rfl⟩ := h1.slice
  obtain ⟨ak, ck, rfl⟩ := h2.slice
  clear h h1 h2 hp0
  have B0 : Hid (Below w.heap.size w ((w.alloc (.cells #[.slice ag g.length cg] 30)).alloc (.cells #[.int .i64 x.kind, .string x.text, .slice a0 x.args.length c0, .string x.bind] 66))) := ((Below.refl _ _).alloc (Nat.le_refl _) _).alloc (by simp) _
  have b0 : ((w.alloc (.cells #[.slice ag g.length cg] 30)).alloc (.cells #[.int .i64 x.kind, .string x.text, .slice a0 x.args.length c0, .string x.bind] 66)).cell? ⟨w.heap.size, 0, none⟩ = some (.slice ag g.length cg) := box_two _ _ _ _ _ 0 _ rfl
  have b1 : ((w.alloc (.cells #[.slice ag g.length cg] 30)).alloc (.cells #[.int .i64 x.kind, .string x.text, .slice a0 x.args.length c0, .string x.bind] 66)).cell? ⟨w.heap.size + 1, 1, none⟩ = some (.string x.text) := box_two' _ _ _ _ _ 1 _ rfl
  have b2 : ((w.alloc (.cells #[.slice ag g.length cg] 30)).alloc (.cells #[.int .i64 x.kind, .string x.text, .slice a0 x.args.length c0, .string x.bind] 66)).cell? ⟨w.heap.size + 1, 2, none⟩ = some (.slice a0 x.args.length c0) := box_two' _ _ _ _ _ 2 _ rfl
  have b3 : ((w.alloc (.cells #[.slice ag g.length cg] 30)).alloc (.cells #[.int .i64 x.kind, .string x.text, .slice a0 x.args.length c0, .string x.bind] 66)).cell? ⟨w.heap.size + 1, 3, none⟩ = some (.string x.bind) := box_two' _ _ _ _ _ 3 _ rfl
  have HA : Hid (∀ W, Below w.heap.size w W → _) := fun W hb => implRuleAt_any (.slice ag g.length cg) g x.text W hg (RowC.below RuleE_stable HG.out hb)
  have HWy : Hid (∀ W, _) := fun W => want_yes W
  go_enter Tryz.func89, Tryz.ntmps89
  go_wp2_with fail
  refine (HA.out _ B0.out).mono ?_
  rintro e w1 ⟨rfl, hb1⟩
  have B1 : Hid (Below w.heap.size w w1) := B0.out.trans (hb1.mono B0.out.size)
  have c0' := cell_keep b0 hb1
  have c2 := cell_keep b2 hb1
  have c3 := cell_keep b3 hb1
  clear hb1 b0 b1 b2 b3 HA B0
  have HLt2 : Hid (ruleAtI g x.text < (g.length : Int) ∧ -1 ≤ ruleAtI g x.text) := by have := atF_lt x.text 0 g; rw [Nat.zero_add] at this; exact this
  by_cases hr : ruleAtI g x.text < 0
  · have HV : Hid (callB g x known = false) := by rw [Hid, callB, decide_eq_false (by omega : ¬ 0 ≤ ruleAtI g x.text)]; rfl
    have d1 : decide (0 ≤ ruleAtI g x.text) = false := by rw [decide_eq_false]; omega
    generalize ruleAtI g x.text = r at *
    go_wp2_with (go_at_call 58; refine (want_no _).mono ?_; rintro e wq ⟨rfl, hw⟩; rw [hw]; clear hw)
    rw [HV.out]
    exact ⟨rfl, rfl, B1.out⟩
  · obtain ⟨i, hi⟩ : ∃ i : Nat, ruleAtI g x.text = (i : Int) := ⟨(ruleAtI g x.text).toNat, by omega⟩
    have hlt : i < g.length := by have := HLt2.out.1; rw [hi] at this; omega
    have HPi : Hid (paramsOf g x.text = (g[i].params.length : Int)) := by
      rw [Hid, paramsOf, hi, if_pos (by omega), Int.toNat_natCast]
      simp only [List.getD, List.getElem?_eq_getElem hlt, Option.getD_some]
    have HBi : Hid (callB g x known = (decide (x.args.length = g[i].params.length) && (decide (x.bind = noS) || (nameB x.bind && !(inB known x.bind) && decide (known.length < 6))))) := by
      rw [Hid, callB, hi, HPi.out, decide_eq_true (by omega : (0 : Int) ≤ (i : Int)), Bool.true_and]
      congr 1
      apply decide_eq_decide.2
      omega
    have hpl := HP.out _ (List.getElem_mem hlt)
    obtain ⟨b, off, vs, rfl, _, hc, hE⟩ := (RowC.below RuleE_stable HG.out B1.out).at hlt
    obtain ⟨p0, p1, rfl, hps, _⟩ := hE
    obtain ⟨ap, cp, rfl⟩ := hps.slice
    have n1 : w1.cell? ⟨b, off + i * 3 + 1, none⟩ = some (.slice ap g[i].params.length cp) := hc 1 (by simp)
    rw [hi]
    clear hi hr HLt2 HPi hc hps HG
    have d1 : decide ((0 : Int) ≤ (i : Int)) = true := by rw [decide_eq_true]; omega
    have i4 : (i : Int) < (g.length : Int) := by omega
    generalize g[i].params.length = np at *
    by_cases ha : x.args.length = np
    · have q1 : ((x.args.length : Int) == (np : Int)) = true := by rw [ha]; simp
      rw [decide_eq_true ha, Bool.true_and] at HBi
      clear ha
      go_wp2_with (go_at_call 58; refine (want_yes _).mono ?_; rintro e wq ⟨rfl, hw⟩; rw [hw]; clear hw)
      go_quiet ((go_at_call 58; refine Calls.quiet_of_same (HWy.out _)))
      have B2 : Hid (Below w.heap.size w (w1.drewN nq)) := bel_drewN B1.out nq
      have c3' : (w1.drewN nq).cell? ⟨w.heap.size + 1, 3, none⟩ = some (.string x.bind) := c3
      generalize w1.drewN nq = w2 at *
      clear c3 c2 c0' n1 B1
      by_cases hbd : x.bind = noS
      · have e1 := isE_yes hbd
        rw [decide_eq_true hbd, Bool.true_or] at HBi
        clear hbd
        go_wp2
        go_end0
        rw [HBi.out]
        exact ⟨rfl, B2.out⟩
      · have e1 := isE_no hbd
        rw [decide_eq_false hbd, Bool.false_or] at HBi
        clear hbd
        cases hnm : nameB x.bind with
        | false =>
          have HN : Hid (∀ W, _) := fun W => implVarName_is x.bind false hnm W
          rw [hnm] at HBi
          clear hnm
          go_wp2_with (first
            | (go_at_call 86; refine (HN.out _).mono ?_; rintro e wq ⟨rfl, hw⟩; rw [hw]; clear hw)
            | (go_at_call 58; refine (want_no _).mono ?_; rintro e wq ⟨rfl, hw⟩; rw [hw]; clear hw))
          rw [HBi.out]
          exact ⟨rfl, rfl, B2.out⟩
        | true =>
          have HN : Hid (∀ W, _) := fun W => implVarName_is x.bind true hnm W
          rw [hnm, Bool.true_and] at HBi
          clear hnm
          cases hin : inB known x.bind with
          | true =>
            have HC : Hid (∀ _ : Unit, _) := fun _ => contains_is (.slice ak known.length ck) known x.bind true hin w2 hk (HK.out.below B2.out)
            rw [hin] at HBi
            clear hin
            go_wp2_with (first
              | (go_at_call 86; refine (HN.out _).mono ?_; rintro e wq ⟨rfl, hw⟩; rw [hw]; clear hw)
              | (go_at_call 102; refine (HC.out ()).mono ?_; rintro e wq ⟨rfl, hw⟩; rw [hw]; clear hw)
              | (go_at_call 58; refine (want_yes _).mono ?_; rintro e wq ⟨rfl, hw⟩; rw [hw]; clear hw)
              | (go_at_call 58; refine (want_no _).mono ?_; rintro e wq ⟨rfl, hw⟩; rw [hw]; clear hw))
            rw [HBi.out]
            exact ⟨rfl, rfl, B2.out⟩
          | false =>
            have HC : Hid (∀ _ : Unit, _) := fun _ => contains_is (.slice ak known.length ck) known x.bind false hin w2 hk (HK.out.below B2.out)
            rw [hin, Bool.not_false, Bool.true_and] at HBi
            clear hin
            by_cases h6 : known.length < 6
            · have d6 : decide ((known.length : Int) < 6) = true := by rw [decide_eq_true]; omega
              rw [decide_eq_true h6] at HBi
              clear h6
              go_wp2_with (first
                | (go_at_call 86; refine (HN.out _).mono ?_; rintro e wq ⟨rfl, hw⟩; rw [hw]; clear hw)
                | (go_at_call 102; refine (HC.out ()).mono ?_; rintro e wq ⟨rfl, hw⟩; rw [hw]; clear hw)
                | (go_at_call 58; refine (want_yes _).mono ?_; rintro e wq ⟨rfl, hw⟩; rw [hw]; clear hw))
              go_end0
              rw [HBi.out]
              exact ⟨rfl, B2.out⟩
            · have d6 : decide ((known.length : Int) < 6) = false := by rw [decide_eq_false]; omega
              rw [decide_eq_false h6] at HBi
              clear h6
              go_wp2_with (first
                | (go_at_call 86; refine (HN.out _).mono ?_; rintro e wq ⟨rfl, hw⟩; rw [hw]; clear hw)
                | (go_at_call 102; refine (HC.out ()).mono ?_; rintro e wq ⟨rfl, hw⟩; rw [hw]; clear hw)
                | (go_at_call 58; refine (want_yes _).mono ?_; rintro e wq ⟨rfl, hw⟩; rw [hw]; clear hw)
                | (go_at_call 58; refine (want_no _).mono ?_; rintro e wq ⟨rfl, hw⟩; rw [hw]; clear hw))
              rw [HBi.out]
              exact ⟨rfl, rfl, B2.out⟩
    · have q1 : ((x.args.length : Int) == (np : Int)) = false := by simpa using (by omega : (x.args.length : Int) ≠ np)
      rw [decide_eq_false ha, Bool.false_and] at HBi
      clear ha
      go_wp2_with (go_at_call 58; refine (want_yes _).mono ?_; rintro e wq ⟨rfl, hw⟩; rw [hw]; clear hw)
      go_region_dies
      all_goals
        refine (want_no _).mono ?_
        rintro e wq ⟨rfl, hw⟩
        rw [hw]
        clear hw
        exact ⟨rfl, by rw [HBi.out]; rfl, bel_drew B1.out⟩

end Go.Proofs.YtofpoiccghpliaaGreatDoor
