/- The program's checkHeads and checkGrammar. -/
import Derived.Test.YtofpoiccghpliaaGreatDoorICk5
import Derived.Test.YtofpoiccghpliaaGreatDoorGGram
namespace Go.Proofs.YtofpoiccghpliaaGreatDoor
open Go.RowKit

def headAt (g : List RuleD) (i : Nat) : Bool := ruleNameB (g.getD i default).name && (decide (ruleAtI g (g.getD i default).name = (i : Int)) && paramsB (g.getD i default).params)
def headTo (g : List RuleD) (k : Nat) : Bool := (List.range k).all (headAt g)
def headsB (g : List RuleD) : Bool := decide ((1 : Int) ≤ g.length ∧ (g.length : Int) ≤ 30) && (decide ((g.getD 0 default).params.length = 0) && headTo g g.length)
def bodyB (g : List RuleD) (r : RuleD) : Bool := decide ((1 : Int) ≤ r.alts.length ∧ (r.alts.length : Int) ≤ 8) && r.alts.all (altB g r.params)
theorem headTo_next (g : List RuleD) (k : Nat) : headTo g (k + 1) = (headTo g k && headAt g k) := by
  rw [headTo, List.range_succ, List.all_append, ← headTo]
  simp
theorem head_no (g : List RuleD) (k : Nat) (h : k < g.length) (hc : headAt g k = false) : headsB g = false := by
  have : headTo g g.length = false := by
    rw [headTo, List.all_eq_false]
    exact ⟨k, List.mem_range.2 h, by rw [hc]; decide⟩
  rw [headsB, this, Bool.and_false, Bool.and_false]
theorem gram_is (g : List RuleD) : gramB g = (headsB g && g.all (bodyB g)) := by
  have e : gramTo g g.length = (headTo g g.length && g.all (bodyB g)) := by
    rw [Bool.eq_iff_iff, Bool.and_eq_true, gramTo, headTo, List.all_eq_true, List.all_eq_true, List.all_eq_true]
    have one : ∀ i, i < g.length → (gramAt g i = true ↔ headAt g i = true ∧ bodyB g (g.getD i default) = true) := fun i _ => by
      rw [gramAt, ruleB, headAt, bodyB]
      simp only [Bool.and_eq_true]
      exact ⟨fun ⟨a, ⟨⟨b, c⟩, d⟩, e⟩ => ⟨⟨b, a, c⟩, d, e⟩, fun ⟨⟨b, a, c⟩, d, e⟩ => ⟨a, ⟨⟨b, c⟩, d⟩, e⟩⟩
    refine ⟨fun h => ⟨fun i hi => ((one i (List.mem_range.1 hi)).1 (h i hi)).1, fun r hr => ?_⟩, fun ⟨h1, h2⟩ i hi => (one i (List.mem_range.1 hi)).2 ⟨h1 i hi, ?_⟩⟩
    · obtain ⟨i, hi, rfl⟩ := List.getElem_of_mem hr
      have := ((one i hi).1 (h i (List.mem_range.2 hi))).2
      rwa [getR_is g i hi] at this
    · rw [getR_is g i (List.mem_range.1 hi)]
      exact h2 _ (List.getElem_mem _)
  rw [gramB, headsB, e]
  simp only [Bool.and_assoc]
theorem heads_par {g : List RuleD} (h : headsB g = true) (k : Nat) (hk : k < g.length) : g[k].params.length ≤ 6 := by
  rw [headsB, Bool.and_eq_true, Bool.and_eq_true, headTo, List.all_eq_true] at h
  have := h.2.2 k (List.mem_range.2 hk)
  rw [headAt, getR_is g k hk, Bool.and_eq_true, Bool.and_eq_true] at this
  exact paramsB_len this.2.2

set_option maxHeartbeats 6400000 in
set_option maxRecDepth 100000 in
theorem checkHeads_any (gv : Value) (g : List RuleD) (w : World) (hg : grammarTot g ≤ 1048576) (h : RowC 3 RuleE w gv g) :
    Calls Tryz.prog 57 #[.agg #[gv]] w fun e w' => e = okE (headsB g) ∧ Below w.heap.size w w' := by
  have HG : Hid (RowC 3 RuleE w gv g) := h
  have hgl : g.length ≤ 1048576 := Nat.le_trans (rowTot_len ruleTot g) hg
  have HZ : Hid (∀ r ∈ g, r.name.size ≤ 1048576 ∧ r.params.length ≤ 1048576) := fun r hr => by
    have h1 := rowTot_mem ruleTot hr
    have e1 : ruleTot r = r.name.size + rowTot ByteArray.size r.params + rowTot altTot r.alts := rfl
    have h2 := rowTot_len ByteArray.size r.params
    have e2 : grammarTot g = rowTot ruleTot g := rfl
    exact ⟨by omega, by omega⟩
  obtain ⟨ag, cg, rfl⟩ := h.slice
  clear h hg
  have B0 : Hid (Below w.heap.size w (w.alloc (.cells #[.slice ag g.length cg] 30))) := (Below.refl _ _).alloc (Nat.le_refl _) _
  have b0 : (w.alloc (.cells #[.slice ag g.length cg] 30)).cell? ⟨w.heap.size, 0, none⟩ = some (.slice ag g.length cg) := box_at _ _ _ 0 _ rfl
  have HWy : Hid (∀ W, _) := fun W => want_yes W
  by_cases h1 : g.length < 1
  · have HV : Hid (headsB g = false) := by rw [Hid, headsB, decide_eq_false (by omega)]; rfl
    have d1 : decide ((1 : Int) ≤ (g.length : Int)) = false := by rw [decide_eq_false]; omega
    go_enter Tryz.func57, Tryz.ntmps57
    go_wp2_with (go_at_call 58; refine (want_no _).mono ?_; rintro e wq ⟨rfl, hw⟩; rw [hw]; clear hw)
    rw [HV.out]
    exact ⟨rfl, rfl, B0.out⟩
  have d1 : decide ((1 : Int) ≤ (g.length : Int)) = true := by rw [decide_eq_true]; omega
  by_cases h30 : 30 < g.length
  · have HV : Hid (headsB g = false) := by rw [Hid, headsB, decide_eq_false (by omega)]; rfl
    have d2 : decide ((g.length : Int) ≤ 30) = false := by rw [decide_eq_false]; omega
    go_enter Tryz.func57, Tryz.ntmps57
    go_wp2_with (go_at_call 58; refine (want_no _).mono ?_; rintro e wq ⟨rfl, hw⟩; rw [hw]; clear hw)
    rw [HV.out]
    exact ⟨rfl, rfl, B0.out⟩
  have d2 : decide ((g.length : Int) ≤ 30) = true := by rw [decide_eq_true]; omega
  have HB : Hid (∀ _ : Unit, headsB g = (decide ((g.getD 0 default).params.length = 0) && headTo g g.length)) := fun _ => by rw [headsB, decide_eq_true (by omega), Bool.true_and]
  have hl0 : 0 < g.length := by omega
  obtain ⟨b, off, vs, hag, _, hc, hE⟩ := (RowC.below RuleE_stable HG.out B0.out).at hl0
  obtain ⟨p0, p1, rfl, hps, _⟩ := hE
  obtain ⟨ap, cp, rfl⟩ := hps.slice
  have n1 : (w.alloc (.cells #[.slice ag g.length cg] 30)).cell? ⟨b, off + 1, none⟩ = some (.slice ap g[0].params.length cp) := by have := hc 1 (by simp); simpa using this
  have i4 : (0 : Int) < (g.length : Int) := by omega
  have hpl := (HZ.out _ (List.getElem_mem hl0)).2
  have HE0 : Hid ((g.getD 0 default).params.length = g[0].params.length) := by rw [Hid, getR_is g 0 hl0]
  subst hag
  clear hc hps
  by_cases hp0 : g[0].params.length = 0
  · have q0 : ((g[0].params.length : Int) == 0) = true := by rw [hp0]; rfl
    have HB2 : Hid (∀ _ : Unit, headsB g = headTo g g.length) := fun _ => by rw [HB.out (), HE0.out, decide_eq_true hp0, Bool.true_and]
    clear hp0 HB HE0
    go_enter Tryz.func57, Tryz.ntmps57
    go_wp2_with (go_at_call 58; refine (want_yes _).mono ?_; rintro e wq ⟨rfl, hw⟩; rw [hw]; clear hw)
    go_loopw [26] (fun iv wr => ∃ k : Nat, iv = .int .i64 k ∧ k ≤ g.length ∧ headTo g k = true ∧ Below (w.heap.size + 1) (w.alloc (.cells #[.slice (some ⟨b, off, none⟩) g.length cg] 30)) wr) (fun iv _ => g.length - (intOf iv).toNat)
    case atStart => exact ⟨0, rfl, Nat.zero_le _, rfl, Below.refl _ _⟩
    case round =>
      obtain ⟨k, rfl, hk, hto, hbw⟩ := hrel
      have HTo : Hid (headTo g k = true) := hto
      have hsz : w.heap.size + 1 ≤ wr.heap.size := by have := hbw.size; simp at this; omega
      have BW : Hid (Below w.heap.size w wr) := B0.out.trans (hbw.mono (by omega))
      have cg1 : wr.cell? ⟨w.heap.size, 0, none⟩ = some (.slice (some ⟨b, off, none⟩) g.length cg) := (World.cell?_of_block (hbw.block w.heap.size (by omega))).trans b0
      have BV : Hid (Below (w.heap.size + 1) (w.alloc (.cells #[.slice (some ⟨b, off, none⟩) g.length cg] 30)) wr) := hbw
      clear hto hbw b0 n1 B0
      by_cases hlt : k < g.length
      · obtain ⟨b', off', vs, hag, _, hc, hE⟩ := (RowC.below RuleE_stable HG.out BW.out).at hlt
        cases hag
        obtain ⟨p0, p1, rfl, hps, hal⟩ := hE
        obtain ⟨ap, cp, rfl⟩ := hps.slice
        obtain ⟨aa, ca, rfl⟩ := hal.slice
        have n0 : wr.cell? ⟨b, off + k * 3, none⟩ = some (.string g[k].name) := hc 0 (by simp)
        have n1 : wr.cell? ⟨b, off + k * 3 + 1, none⟩ = some (.slice ap g[k].params.length cp) := hc 1 (by simp)
        have n2 : wr.cell? ⟨b, off + k * 3 + 2, none⟩ = some (.slice aa g[k].alts.length ca) := hc 2 (by simp)
        have i5 : (k : Int) < (g.length : Int) := by omega
        obtain ⟨hz1, hz2⟩ := HZ.out _ (List.getElem_mem hlt)
        have HNx : Hid (headTo g (k + 1) = headAt g k) := by rw [Hid, headTo_next, HTo.out, Bool.true_and]
        have HAt : Hid (∀ _ : Unit, headAt g k = (ruleNameB g[k].name && (decide (ruleAtI g g[k].name = (k : Int)) && paramsB g[k].params))) := fun _ => by rw [headAt, getR_is g k hlt]
        have HNo : Hid (headAt g k = false → headsB g = false) := fun h => head_no g k hlt h
        have B3 : Hid (Below w.heap.size w (wr.alloc (.cells #[.string g[k].name, .slice ap g[k].params.length cp, .slice aa g[k].alts.length ca] 43))) := BW.out.alloc BW.out.size _
        have BV3 : Hid (Below (w.heap.size + 1) (w.alloc (.cells #[.slice (some ⟨b, off, none⟩) g.length cg] 30)) (wr.alloc (.cells #[.string g[k].name, .slice ap g[k].params.length cp, .slice aa g[k].alts.length ca] 43))) := BV.out.alloc hsz _
        have s0 : (wr.alloc (.cells #[.string g[k].name, .slice ap g[k].params.length cp, .slice aa g[k].alts.length ca] 43)).cell? ⟨wr.heap.size, 0, none⟩ = some (.string g[k].name) := box_at _ _ _ 0 _ rfl
        have s1 : (wr.alloc (.cells #[.string g[k].name, .slice ap g[k].params.length cp, .slice aa g[k].alts.length ca] 43)).cell? ⟨wr.heap.size, 1, none⟩ = some (.slice ap g[k].params.length cp) := box_at _ _ _ 1 _ rfl
        have cg3 : (wr.alloc (.cells #[.string g[k].name, .slice ap g[k].params.length cp, .slice aa g[k].alts.length ca] 43)).cell? ⟨w.heap.size, 0, none⟩ = some (.slice (some ⟨b, off, none⟩) g.length cg) := cell_keep cg1 ((Below.refl _ _).alloc (Nat.le_refl _) _)
        have HRn : Hid (∀ W, _) := fun W => implRuleName_any g[k].name W hz1
        have HRa : Hid (∀ _ : Unit, _) := fun _ => implRuleAt_any (.slice (some ⟨b, off, none⟩) g.length cg) g g[k].name (wr.alloc (.cells #[.string g[k].name, .slice ap g[k].params.length cp, .slice aa g[k].alts.length ca] 43)) hgl (RowC.below RuleE_stable HG.out B3.out)
        have HSp : Hid (SRow (wr.alloc (.cells #[.string g[k].name, .slice ap g[k].params.length cp, .slice aa g[k].alts.length ca] 43)) (.slice ap g[k].params.length cp) g[k].params) := hps.below ((Below.refl _ _).alloc (Nat.le_refl _) _)
        clear hc hps hal cg1
        cases hn : ruleNameB g[k].name with
        | false =>
          rw [hn] at HRn
          have HV : Hid (headsB g = false) := HNo.out (by rw [HAt.out (), hn]; rfl)
          clear hn HNo HAt HNx HB2
          go_wp2_with (first
            | (go_at_call 70; refine (HRn.out _).mono ?_; rintro e wq ⟨rfl, hw⟩; rw [hw]; clear hw)
            | (go_at_call 58; refine (want_no _).mono ?_; rintro e wq ⟨rfl, hw⟩; rw [hw]; clear hw))
          rw [HV.out]
          exact ⟨rfl, rfl, B3.out⟩
        | true =>
          rw [hn] at HRn
          rw [hn] at HAt
          clear hn
          go_wp2_with (first
            | (go_at_call 70; refine (HRn.out _).mono ?_; rintro e wq ⟨rfl, hw⟩; rw [hw]; clear hw)
            | (go_at_call 58; refine (want_yes _).mono ?_; rintro e wq ⟨rfl, hw⟩; rw [hw]; clear hw))
          refine (HRa.out ()).mono ?_
          rintro e w3 ⟨rfl, hb3⟩
          have B4 : Hid (Below w.heap.size w w3) := B3.out.trans (hb3.mono B3.out.size)
          have BV4 : Hid (Below (w.heap.size + 1) (w.alloc (.cells #[.slice (some ⟨b, off, none⟩) g.length cg] 30)) w3) := BV3.out.trans (hb3.mono (by have := BV3.out.size; simp at this; simp; omega))
          have t1 := cell_keep s1 hb3
          have HCp : Hid (∀ _ : Unit, _) := fun _ => checkParams_any (.slice ap g[k].params.length cp) g[k].params w3 (HSp.out.below hb3) hz2
          clear hb3 s0 s1 cg3 n0 n1 n2 HRa HRn B3 BV3 HSp
          by_cases hr : ruleAtI g g[k].name = (k : Int)
          · rw [hr]
            have HAt2 : Hid (∀ _ : Unit, headAt g k = paramsB g[k].params) := fun _ => by rw [HAt.out (), decide_eq_true hr]; rfl
            clear hr HAt
            have qk : ((k : Int) == (k : Int)) = true := by simp
            cases hpb : paramsB g[k].params with
            | false =>
              rw [hpb] at HCp HAt2
              have HV : Hid (headsB g = false) := HNo.out (HAt2.out ())
              clear hpb HNo HAt2 HNx HB2
              go_wp2_with (first
                | (go_at_call 58; refine (want_yes _).mono ?_; rintro e wq ⟨rfl, hw⟩; rw [hw]; clear hw)
                | (go_at_call 71; refine (HCp.out ()).mono ?_; rintro e wq ⟨he, hw⟩; rw [hw, he, okE_no]; clear hw he))
              rw [HV.out]
              exact ⟨rfl, rfl, B4.out⟩
            | true =>
              rw [hpb] at HCp HAt2
              clear hpb HNo
              go_wp2_with (first
                | (go_at_call 58; refine (want_yes _).mono ?_; rintro e wq ⟨rfl, hw⟩; rw [hw]; clear hw)
                | (go_at_call 71; refine (HCp.out ()).mono ?_; rintro e wq ⟨he, hw⟩; rw [hw, he, okE_yes]; clear hw he))
              go_roundw
              case rel => exact ⟨k + 1, by go_num, by omega, by rw [HNx.out, HAt2.out ()], BV4.out⟩
              case measure => simp [intOf]; omega
          · have qk : (ruleAtI g g[k].name == (k : Int)) = false := by simpa using hr
            have HV : Hid (headsB g = false) := HNo.out (by rw [HAt.out (), decide_eq_false hr]; rfl)
            clear hr HAt HNo HNx HB2
            generalize ruleAtI g g[k].name = rr at *
            go_wp2_with (go_at_call 58; refine (want_no _).mono ?_; rintro e wq ⟨rfl, hw⟩; rw [hw]; clear hw)
            rw [HV.out]
            exact ⟨rfl, rfl, B4.out⟩
      · obtain rfl : k = g.length := by omega
        have HV : Hid (headsB g = true) := by rw [Hid, HB2.out (), HTo.out]
        clear HB2
        go_wp2
        go_end0
        rw [HV.out]
        exact ⟨rfl, BW.out⟩
  · have q0 : ((g[0].params.length : Int) == 0) = false := by simpa using hp0
    have HV : Hid (headsB g = false) := by rw [Hid, HB.out (), HE0.out, decide_eq_false hp0]; rfl
    clear hp0 HB HE0
    generalize g[0].params.length = np at *
    go_enter Tryz.func57, Tryz.ntmps57
    go_wp2_with (first
      | (go_at_call 58; refine (want_yes _).mono ?_; rintro e wq ⟨rfl, hw⟩; rw [hw]; clear hw)
      | (go_at_call 58; refine (want_no _).mono ?_; rintro e wq ⟨rfl, hw⟩; rw [hw]; clear hw))
    rw [HV.out]
    exact ⟨rfl, rfl, B0.out⟩

end Go.Proofs.YtofpoiccghpliaaGreatDoor
