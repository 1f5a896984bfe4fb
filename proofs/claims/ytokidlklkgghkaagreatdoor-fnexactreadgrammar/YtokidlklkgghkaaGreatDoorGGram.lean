/- The specification's GrammarOk. -/
import Derived.Test.YtokidlklkgghkaaGreatDoorGRuleOk
namespace Go.Proofs.YtokidlklkgghkaaGreatDoor
open Go.RowKit

def gramAt (g : List RuleD) (i : Nat) : Bool := decide (ruleAtI g (g.getD i default).name = (i : Int)) && ruleB g (g.getD i default)
def gramTo (g : List RuleD) (k : Nat) : Bool := (List.range k).all (gramAt g)
def gramB (g : List RuleD) : Bool := decide ((1 : Int) ≤ g.length ∧ (g.length : Int) ≤ 30) && decide ((g.getD 0 default).params.length = 0) && gramTo g g.length
theorem gramTo_next (g : List RuleD) (k : Nat) : gramTo g (k + 1) = (gramTo g k && gramAt g k) := by
  rw [gramTo, List.range_succ, List.all_append, ← gramTo]
  simp
theorem gram_no (g : List RuleD) (k : Nat) (h : k < g.length) (hc : gramAt g k = false) : gramB g = false := by
  have : gramTo g g.length = false := by
    rw [gramTo, List.all_eq_false]
    exact ⟨k, List.mem_range.2 h, by rw [hc]; decide⟩
  rw [gramB, this, Bool.and_false]
theorem getR_is (g : List RuleD) (k : Nat) (h : k < g.length) : g.getD k default = g[k] := by
  simp only [List.getD, List.getElem?_eq_getElem h, Option.getD_some]

theorem keep4 {W W' : World} {a b c d : Addr} {x y z u : Value} (h : W.cell? a = some x ∧ W.cell? b = some y ∧ W.cell? c = some z ∧ W.cell? d = some u) (hb : Below W.heap.size W W') : W'.cell? a = some x ∧ W'.cell? b = some y ∧ W'.cell? c = some z ∧ W'.cell? d = some u :=
  ⟨cell_keep h.1 hb, cell_keep h.2.1 hb, cell_keep h.2.2.1 hb, cell_keep h.2.2.2 hb⟩

set_option maxHeartbeats 6400000 in
set_option maxRecDepth 100000 in
theorem specGrammarOk_any (v : Value) (g : List RuleD) (w : World) (hg : grammarTot g ≤ 1048576) (hin : GrammarIn g) (h : RowC 3 RuleE w v g) :
    Calls Tryz.prog 29 #[.agg #[v]] w fun e w' => e = .returned (.bool (gramB g)) ∧ Below w.heap.size w w' := by
  obtain ⟨a, cap, rfl⟩ := h.slice
  have hgl : g.length ≤ 1048576 := Nat.le_trans (rowTot_len ruleTot g) hg
  have B0 : Hid (Below w.heap.size w (w.alloc (.cells #[.slice a g.length cap] 24))) := (Below.refl _ _).alloc (Nat.le_refl _) _
  have G0 : Hid (RowC 3 RuleE (w.alloc (.cells #[.slice a g.length cap] 24)) (.slice a g.length cap) g) := RowC.below RuleE_stable h B0.out
  have c0 : (w.alloc (.cells #[.slice a g.length cap] 24)).cell? ⟨w.heap.size, 0, none⟩ = some (.slice a g.length cap) := box_at _ _ _ 0 _ rfl
  have HIn : Hid (∀ r ∈ g, ruleTot r ≤ 1048576 ∧ RuleIn r) := fun r hr => ⟨Nat.le_trans (rowTot_mem ruleTot hr) hg, hin.2 r hr⟩
  have HG : Hid (grammarTot g ≤ 1048576) := hg
  have HLn : Hid (∀ W, _) := fun W => in_any (g.length : Int) 1 30 W
  clear h hg hin
  by_cases hl : (1 : Int) ≤ g.length ∧ (g.length : Int) ≤ 30
  · rw [decide_eq_true hl] at HLn
    have h0 : 0 < g.length := by omega
    have h30 : g.length ≤ 30 := by omega
    have HV0 : Hid (gramB g = (decide (g[0].params.length = 0) && gramTo g g.length)) := by rw [Hid, gramB, decide_eq_true hl, getR_is g 0 h0]; rfl
    clear hl
    obtain ⟨b, off, vs, rfl, _, hc, hE⟩ := G0.out.at h0
    obtain ⟨q0, q1, rfl, hq0, _⟩ := hE
    have z1 : (w.alloc (.cells #[.slice (some ⟨b, off, none⟩) g.length cap] 24)).cell? ⟨b, off + 1, none⟩ = some q0 := by have h := hc 1 (by simp); rw [Nat.zero_mul] at h; exact h
    obtain ⟨aq, cq, rfl⟩ := hq0.slice
    clear hc hq0
    by_cases hp : g[0].params.length = 0
    · have hp1 : ¬ (0 : Int) < (g[0].params.length : Int) := by omega
      have hp2 : decide (0 < g[0].params.length) = false := by rw [decide_eq_false]; omega
      have HV : Hid (gramB g = gramTo g g.length) := by rw [Hid, HV0.out, decide_eq_true hp]; rfl
      have i0 : (0 : Int) < (g.length : Int) := by omega
      clear hp HV0
      go_enter Tryz.func29, Tryz.ntmps29
      go_wp2_with (go_at_call 54; refine (HLn.out _).mono ?_; rintro e wq ⟨rfl, hw⟩; rw [hw]; clear hw)
      (try simp only [hp2])
      clear z1 hp1 hp2
      generalize w.alloc (.cells #[.slice (some ⟨b, off, none⟩) g.length cap] 24) = W0 at *
      go_loopw [3] (fun iv wr => ∃ k : Nat, iv = .int .i64 k ∧ k ≤ g.length ∧ gramTo g k = true ∧ Below W0.heap.size W0 wr) (fun iv _ => g.length - (intOf iv).toNat)
      case atStart => exact ⟨0, rfl, Nat.zero_le _, rfl, Below.refl _ _⟩
      case round =>
        obtain ⟨k, rfl, hk, hto, hb⟩ := hrel
        have HTo : Hid (gramTo g k = true) := hto
        have HB : Hid (Below W0.heap.size W0 wr) := hb
        have f0 := cell_keep c0 hb
        clear hto
        by_cases hlt : k < g.length
        · have HNx : Hid (_ = _) := gramTo_next g k
          have HAt : Hid (gramAt g k = (decide (ruleAtI g g[k].name = (k : Int)) && ruleB g g[k])) := by rw [Hid, gramAt, getR_is g k hlt]
          have HNo : Hid (gramAt g k = false → gramB g = false) := gram_no g k hlt
          obtain ⟨b2, off2, vs, e2, _, hc, hE⟩ := (RowC.below RuleE_stable G0.out hb).at hlt
          cases e2
          obtain ⟨p0, p1, rfl, hp0, hp1⟩ := hE
          have n0 : wr.cell? ⟨b, off + k * 3, none⟩ = some (.string g[k].name) := hc 0 (by simp)
          have n1 : wr.cell? ⟨b, off + k * 3 + 1, none⟩ = some p0 := hc 1 (by simp)
          have n2 : wr.cell? ⟨b, off + k * 3 + 2, none⟩ = some p1 := hc 2 (by simp)
          have HP0 : Hid (SRow wr p0 g[k].params) := hp0
          have HP1 : Hid (RowC 1 AltE wr p1 g[k].alts) := hp1
          obtain ⟨aa0, ca0, rfl⟩ := hp0.slice
          obtain ⟨aa1, ca1, rfl⟩ := hp1.slice
          have HRi := HIn.out _ (List.getElem_mem hlt)
          have i4 : (k : Int) < (g.length : Int) := by omega
          have BD : Hid (Below W0.heap.size W0 wr.drew) := bel_drewN hb 1
          have HRa : Hid (∀ W, Below W0.heap.size W0 W → _) := fun W hb => specRuleAt_any (.slice (some ⟨b, off, none⟩) g.length cap) g g[k].name W hgl (RowC.below RuleE_stable G0.out hb)
          have HRu : Hid (∀ W, Below wr.heap.size wr W → _) := fun W hbw => l06Rule_any (.slice (some ⟨b, off, none⟩) g.length cap) g (.slice aa0 g[k].params.length ca0) (.slice aa1 g[k].alts.length ca1) g[k] W HG.out HRi.1 HRi.2 (RowC.below RuleE_stable G0.out (HB.out.trans (hbw.mono HB.out.size))) (HP0.out.below hbw) (RowC.below AltE_stable HP1.out hbw)
          clear hc hp0 hp1 hb HRi
          by_cases hat : ruleAtI g g[k].name = (k : Int)
          · have hat1 : (ruleAtI g g[k].name != (k : Int)) = false := by rw [hat]; simp
            cases hr : ruleB g g[k] with
            | true =>
              have HY : Hid (gramTo g (k + 1) = true) := by rw [Hid, HNx.out, HTo.out, HAt.out, decide_eq_true hat, hr]; rfl
              rw [hr] at HRu
              rw [hat] at HRa
              clear hat hat1
              go_wp2
              go_region_held3 (fun W => W.cell? ⟨w.heap.size, 0, none⟩ = some (.slice (some ⟨b, off, none⟩) g.length cap) ∧ W.cell? ⟨b, off + k * 3, none⟩ = some (.string g[k].name) ∧ W.cell? ⟨b, off + k * 3 + 1, none⟩ = some (.slice aa0 g[k].params.length ca0) ∧ W.cell? ⟨b, off + k * 3 + 2, none⟩ = some (.slice aa1 g[k].alts.length ca1))
                ((first | exact keep4 (by assumption) hb4 | exact keep4 (by assumption) hb3 | go_keep))
                ((first
                  | (go_at_call 57; refine (HRu.out _ (bel_of_drew hb3)).mono ?_; rintro e w4 ⟨rfl, hb4⟩)
                  | (go_at_call 56; refine (HRa.out _ BD.out).mono ?_; rintro e w3 ⟨rfl, hb3⟩)))
              have B4 : Hid (Below W0.heap.size W0 w4) := by
                have h3 := BD.out.trans (hb3.mono BD.out.size)
                exact h3.trans (hb4.mono h3.size)
              clear hb3 hb4
              go_wp2
              go_roundw
              case rel => exact ⟨k + 1, by go_num, by omega, HY.out, B4.out⟩
              case measure => simp [intOf]; omega
            | false =>
              have HF : Hid (gramB g = false) := HNo.out (by rw [HAt.out, hr, Bool.and_false])
              rw [hr] at HRu
              rw [hat] at HRa
              clear hat hat1
              go_wp2
              go_region_held3 (fun W => W.cell? ⟨w.heap.size, 0, none⟩ = some (.slice (some ⟨b, off, none⟩) g.length cap) ∧ W.cell? ⟨b, off + k * 3, none⟩ = some (.string g[k].name) ∧ W.cell? ⟨b, off + k * 3 + 1, none⟩ = some (.slice aa0 g[k].params.length ca0) ∧ W.cell? ⟨b, off + k * 3 + 2, none⟩ = some (.slice aa1 g[k].alts.length ca1))
                ((first | exact keep4 (by assumption) hb4 | exact keep4 (by assumption) hb3 | go_keep))
                ((first
                  | (go_at_call 57; refine (HRu.out _ (bel_of_drew hb3)).mono ?_; rintro e w4 ⟨rfl, hb4⟩)
                  | (go_at_call 56; refine (HRa.out _ BD.out).mono ?_; rintro e w3 ⟨rfl, hb3⟩)))
              have B4 : Hid (Below W0.heap.size W0 w4) := by
                have h3 := BD.out.trans (hb3.mono BD.out.size)
                exact h3.trans (hb4.mono h3.size)
              clear hb3 hb4
              go_wp2
              go_ret
              rw [HF.out]
              exact ⟨rfl, B0.out.trans (B4.out.mono B0.out.size)⟩
          · have hat1 : (ruleAtI g g[k].name != (k : Int)) = true := by simpa using hat
            have HF : Hid (gramB g = false) := HNo.out (by rw [HAt.out, decide_eq_false hat]; rfl)
            clear hat
            go_wp2
            first | (go_region_law ((go_simp; go_at_call 56; refine (HRa.out _ BD.out).mono ?_; rintro e w3 ⟨rfl, hb3⟩; have t0 := cell_keep (W := wr.drew) f0 hb3; have t1 := cell_keep (W := wr.drew) n0 hb3; try go_wp2))) | fail
            all_goals
              have B4 : Hid (Below W0.heap.size W0 w3) := BD.out.trans (hb3.mono BD.out.size)
              (try go_wp2)
              go_ret
              rw [HF.out]
              exact ⟨rfl, B0.out.trans (B4.out.mono B0.out.size)⟩
        · obtain rfl : k = g.length := by omega
          have HT : Hid (gramB g = true) := by rw [Hid, HV.out, HTo.out]
          clear hb
          go_wp2
          go_ret
          rw [HT.out]
          exact ⟨rfl, B0.out.trans (HB.out.mono B0.out.size)⟩
    · have hp1 : (0 : Int) < (g[0].params.length : Int) := by omega
      have HV : Hid (gramB g = false) := by rw [Hid, HV0.out, decide_eq_false hp]; rfl
      have i0 : (0 : Int) < (g.length : Int) := by omega
      clear hp HV0
      go_enter Tryz.func29, Tryz.ntmps29
      go_wp2_with (go_at_call 54; refine (HLn.out _).mono ?_; rintro e wq ⟨rfl, hw⟩; rw [hw]; clear hw)
      go_ret
      rw [HV.out]
      exact ⟨rfl, B0.out⟩
  · have HV : Hid (gramB g = false) := by rw [Hid, gramB, decide_eq_false hl]; rfl
    rw [decide_eq_false hl] at HLn
    clear hl
    go_enter Tryz.func29, Tryz.ntmps29
    go_wp2_with (go_at_call 54; refine (HLn.out _).mono ?_; rintro e wq ⟨rfl, hw⟩; rw [hw]; clear hw)
    go_ret
    rw [HV.out]
    exact ⟨rfl, B0.out⟩

end Go.Proofs.YtokidlklkgghkaaGreatDoor
