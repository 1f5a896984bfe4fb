/- The specification's Trimmed (printed by mk/f15ts.py). -/
import Derived.Test.YtkmkfpgaehgonaaGreatDoorF15T1
import Derived.Test.YtkmkfpgaehgonaaGreatDoorGGram
namespace Go.Proofs.YtkmkfpgaehgonaaGreatDoor
open Go.RowKit
set_option linter.unusedVariables false

set_option maxHeartbeats 6400000 in
set_option maxRecDepth 100000 in
theorem specTrimmed_any (v : Value) (xs : List RuleD) (w : World) (hin : GrammarIn xs) (hI : CopyIn xs) (hg : grammarTot xs ≤ 1048576) (hv : RowC 3 RuleE w v xs) :
    Calls Tryz.prog 5 #[.agg #[v]] w fun e w' => ∃ o, e = .returned (.agg #[o]) ∧ RowF 3 42 RuleG (Nw w.heap.size w'.heap.size) o (trimB xs) w' ∧ Below w.heap.size w w' := by
  obtain ⟨ib, hib, hib0, hib1, hib2⟩ := info_parts Tryz.infoB15
  obtain ⟨r0, hr, hr0, hr1, hr2⟩ := info_parts Tryz.infoRuleP
  have hgl : xs.length ≤ 1048576 := Nat.le_trans (rowTot_len ruleTot xs) hg
  obtain ⟨a, c, rfl⟩ := hv.slice
  have hBa : Below w.heap.size w (w.alloc (.cells #[.slice a xs.length c] 28)) := (Below.refl _ _).alloc (Nat.le_refl _) _
  have BW : Hid (Below w.heap.size w ((w.alloc (.cells #[.slice a xs.length c] 28)).alloc (.cells #[.slice none 0 0] 28))) := hBa.alloc hBa.size _
  have P1 : Hid (((w.alloc (.cells #[.slice a xs.length c] 28)).alloc (.cells #[.slice none 0 0] 28)).heap[w.heap.size + 1]? = some (.cells #[.slice none 0 0] 28)) := by
    have h := heap_alloc_new (w.alloc (.cells #[.slice a xs.length c] 28)) (.cells #[.slice none 0 0] 28)
    rwa [show (w.alloc (.cells #[.slice a xs.length c] 28)).heap.size = w.heap.size + 1 by simp] at h
  have hE : ((w.alloc (.cells #[.slice a xs.length c] 28)).alloc (.cells #[.slice none 0 0] 28)).cell? ⟨w.heap.size, 0, none⟩ = some (.slice a xs.length c) := cell_keep (box_at _ _ _ 0 _ rfl) ((Below.refl _ _).alloc (Nat.le_refl _) _)
  have HSt : Hid (∀ W, Below w.heap.size w W → RowC 3 RuleE W (.slice a xs.length c) xs) := fun W hW => RowC.below RuleE_stable hv hW
  have HS : Hid (((w.alloc (.cells #[.slice a xs.length c] 28)).alloc (.cells #[.slice none 0 0] 28)).heap.size = w.heap.size + 2) := by rw [Hid]; simp
  have HCl : Hid (∀ W, Below w.heap.size w W → _) := fun W hW => copyG_any (.slice a xs.length c) xs W hI (HSt.out W hW)
  have HAt : Hid (∀ (s : ByteArray) W, Below w.heap.size w W → _) := fun s W hW => specRuleAt_any (.slice a xs.length c) xs s W hgl (HSt.out W hW)
  have HGo : Hid (∀ W, Below w.heap.size w W → _) := fun W hW => specGrammarOk_any (.slice a xs.length c) xs W hg hin (HSt.out W hW)
  have HCa : Hid (∀ (r : Nat) W, Below w.heap.size w W → _) := fun r W hW => specCallsOf_any (.slice a xs.length c) xs (r : Int) W hg (HSt.out W hW)
  clear hv hBa
  go_enter Tryz.func5, Tryz.ntmps5
  go_wp2_with fail
  generalize (w.alloc (.cells #[.slice a xs.length c] 28)).alloc (.cells #[.slice none 0 0] 28) = W0 at *
  have HFin : Hid (∀ (V : World) (o : Value) (L : List RuleD), Below W0.heap.size W0 V → RowF 3 42 RuleG (Nw W0.heap.size V.heap.size) o L V → (V.cell? ⟨w.heap.size + 1, 0, none⟩ = some (.slice none 0 0) ∧ V.frozen? ⟨w.heap.size + 1, 0, none⟩ = false) ∧ ∃ V', V' = V.setCell ⟨w.heap.size + 1, 0, none⟩ o ∧ V'.cell? ⟨w.heap.size + 1, 0, none⟩ = some o ∧ RowF 3 42 RuleG (Nw w.heap.size V'.heap.size) o L V' ∧ Below w.heap.size w V') := fun V o L hV hR => by
    have h1 : V.heap[w.heap.size + 1]? = some (.cells #[.slice none 0 0] 28) := (hV.block _ (by rw [HS.out]; omega)).trans P1.out
    refine ⟨⟨cell_block h1 rfl, frozen_block h1⟩, _, rfl, cell_block (block_set h1) rfl, ?_, ?_⟩
    · have h3 := hR.ag stabRuleG ((Kp.store (F := fun q => q = w.heap.size + 1) (w := V) (o := 0) (u := o) rfl).ag (fun q hq e => by have := hq.1; have := HS.out; omega))
      exact h3.up (fun q hq => ⟨by have := hq.1; have := HS.out; omega, by have h4 := hq.2; simpa [World.setCell] using h4⟩)
    · exact (BW.out.trans (hV.mono BW.out.size)).setCell (Nat.le_succ _) _
  refine (HGo.out _ BW.out).mono ?_
  rintro e w1 ⟨rfl, hb1⟩
  have B1 : Hid (Below W0.heap.size W0 w1) := hb1
  have hE1 := cell_keep hE hb1
  have BW1 : Hid (Below w.heap.size w w1) := BW.out.trans (hb1.mono BW.out.size)
  clear hb1 hE
  cases hgo : gramB xs with
  | false =>
    have HT : Hid (trimB xs = xs) := by rw [Hid, trimB, hgo]; exact if_neg (by simp)
    clear hgo
    go_wp2_with fail
    refine (HCl.out _ BW1.out).mono ?_
    rintro e w2 ⟨o2, X2, rfl, hfr2, hX2, hb2⟩
    have ho2 : RowF 3 42 RuleG (Nw W0.heap.size w2.heap.size) o2 xs w2 := (gramG_of hfr2.here hX2).up (fun k hk => ⟨by have := hk.1; have := B1.out.size; omega, hk.2⟩)
    obtain ⟨ao2, co2, rfl⟩ := ho2.slice
    obtain ⟨⟨y1, f1⟩, V', hV', z1, z2, z3⟩ := HFin.out w2 _ xs (B1.out.trans (hb2.mono B1.out.size)) ho2
    have HZ2 : Hid _ := z2
    have HZ3 : Hid _ := z3
    have HVe : Hid (V' = _) := hV'
    clear z2 z3 hV' ho2 hfr2 hX2 hb2
    go_wp2
    rw [← HVe.out]
    refine bodyPost_ret (by simp [results, Tryz.results5, go_sem, z1]; try rfl) rfl ?_
    rw [HT.out]
    exact ⟨_, rfl, HZ2.out, HZ3.out⟩
  | true =>
    have hpos : 0 < xs.length := by
      rw [gramB, Bool.and_eq_true, Bool.and_eq_true, decide_eq_true_eq] at hgo
      have := hgo.1.1.1
      omega
    have HG1 : Hid (gramB xs = true) := hgo
    have HT : Hid (trimB xs = trimTo xs xs.length) := by rw [Hid, trimB, if_pos hgo]
    have i0 : (0 : Int) < (xs.length : Int) := by omega
    clear hgo
    go_wp2_with (at_make; refine wpList_make_full _ rfl _ _ 36 rfl w1.heap.size 4 ib _ 1 Tryz.underlying36 hib hib0 hib1 .i64 .i64 _ _ xs.length rfl rfl rfl rfl (by rw [hib2]; omega) (by unfold maxLen; omega) (Nat.le_refl _) ?_; intro w2 hown hg1; have HB2 : Hid (Below w1.heap.size w1 w2) := (Below.refl _ _).grown hg1 (Nat.le_refl _) (fun k h => by cases h); have hE2 := cell_keep hE1 HB2.out; have HO2 : Hid (OwnB15 w1.heap.size (.slice (some ⟨w1.heap.size, 0, none⟩) xs.length xs.length) (List.replicate xs.length false) w2) := made_flags15 hown; have c2 := (HO2.out.at (k := 0) (by simpa using hpos)).1; have f2 := (HO2.out.at (k := 0) (by simpa using hpos)).2; clear hown hg1)
    have HO3 : Hid (OwnB15 w1.heap.size (.slice (some ⟨w1.heap.size, 0, none⟩) xs.length xs.length) ((List.replicate xs.length false).set 0 true) (w2.setCell ⟨w1.heap.size, 0, none⟩ (.bool true))) := HO2.out.set 0 true
    have HB3 : Hid (Below w1.heap.size w1 (w2.setCell ⟨w1.heap.size, 0, none⟩ (.bool true))) := HB2.out.setCell (Nat.le_refl _) _
    clear c2 f2 HO2 HB2 hE2
    generalize w2.setCell ⟨w1.heap.size, 0, none⟩ (.bool true) = w3 at *
    go_loopw [4] (fun tv wr => ∃ (t : Nat) (m : List Bool), tv = .int .i64 t ∧ t ≤ xs.length ∧ RdT xs m t ∧ OwnB15 w1.heap.size (.slice (some ⟨w1.heap.size, 0, none⟩) xs.length xs.length) m wr ∧ Below w1.heap.size w1 wr) (fun tv _ => xs.length - (intOf tv).toNat)
    case atStart => exact ⟨0, _, rfl, Nat.zero_le _, RdT.start hpos, HO3.out, HB3.out⟩
    case round =>
      clear HO3 HB3
      obtain ⟨t, mR, rfl, ht, hrt, hrO, hrB⟩ := hrel
      obtain ⟨wt, rfl⟩ : ∃ W, W = wr := ⟨wr, rfl⟩
      have HRT : Hid (RdT xs mR t) := hrt
      have HOt : Hid (OwnB15 w1.heap.size (.slice (some ⟨w1.heap.size, 0, none⟩) xs.length xs.length) mR wt) := hrO
      have HBt : Hid (Below w1.heap.size w1 wt) := hrB
      have hEt := cell_keep hE1 hrB
      clear hrt hrO hrB
      by_cases hlt : t < xs.length
      · have i4 : (t : Int) < (xs.length : Int) := by omega
        go_wp2
        go_loopw [5] (fun iv wr => ∃ (i : Nat) (m : List Bool), iv = .int .i64 i ∧ i ≤ xs.length ∧ RdI xs mR m i ∧ OwnB15 w1.heap.size (.slice (some ⟨w1.heap.size, 0, none⟩) xs.length xs.length) m wr ∧ Below w1.heap.size w1 wr) (fun iv _ => xs.length - (intOf iv).toNat)
        case atStart => exact ⟨0, mR, rfl, Nat.zero_le _, RdI.start HRT.out, HOt.out, HBt.out⟩
        case round =>
          obtain ⟨i, m, rfl, hi, hri, hrO, hrB⟩ := hrel
          obtain ⟨wi, rfl⟩ : ∃ W, W = wr := ⟨wr, rfl⟩
          have HRI : Hid (RdI xs mR m i) := hri
          have HOi : Hid (OwnB15 w1.heap.size (.slice (some ⟨w1.heap.size, 0, none⟩) xs.length xs.length) m wi) := hrO
          have HBi : Hid (Below w1.heap.size w1 wi) := hrB
          have hEi := cell_keep hE1 hrB
          clear hri hrO hrB
          by_cases hli : i < xs.length
          · have i5 : (i : Int) < (xs.length : Int) := by omega
            go_wp2_with fail
            refine (HCa.out i _ (BW1.out.trans (HBi.out.mono BW1.out.size))).mono ?_
            rintro e w4 ⟨cv, rfl, hcv, hb4⟩
            obtain ⟨ca, cc, rfl⟩ := hcv.row.slice
            have HQ4 : Hid (OwnB wi.heap.size (.slice ca (callsB xs i).length cc) (callsB xs i) w4) := hcv
            have HO4 : Hid (OwnB15 w1.heap.size (.slice (some ⟨w1.heap.size, 0, none⟩) xs.length xs.length) m w4) := HOi.out.below hb4
            have HB4 : Hid (Below w1.heap.size w1 w4) := HBi.out.trans (hb4.mono HBi.out.size)
            have hcl : (callsB xs i).length ≤ 1048576 := Nat.le_trans (callsB_lenT xs i) hg
            clear hcv hb4
            go_wp2
            go_loopw [7] (fun kv wr => ∃ (k : Nat) (m2 : List Bool), kv = .int .i64 k ∧ k ≤ (callsB xs i).length ∧ RdK xs mR m2 i k ∧ OwnB15 w1.heap.size (.slice (some ⟨w1.heap.size, 0, none⟩) xs.length xs.length) m2 wr ∧ OwnB wi.heap.size (.slice ca (callsB xs i).length cc) (callsB xs i) wr ∧ Below w1.heap.size w1 wr) (fun kv _ => (callsB xs i).length - (intOf kv).toNat)
            case atStart => exact ⟨0, m, rfl, Nat.zero_le _, RdK.start HRI.out, HO4.out, HQ4.out, HB4.out⟩
            case round =>
              clear HO4 HQ4 HB4
              obtain ⟨k, m2, rfl, hk, hrk, hrO, hrQ, hrB⟩ := hrel
              obtain ⟨wk, rfl⟩ : ∃ W, W = wr := ⟨wr, rfl⟩
              have HRK : Hid (RdK xs mR m2 i k) := hrk
              have HOk : Hid (OwnB15 w1.heap.size (.slice (some ⟨w1.heap.size, 0, none⟩) xs.length xs.length) m2 wk) := hrO
              have HQk : Hid (OwnB wi.heap.size (.slice ca (callsB xs i).length cc) (callsB xs i) wk) := hrQ
              have HBk : Hid (Below w1.heap.size w1 wk) := hrB
              have hEk := cell_keep hE1 hrB
              have hm2 : m2.length = xs.length := hrk.base.snd.len
              have cm := (hrO.at (k := i) (by omega)).1
              clear hrk hrO hrQ hrB
              by_cases hlk : k < (callsB xs i).length
              · have i6 : (k : Int) < ((callsB xs i).length : Int) := by omega
                cases hmi : m2.getD i false with
                | true =>
                  rw [hmi] at cm
                  obtain ⟨nb, no, rfl, hnc⟩ := HQk.out.row.at hlk
                  obtain ⟨nm, hnm⟩ : ∃ nm, nm = (callsB xs i)[k] := ⟨_, rfl⟩
                  rw [← hnm] at hnc
                  have hpl := calls_place HG1.out hli (nm := nm) (by rw [hnm]; exact List.getElem_mem hlk)
                  obtain ⟨j, hj⟩ : ∃ j : Nat, ruleAtI xs nm = (j : Int) := ⟨(ruleAtI xs nm).toNat, by omega⟩
                  have i7 : (j : Int) < (xs.length : Int) := by omega
                  have HRn : Hid (RdK xs mR (m2.set j true) i (k + 1)) := by
                    have h1 := HRK.out.set HG1.out hli hlk hmi
                    rw [← hnm, hj] at h1
                    exact h1
                  have HAk : Hid (∀ W, Below w.heap.size w W → Calls Tryz.prog 15 #[.agg #[.slice a xs.length c], .string nm] W fun e w' => e = .returned (.int .i64 (j : Int)) ∧ Below W.heap.size W w') := fun W hW => by
                    have h1 := HAt.out nm W hW
                    rw [hj] at h1
                    exact h1
                  have HJ : Hid (j < m2.length) := by rw [Hid, hm2]; omega
                  clear hpl hj hnm hmi
                  go_wp2_with fail
                  refine wp_region_K (k := 8) (S := fun V => V.cell? ⟨w.heap.size, 0, none⟩ = some (.slice a xs.length c) ∧ V.cell? ⟨nb, no + k, none⟩ = some (.string nm)) (by kernel_rfl) ?_ (fun hHeld hcl => ?_)
                  · exact ⟨hEk, hnc⟩
                  refine wpAnyK_free (i := 0) (d := some 51) (v := ?av0) (by assumption) rfl (by kernel_rfl) (by kernel_rfl) (by kernel_rfl) (by decide) (by rfl) (fun _ _ _ h => h) (Or.inl ⟨by rfl, ?ah0⟩) (.inr (by assumption)) (fun hcl0 => ?ar0)
                  case ah0 => (intro w hSw; (try dsimp only at hSw); go_simp; first | done | with_reducible rfl)
                  case' ar0 => (clear hcl; simp only [Act.put, List.setIfInBounds_toArray, List.set_cons_zero, List.set_cons_succ])
                  refine wpAnyK_take [7, 6, 1] (i := 1) (d := some 52) (v := ?av1) (by assumption) rfl (by kernel_rfl) (by kernel_rfl) (by kernel_rfl) (by kernel_rfl) (by kernel_rfl) (by decide) (by rfl) (fun _ _ _ h => h) (Or.inl ⟨by rfl, ?ah1⟩) (by assumption) (fun hcl1 => ?ar1)
                  case ah1 => (intro w hSw; (try dsimp only at hSw); go_simp; first | done | with_reducible rfl)
                  case' ar1 => (clear hcl0; simp only [Act.put, List.setIfInBounds_toArray, List.set_cons_zero, List.set_cons_succ])
                  refine wpAnyK_free (i := 2) (d := some 53) (v := ?av2) (by assumption) rfl (by kernel_rfl) (by kernel_rfl) (by kernel_rfl) (by decide) (by rfl) (fun _ _ _ h => h) (Or.inl ⟨by rfl, ?ah2⟩) (.inr (by assumption)) (fun hcl2 => ?ar2)
                  case ah2 => (intro w hSw; (try dsimp only at hSw); go_simp; first | done | with_reducible rfl)
                  case' ar2 => (clear hcl1; simp only [Act.put, List.setIfInBounds_toArray, List.set_cons_zero, List.set_cons_succ])
                  refine wpAnyK_free (i := 3) (d := some 54) (v := ?av3) (by assumption) rfl (by kernel_rfl) (by kernel_rfl) (by kernel_rfl) (by decide) (by rfl) (fun _ _ _ h => h) (Or.inl ⟨by rfl, ?ah3⟩) (.inr (by assumption)) (fun hcl3 => ?ar3)
                  case ah3 => (intro w hSw; (try dsimp only at hSw); go_simp; first | done | with_reducible rfl)
                  case' ar3 => (clear hcl2; simp only [Act.put, List.setIfInBounds_toArray, List.set_cons_zero, List.set_cons_succ])
                  refine wpAnyK_free (i := 4) (d := some 55) (v := ?av4) (by assumption) rfl (by kernel_rfl) (by kernel_rfl) (by kernel_rfl) (by decide) (by rfl) (fun _ _ _ h => h) (Or.inl ⟨by rfl, ?ah4⟩) (.inr (by assumption)) (fun hcl4 => ?ar4)
                  case ah4 => (intro w hSw; (try dsimp only at hSw); go_simp; first | done | with_reducible rfl)
                  case' ar4 => (clear hcl3; simp only [Act.put, List.setIfInBounds_toArray, List.set_cons_zero, List.set_cons_succ])
                  refine wpAnyK_take [7, 6, 5] (i := 5) (d := some 56) (v := ?av5) (by assumption) rfl (by kernel_rfl) (by kernel_rfl) (by kernel_rfl) (by kernel_rfl) (by kernel_rfl) (by decide) (by rfl) (fun _ _ _ h => h) (Or.inl ⟨by rfl, ?ah5⟩) (by assumption) (fun hcl5 => ?ar5)
                  case ah5 => (intro w hSw; (try dsimp only at hSw); go_simp; first | done | with_reducible rfl)
                  case' ar5 => (clear hcl4; simp only [Act.put, List.setIfInBounds_toArray, List.set_cons_zero, List.set_cons_succ])
                  refine wpAnyK_one (i := 6) (by assumption) (by kernel_rfl) rfl (fun K hK => ?_)
                  go_simp
                  go_at_call 15
                  refine (HAk.out _ (BW1.out.trans (HBk.out.drew.mono BW1.out.size))).mono ?_
                  rintro e w5 ⟨rfl, hb5⟩
                  have B5 : Below wk.heap.size wk w5 := bel_of_drew hb5
                  have h51 := cell_keep hEk B5
                  have h52 := cell_keep hnc B5
                  go_simp
                  refine hK.out _ _ ⟨h51, h52⟩ (fun hcl6 => ?_)
                  have HO5 : Hid (OwnB15 w1.heap.size (.slice (some ⟨w1.heap.size, 0, none⟩) xs.length xs.length) m2 w5) := HOk.out.below B5
                  have c5 := (HO5.out.at HJ.out).1
                  have f5 := (HO5.out.at HJ.out).2
                  have HO6 : Hid (OwnB15 w1.heap.size (.slice (some ⟨w1.heap.size, 0, none⟩) xs.length xs.length) (m2.set j true) (w5.setCell ⟨w1.heap.size, j, none⟩ (.bool true))) := HO5.out.set j true
                  have HQ6 : Hid (OwnB wi.heap.size (.slice (some ⟨nb, no, none⟩) (callsB xs i).length cc) (callsB xs i) (w5.setCell ⟨w1.heap.size, j, none⟩ (.bool true))) := keepS15_set (HQk.out.below B5) HO5.out j _
                  have HB6 : Hid (Below w1.heap.size w1 (w5.setCell ⟨w1.heap.size, j, none⟩ (.bool true))) := (HBk.out.trans (B5.mono HBk.out.size)).setCell (Nat.le_refl _) _
                  refine wpAnyK_one (i := 7) (by assumption) (by kernel_rfl) rfl (fun K hK => ?_)
                  go_simp
                  refine hK.out _ _ ⟨h51, h52⟩ (fun hcl7 => ?_)
                  refine wpAnyK_past (i := 8) (by assumption) (by kernel_rfl) rfl (by kernel_rfl) (fun K hK => ?_)
                  go_simp
                  refine hK.out _ _ (fun hcl8 => ?_)
                  refine wpAnyK_done (by kernel_rfl) ?_
                  clear hcl6 hcl7 hcl8 hHeld h51 h52 c5 f5 HO5 B5
                  go_wp2
                  go_roundw
                  case rel => exact ⟨k + 1, _, by go_num, by omega, HRn.out, HO6.out, HQ6.out, HB6.out⟩
                  case measure => simp [intOf]; omega
                | false =>
                  have HRn : Hid (RdI xs mR m2 (i + 1)) := HRK.out.off hmi
                  rw [hmi] at cm
                  clear hmi
                  go_wp2
                  go_roundw
                  case rel => exact ⟨i + 1, m2, by go_num, by omega, HRn.out, HOk.out, HBk.out⟩
                  case measure => simp [intOf]; omega
              · obtain rfl : k = (callsB xs i).length := by omega
                have i6 : ¬ ((callsB xs i).length : Int) < ((callsB xs i).length : Int) := by omega
                have HRn : Hid (RdI xs mR m2 (i + 1)) := HRK.out.all
                go_wp2
                go_roundw
                case rel => exact ⟨i + 1, m2, by go_num, by omega, HRn.out, HOk.out, HBk.out⟩
                case measure => simp [intOf]; omega
          · obtain rfl : i = xs.length := by omega
            have i5 : ¬ (xs.length : Int) < (xs.length : Int) := by omega
            have HRn : Hid (RdT xs m (t + 1)) := RdI.fin HRT.out HRI.out
            go_wp2
            go_roundw
            case rel => exact ⟨t + 1, m, by go_num, by omega, HRn.out, HOi.out, HBi.out⟩
            case measure => simp [intOf]; omega
      · obtain rfl : t = xs.length := by omega
        have i4 : ¬ (xs.length : Int) < (xs.length : Int) := by omega
        have HKp : Hid (∀ q, mR.getD q false = keepT xs q) := fun q => HRT.out.fin q
        have hml : mR.length = xs.length := HRT.out.snd.len
        have HFl : Hid (∀ V, Below wt.heap.size wt V → ∀ q, q < xs.length → V.cell? ⟨w1.heap.size, q, none⟩ = some (.bool (keepT xs q))) := fun V hV q hq => by
          have h1 := ((HOt.out.below hV).at (k := q) (by omega)).1
          rwa [HKp.out q] at h1
        clear hml
        go_wp2_with fail
        refine (HCl.out _ (BW1.out.trans (HBt.out.mono BW1.out.size))).mono ?_
        rintro e w5 ⟨o2, X2, rfl, hfr2, hX2, hb5⟩
        have ho2 : RowF 3 42 RuleG (Nw wt.heap.size w5.heap.size) o2 xs w5 := (gramG_of hfr2.here hX2).up (fun k hk => ⟨by have := hk.1; omega, hk.2⟩)
        clear hfr2 hX2
        obtain ⟨vss, Fs, hvl, hvs, hown, hlay, hEl⟩ := ho2
        obtain ⟨g2, k2, rfl, _, _⟩ := World.ownsRow.form hown (by omega)
        have HLay : Hid (Lay (.slice (some ⟨g2, 0, none⟩) xs.length k2) (Nw wt.heap.size w5.heap.size) Fs) := hlay
        have HVl : Hid (vss.length = xs.length) := hvl
        have HVs : Hid (∀ vs ∈ vss, vs.length = 3) := hvs
        have HEl : Hid (∀ i (h : i < vss.length) (h' : i < xs.length), RuleG (Fs i) w5 vss[i] xs[i]) := hEl
        have HB5 : Hid (Below wt.heap.size wt w5) := hb5
        have hg2 : g2 < w5.heap.size := (World.ownsRow.lt hown g2 rfl).2
        have HCv : Hid (∀ (k j : Nat) (hk : k < vss.length) (hj : j < vss[k].length), w5.cell? ⟨g2, k * 3 + j, none⟩ = some vss[k][j]) := fun k j hk hj => by
          have hf := flat_at 3 vss hvs k j hk hj
          have h1 := World.ownsRow.cells hown (g := g2) rfl (k * 3 + j) _ hf
          rwa [Addr.add_lit, Nat.zero_add] at h1
        have B6 : Hid (Below w5.heap.size w5 ((w5.alloc (.cells #[.slice (some ⟨g2, 0, none⟩) xs.length k2] 28)).alloc (.cells #[.slice none 0 0] 28))) := ((Below.refl _ _).alloc (Nat.le_refl _) _).alloc (by simp) _
        have S6 : Hid (((w5.alloc (.cells #[.slice (some ⟨g2, 0, none⟩) xs.length k2] 28)).alloc (.cells #[.slice none 0 0] 28)).heap.size = w5.heap.size + 2) := by rw [Hid]; simp
        have X6 : Hid (((w5.alloc (.cells #[.slice (some ⟨g2, 0, none⟩) xs.length k2] 28)).alloc (.cells #[.slice none 0 0] 28)).cell? ⟨w5.heap.size, 0, none⟩ = some (.slice (some ⟨g2, 0, none⟩) xs.length k2)) := cell_keep (box_at _ _ _ 0 _ rfl) ((Below.refl _ _).alloc (Nat.le_refl _) _)
        have O6 : Hid (((w5.alloc (.cells #[.slice (some ⟨g2, 0, none⟩) xs.length k2] 28)).alloc (.cells #[.slice none 0 0] 28)).heap[w5.heap.size + 1]? = some (.cells #[.slice none 0 0] 28)) := by
          have h := heap_alloc_new (w5.alloc (.cells #[.slice (some ⟨g2, 0, none⟩) xs.length k2] 28)) (.cells #[.slice none 0 0] 28)
          rwa [show (w5.alloc (.cells #[.slice (some ⟨g2, 0, none⟩) xs.length k2] 28)).heap.size = w5.heap.size + 1 by simp] at h
        clear hvl hvs hown hlay hEl hb5
        go_wp2_with fail
        generalize (w5.alloc (.cells #[.slice (some ⟨g2, 0, none⟩) xs.length k2] 28)).alloc (.cells #[.slice none 0 0] 28) = w6 at *
        have HK0 : Hid (KeptO vss (keptIx (keepT xs) 0) w6.heap.size (.slice none 0 0) w6) := ⟨by simp [keptIx], .inl ⟨rfl, by simp [keptIx]⟩⟩
        have hS6 := S6.out
        go_loopw [10] (fun kv wr => ∃ (k : Nat) (ov : Value), kv = .int .i64 k ∧ k ≤ xs.length ∧ wr.heap[w5.heap.size + 1]? = some (.cells #[ov] 28) ∧ KeptO vss (keptIx (keepT xs) k) w6.heap.size ov wr ∧ Kp (fun q => q = w5.heap.size + 1) w6 wr) (fun kv _ => xs.length - (intOf kv).toNat)
        case atStart => exact ⟨0, _, rfl, Nat.zero_le _, O6.out, HK0.out, Kp.refl⟩
        case round =>
          clear HK0 O6
          obtain ⟨k, ov, rfl, hk, hbx, hko, hkp⟩ := hrel
          obtain ⟨wr', rfl⟩ : ∃ W, W = wr := ⟨wr, rfl⟩
          obtain ⟨oa, oc, rfl⟩ := hko.slice
          have HBx : Hid (wr'.heap[w5.heap.size + 1]? = some (.cells #[.slice oa (keptIx (keepT xs) k).length oc] 28)) := hbx
          have HKo : Hid (KeptO vss (keptIx (keepT xs) k) w6.heap.size (.slice oa (keptIx (keepT xs) k).length oc) wr') := hko
          have HKp : Hid (Kp (fun q => q = w5.heap.size + 1) w6 wr') := hkp
          have c8 : wr'.cell? ⟨w5.heap.size, 0, none⟩ = some (.slice (some ⟨g2, 0, none⟩) xs.length k2) := kp_cell X6.out hkp (by simp)
          have c9 : wr'.cell? ⟨w5.heap.size + 1, 0, none⟩ = some (.slice oa (keptIx (keepT xs) k).length oc) := cell_block hbx rfl
          have hwb : w5.heap.size + 1 < wr'.heap.size := (Array.getElem?_eq_some_iff.1 hbx).1
          have hws : w6.heap.size ≤ wr'.heap.size := hkp.size
          have hkl : (keptIx (keepT xs) k).length ≤ k := keptIx_len _ _
          clear hbx hko hkp
          by_cases hlk : k < xs.length
          · have i6 : (k : Int) < (xs.length : Int) := by omega
            have hfl := HFl.out w6 (HB5.out.trans (B6.out.mono HB5.out.size)) k hlk
            have cf : wr'.cell? ⟨w1.heap.size, k, none⟩ = some (.bool (keepT xs k)) := kp_cell hfl HKp.out (fun e => by have h1 : w1.heap.size = w5.heap.size + 1 := e; have := HBt.out.size; have := HB5.out.size; omega)
            clear hfl
            cases hkt : keepT xs k with
            | true =>
              rw [hkt] at cf
              have HIx : Hid (keptIx (keepT xs) (k + 1) = keptIx (keepT xs) k ++ [k]) := by rw [Hid, keptIx_next, if_pos hkt]
              have hkv : k < vss.length := by rw [HVl.out]; exact hlk
              obtain ⟨pv, av, Fp, Fa, hvk, hp1, hp2, hp3, _⟩ := HEl.out k hkv hlk
              obtain ⟨pa, pc, rfl⟩ := hp1.row.slice
              obtain ⟨aa, ac, rfl⟩ := hp3.slice
              have HVk : Hid (vss.getD k [] = [.string xs[k].name, .slice pa xs[k].params.length pc, .slice aa xs[k].alts.length ac]) := by
                rw [Hid, List.getD_eq_getElem?_getD, List.getElem?_eq_getElem hkv]
                exact hvk
              have n0 : wr'.cell? ⟨g2, k * 3, none⟩ = some (.string xs[k].name) := by
                have h1 := HCv.out k 0 hkv (by rw [hvk]; simp)
                simp only [hvk, List.getElem_cons_zero, Nat.add_zero] at h1
                exact kp_cell (cell_keep h1 B6.out) HKp.out (fun e => by have h1 : g2 = w5.heap.size + 1 := e; omega)
              have n1 : wr'.cell? ⟨g2, k * 3 + 1, none⟩ = some (.slice pa xs[k].params.length pc) := by
                have h1 := HCv.out k 1 hkv (by rw [hvk]; simp)
                simp only [hvk, List.getElem_cons_zero, List.getElem_cons_succ] at h1
                exact kp_cell (cell_keep h1 B6.out) HKp.out (fun e => by have h1 : g2 = w5.heap.size + 1 := e; omega)
              have n2 : wr'.cell? ⟨g2, k * 3 + 2, none⟩ = some (.slice aa xs[k].alts.length ac) := by
                have h1 := HCv.out k 2 hkv (by rw [hvk]; simp)
                simp only [hvk, List.getElem_cons_zero, List.getElem_cons_succ] at h1
                exact kp_cell (cell_keep h1 B6.out) HKp.out (fun e => by have h1 : g2 = w5.heap.size + 1 := e; omega)
              clear hvk hp1 hp2 hp3 hkt
              generalize xs[k].name = nm at *
              generalize xs[k].params.length = pl at *
              generalize xs[k].alts.length = al at *
              go_wp2_with fail
              refine wp_region_K (k := 8) (S := fun V => V.cell? ⟨w5.heap.size + 1, 0, none⟩ = some (.slice oa (keptIx (keepT xs) k).length oc) ∧ V.cell? ⟨w5.heap.size, 0, none⟩ = some (.slice (some ⟨g2, 0, none⟩) xs.length k2) ∧ V.cell? ⟨g2, k * 3, none⟩ = some (.string nm) ∧ V.cell? ⟨g2, k * 3 + 1, none⟩ = some (.slice pa pl pc) ∧ V.cell? ⟨g2, k * 3 + 2, none⟩ = some (.slice aa al ac)) (by kernel_rfl) ?_ (fun hHeld hcl => ?_)
              · exact ⟨c9, c8, n0, n1, n2⟩
              refine wpAnyK_free (i := 0) (d := some 73) (v := ?bv0) (by assumption) rfl (by kernel_rfl) (by kernel_rfl) (by kernel_rfl) (by decide) (by rfl) (fun _ _ _ h => h) (Or.inl ⟨by rfl, ?bh0⟩) (.inr (by assumption)) (fun hcl0 => ?br0)
              case bh0 => (intro w hSw; (try dsimp only at hSw); go_simp; first | done | with_reducible rfl)
              case' br0 => (clear hcl; simp only [Act.put, List.setIfInBounds_toArray, List.set_cons_zero, List.set_cons_succ])
              refine wpAnyK_take [1] (i := 1) (d := some 74) (v := ?bv1) (by assumption) rfl (by kernel_rfl) (by kernel_rfl) (by kernel_rfl) (by kernel_rfl) (by kernel_rfl) (by decide) (by rfl) (fun _ _ _ h => h) (Or.inl ⟨by rfl, ?bh1⟩) (by assumption) (fun hcl1 => ?br1)
              case bh1 => (intro w hSw; (try dsimp only at hSw); go_simp; first | done | with_reducible rfl)
              case' br1 => (clear hcl0; simp only [Act.put, List.setIfInBounds_toArray, List.set_cons_zero, List.set_cons_succ])
              refine wpAnyK_free (i := 2) (d := some 75) (v := ?bv2) (by assumption) rfl (by kernel_rfl) (by kernel_rfl) (by kernel_rfl) (by decide) (by rfl) (fun _ _ _ h => h) (Or.inl ⟨by rfl, ?bh2⟩) (.inr (by assumption)) (fun hcl2 => ?br2)
              case bh2 => (intro w hSw; (try dsimp only at hSw); go_simp; first | done | with_reducible rfl)
              case' br2 => (clear hcl1; simp only [Act.put, List.setIfInBounds_toArray, List.set_cons_zero, List.set_cons_succ])
              refine wpAnyK_take [7, 6, 5, 3] (i := 3) (d := some 76) (v := ?bv3) (by assumption) rfl (by kernel_rfl) (by kernel_rfl) (by kernel_rfl) (by kernel_rfl) (by kernel_rfl) (by decide) (by rfl) (fun _ _ _ h => h) (Or.inl ⟨by rfl, ?bh3⟩) (by assumption) (fun hcl3 => ?br3)
              case bh3 => (intro w hSw; (try dsimp only at hSw); go_simp; first | done | with_reducible rfl)
              case' br3 => (clear hcl2; simp only [Act.put, List.setIfInBounds_toArray, List.set_cons_zero, List.set_cons_succ])
              refine wpAnyK_free (i := 4) (d := some 77) (v := ?bv4) (by assumption) rfl (by kernel_rfl) (by kernel_rfl) (by kernel_rfl) (by decide) (by rfl) (fun _ _ _ h => h) (Or.inl ⟨by rfl, ?bh4⟩) (.inr (by assumption)) (fun hcl4 => ?br4)
              case bh4 => (intro w hSw; (try dsimp only at hSw); go_simp; first | done | with_reducible rfl)
              case' br4 => (clear hcl3; simp only [Act.put, List.setIfInBounds_toArray, List.set_cons_zero, List.set_cons_succ])
              refine wpAnyK_free (i := 5) (d := some 78) (v := ?bv5) (by assumption) rfl (by kernel_rfl) (by kernel_rfl) (by kernel_rfl) (by decide) (by rfl) (fun _ _ _ h => h) (Or.inl ⟨by rfl, ?bh5⟩) (.inr (by assumption)) (fun hcl5 => ?br5)
              case bh5 => (intro w hSw; (try dsimp only at hSw); go_simp; first | done | with_reducible rfl)
              case' br5 => (clear hcl4; simp only [Act.put, List.setIfInBounds_toArray, List.set_cons_zero, List.set_cons_succ])
              refine wpAnyK_take [7, 6] (i := 6) (d := some 79) (v := ?bv6) (by assumption) rfl (by kernel_rfl) (by kernel_rfl) (by kernel_rfl) (by kernel_rfl) (by kernel_rfl) (by decide) (by rfl) (fun _ _ _ h => h) (Or.inl ⟨by rfl, ?bh6⟩) (by assumption) (fun hcl6 => ?br6)
              case bh6 => (intro w hSw; (try dsimp only at hSw); go_simp; first | done | with_reducible rfl)
              case' br6 => (clear hcl5; simp only [Act.put, List.setIfInBounds_toArray, List.set_cons_zero, List.set_cons_succ])
              have bal : Below wr'.heap.size wr' (wr'.drew.alloc (.cells #[.string nm, .slice pa pl pc, .slice aa al ac] 42)) := (Below.refl wr'.heap.size wr').drew.alloc (Nat.le_refl _) _
              refine wpAnyK_one (i := 7) (by assumption) (by kernel_rfl) rfl (fun K hK => ?_)
              go_simp
              refine hK.out _ _ ⟨cell_keep c9 bal, cell_keep c8 bal, cell_keep n0 bal, cell_keep n1 bal, cell_keep n2 bal⟩ (fun hcl7 => ?_)
              have H3 : KeptO vss (keptIx (keepT xs) k) w6.heap.size (.slice oa (keptIx (keepT xs) k).length oc) (wr'.drew.alloc (.cells #[.string nm, .slice pa pl pc, .slice aa al ac] 42)) := HKo.out.below bal
              have hw4 : w6.heap.size ≤ (wr'.drew.alloc (.cells #[.string nm, .slice pa pl pc, .slice aa al ac] 42)).heap.size := Nat.le_trans hws bal.size
              refine wpAnyK_past (i := 8) (by assumption) (by kernel_rfl) rfl (by kernel_rfl) (fun K hK => ?_)
              refine step_append_lies _ (by rfl) _ _ _ (by rfl) w6.heap.size 42 r0 _ 3 64 Tryz.underlying26 hr hr0 hr1 hr2 rfl (by omega) _ _ _ (by rfl) H3 ⟨wr'.heap.size, 0, none⟩ 1 1 [.string nm, .slice pa pl pc, .slice aa al ac] (by rfl) (by rfl) (World.news_of_block (cs := #[.string nm, .slice pa pl pc, .slice aa al ac]) (t := 42) (fr := (0, 0)) (heap_alloc_new wr'.drew _)) (three_ruleP _ _ _ _ _ _ _) (by omega) (by show (keptIx (keepT xs) k).length + 1 ≤ _; unfold maxLen; omega) (by show ((keptIx (keepT xs) k).length + 1) * 64 ≤ _; omega) hw4 (wr'.heap.size + 1) (by simp [World.drew]) ?_
              intro gg capg w4 hown4 hgrow hat hlt4
              have hgs : (wr'.drew.alloc (.cells #[.string nm, .slice pa pl pc, .slice aa al ac] 42)).heap.size ≤ w4.heap.size := hgrow.size
              have hgb : ∀ j, j < wr'.heap.size → some j ≠ (Value.slice oa (keptIx (keepT xs) k).length oc).ownBlock → w4.heap[j]? = wr'.heap[j]? := fun j hj hn => (hgrow.block j (Nat.lt_of_lt_of_le hj bal.size) hn).trans (bal.block j hj)
              have hne : ∀ j, j < w6.heap.size → some j ≠ (Value.slice oa (keptIx (keepT xs) k).length oc).ownBlock := fun j hj e => by have := (World.ownsRow.lt H3 _ e.symm).1; omega
              have hb4 : w4.heap[w5.heap.size + 1]? = some (.cells #[.slice oa (keptIx (keepT xs) k).length oc] 28) := (hgb _ hwb (hne _ (by omega))).trans HBx.out
              have c4 : w4.cell? ⟨w5.heap.size + 1, 0, none⟩ = some (.slice oa (keptIx (keepT xs) k).length oc) := cell_block hb4 rfl
              have f4 : w4.frozen? ⟨w5.heap.size + 1, 0, none⟩ = false := frozen_block hb4
              have K4 : Kp (fun q => q = w5.heap.size + 1) w6 w4 := ⟨hgrow.os.trans (bal.os.trans HKp.out.os), hgrow.tape.trans (bal.tape.trans HKp.out.tape), hgrow.output.trans (bal.output.trans HKp.out.output), Nat.le_trans hw4 hgs, fun j hj hF => (hgb j (by omega) (hne j hj)).trans (HKp.out.block j hj hF)⟩
              have K5 : Hid (Kp (fun q => q = w5.heap.size + 1) w6 (w4.setCell ⟨w5.heap.size + 1, 0, none⟩ (.slice (some ⟨gg, 0, none⟩) ((keptIx (keepT xs) k).length + 1) capg))) := K4.trans (Kp.store rfl)
              have X5 : Hid ((w4.setCell ⟨w5.heap.size + 1, 0, none⟩ (.slice (some ⟨gg, 0, none⟩) ((keptIx (keepT xs) k).length + 1) capg)).heap[w5.heap.size + 1]? = some (.cells #[.slice (some ⟨gg, 0, none⟩) ((keptIx (keepT xs) k).length + 1) capg] 28)) := block_set hb4
              have O5 : Hid (KeptO vss (keptIx (keepT xs) (k + 1)) w6.heap.size (.slice (some ⟨gg, 0, none⟩) ((keptIx (keepT xs) k).length + 1) capg) (w4.setCell ⟨w5.heap.size + 1, 0, none⟩ (.slice (some ⟨gg, 0, none⟩) ((keptIx (keepT xs) k).length + 1) capg))) := by
                have h1 : KeptO vss (keptIx (keepT xs) (k + 1)) w6.heap.size (.slice (some ⟨gg, 0, none⟩) ((keptIx (keepT xs) k).length + 1) capg) w4 := by
                  rw [HIx.out, KeptO, List.length_append, List.map_append, List.flatten_append]
                  simp only [List.map_cons, List.map_nil, List.flatten_cons, List.flatten_nil, List.append_nil, List.length_singleton, HVk.out]
                  exact hown4
                refine own_ag h1 (F := fun q => w6.heap.size ≤ q) ((Kp.store (F := fun q => q = w5.heap.size + 1) (o := 0) rfl).ag (fun q hq e => by omega)) (fun q hq => (World.ownsRow.lt h1 q hq).1)
              refine hK.out _ _ (fun hcl8 => ?_)
              clear hcl7 hgrow hat hown4 H3 hgs hgb hne bal n0 n1 n2 hHeld hb4 K4 c9
              refine wpAnyK_past (i := 9) (by assumption) (by kernel_rfl) rfl (by kernel_rfl) (fun K hK => ?_)
              go_simp
              refine hK.out _ _ (fun hcl9 => ?_)
              refine wpAnyK_past (i := 10) (by assumption) (by kernel_rfl) rfl (by kernel_rfl) (fun K hK => ?_)
              go_simp
              refine hK.out _ _ (fun hcl10 => ?_)
              refine wpAnyK_done (by kernel_rfl) ?_
              clear hcl8 hcl9 hcl10 c4 f4
              go_wp2
              go_roundw
              case rel => exact ⟨k + 1, _, by go_num, by omega, X5.out, O5.out, K5.out⟩
              case measure => simp [intOf]; omega
            | false =>
              rw [hkt] at cf
              have HIx : Hid (keptIx (keepT xs) (k + 1) = keptIx (keepT xs) k) := by rw [Hid, keptIx_next, if_neg (by rw [hkt]; simp)]
              clear hkt
              go_wp2
              go_roundw
              case rel => exact ⟨k + 1, _, by go_num, by omega, HBx.out, by rw [HIx.out]; exact HKo.out, HKp.out⟩
              case measure => simp [intOf]; omega
          · obtain rfl : k = xs.length := by omega
            have i6 : ¬ (xs.length : Int) < (xs.length : Int) := by omega
            have hR : RowF 3 42 RuleG (Nw W0.heap.size wr'.heap.size) (.slice oa (keptIx (keepT xs) xs.length).length oc) (trimTo xs xs.length) wr' := by
              have h1 := kept_rowF (w := wr') HVl.out HVs.out HLay.out (fun i h h' => stabRuleG.ag _ _ _ _ _ (HEl.out i h h') ((Ag.below B6.out).trans (HKp.out.ag (fun q hq e => by have h2 := (HLay.out.sub _ _ hq).2; omega)))) HKo.out HB5.out.size (by omega) (by omega)
              exact h1.up (fun q hq => ⟨by have h2 := hq.1; have := HBt.out.size; have := B1.out.size; omega, hq.2⟩)
            have hBl : Below W0.heap.size W0 wr' := by
              have h1 : Below W0.heap.size W0 w5 := (B1.out.trans (HBt.out.mono B1.out.size)).trans (HB5.out.mono (Nat.le_trans B1.out.size HBt.out.size))
              have h2 : Below W0.heap.size W0 w6 := h1.trans (B6.out.mono h1.size)
              exact Kp.onto h2 (Nat.le_refl _) (fun q hq => by have := h1.size; omega) HKp.out
            obtain ⟨⟨y1, f1⟩, V', hV', z1, z2, z3⟩ := HFin.out wr' _ _ hBl hR
            have HZ2 : Hid _ := z2
            have HZ3 : Hid _ := z3
            have HVe : Hid (V' = _) := hV'
            clear z2 z3 hV' hR hBl
            go_wp2
            rw [← HVe.out]
            refine bodyPost_ret (by simp [results, Tryz.results5, go_sem, z1]; try rfl) rfl ?_
            rw [HT.out]
            exact ⟨_, rfl, HZ2.out, HZ3.out⟩

end Go.Proofs.YtkmkfpgaehgonaaGreatDoor
