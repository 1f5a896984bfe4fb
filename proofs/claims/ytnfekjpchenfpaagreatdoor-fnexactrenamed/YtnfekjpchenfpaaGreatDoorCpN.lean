/- The specification's Renamed (printed by mk/cpn.py). -/
import Derived.Test.YtnfekjpchenfpaaGreatDoorCpK
import Derived.Test.YtnfekjpchenfpaaGreatDoorCpJ
import Derived.Test.YtnfekjpchenfpaaGreatDoorGGram
namespace Go.Proofs.YtnfekjpchenfpaaGreatDoor
open Go.RowKit
set_option linter.unusedVariables false

set_option maxHeartbeats 6400000 in
set_option maxRecDepth 100000 in
theorem specRenamed_any (v : Value) (g : List RuleD) (f t : ByteArray) (w : World) (hin : GrammarIn g) (hI : CopyIn g) (hg : grammarTot g ≤ 1048576) (hf : f.size ≤ 1048576) (ht : t.size ≤ 1048576) (h : RowC 3 RuleE w v g) :
    Calls Tryz.prog 12 #[.agg #[v], .string f, .string t] w fun e w' => ∃ o, e = .returned (.tuple #[.agg #[o], .bool (renOk f t g)]) ∧ RowF 3 45 RuleG (Nw w.heap.size w'.heap.size) o (renB f t g) w' ∧ Below w.heap.size w w' := by
  have hgl : g.length ≤ 1048576 := Nat.le_trans (rowTot_len ruleTot g) hg
  obtain ⟨a, c, rfl⟩ := h.slice
  have hBa : Below w.heap.size w (w.alloc (.cells #[.slice a g.length c] 28)) := (Below.refl _ _).alloc (Nat.le_refl _) _
  have BW : Hid (Below w.heap.size w ((w.alloc (.cells #[.slice a g.length c] 28)).alloc (.cells #[.slice none 0 0] 28))) := hBa.alloc hBa.size _
  have P1 : Hid (((w.alloc (.cells #[.slice a g.length c] 28)).alloc (.cells #[.slice none 0 0] 28)).heap[w.heap.size + 1]? = some (.cells #[.slice none 0 0] 28)) := by
    have h := heap_alloc_new (w.alloc (.cells #[.slice a g.length c] 28)) (.cells #[.slice none 0 0] 28)
    rwa [show (w.alloc (.cells #[.slice a g.length c] 28)).heap.size = w.heap.size + 1 by simp] at h
  have hE : ((w.alloc (.cells #[.slice a g.length c] 28)).alloc (.cells #[.slice none 0 0] 28)).cell? ⟨w.heap.size, 0, none⟩ = some (.slice a g.length c) := cell_keep (box_at _ _ _ 0 _ rfl) ((Below.refl _ _).alloc (Nat.le_refl _) _)
  have HSt : Hid (∀ W, Below w.heap.size w W → RowC 3 RuleE W (.slice a g.length c) g) := fun W hW => RowC.below RuleE_stable h hW
  have HS : Hid (((w.alloc (.cells #[.slice a g.length c] 28)).alloc (.cells #[.slice none 0 0] 28)).heap.size = w.heap.size + 2) := by rw [Hid]; simp
  have HCl : Hid (∀ W, Below w.heap.size w W → _) := fun W hW => copyG_any (.slice a g.length c) g W hI (HSt.out W hW)
  have HAt : Hid (∀ (s : ByteArray) W, Below w.heap.size w W → _) := fun s W hW => specRuleAt_any (.slice a g.length c) g s W hgl (HSt.out W hW)
  have HGo : Hid (∀ W, Below w.heap.size w W → _) := fun W hW => specGrammarOk_any (.slice a g.length c) g W hg hin (HSt.out W hW)
  have HNm : Hid (∀ W, _) := fun W => specRuleName_any t W ht
  clear h hBa
  go_enter Tryz.func12, Tryz.ntmps12
  go_wp2_with fail
  generalize (w.alloc (.cells #[.slice a g.length c] 28)).alloc (.cells #[.slice none 0 0] 28) = W0 at *
  refine (HCl.out _ BW.out).mono ?_
  rintro e w2 ⟨o2, X2, rfl, hfr2, hX2, hb2⟩
  have ho2 : RowF 3 45 RuleG (Nw W0.heap.size w2.heap.size) o2 g w2 := (gramG_of hfr2.here hX2).up (fun k hk => ⟨by have := hk.1; omega, hk.2⟩)
  clear hfr2 hX2
  obtain ⟨ao, co, rfl⟩ := ho2.slice
  have hE2 := cell_keep hE hb2
  have B2 : Hid (Below W0.heap.size W0 w2) := hb2
  have R2 : Hid (RowF 3 45 RuleG (Nw W0.heap.size w2.heap.size) (.slice ao g.length co) g w2) := ho2
  have hE3 := cell_keep hE2 ((Below.refl w2.heap.size w2).alloc (Nat.le_refl _) (.cells #[.slice ao g.length co] 28))
  have B3 : Hid (Below W0.heap.size W0 (w2.alloc (.cells #[.slice ao g.length co] 28))) := B2.out.alloc B2.out.size _
  have X3 : Hid ((w2.alloc (.cells #[.slice ao g.length co] 28)).heap[w2.heap.size]? = some (.cells #[.slice ao g.length co] 28)) := heap_alloc_new _ _
  have R3 : Hid (RowF 3 45 RuleG (Nw W0.heap.size w2.heap.size) (.slice ao g.length co) g (w2.alloc (.cells #[.slice ao g.length co] 28))) := R2.out.below stabRuleG ((Below.refl _ _).alloc (Nat.le_refl _) _)
  have HZ2 : Hid (W0.heap.size ≤ w2.heap.size) := hb2.size
  clear hb2 ho2 R2 B2 hE2 hE
  go_wp2_with fail
  generalize w2.alloc (.cells #[.slice ao g.length co] 28) = w3 at *
  generalize w2.heap.size = bx at *
  have BW3 : Hid (Below w.heap.size w w3) := BW.out.trans (B3.out.mono BW.out.size)
  have HFin : Hid (∀ (V : World) (G : List RuleD), G.length = g.length → Kp (Nw W0.heap.size bx) w3 V → RowF 3 45 RuleG (Nw W0.heap.size bx) (.slice ao g.length co) G V → (V.cell? ⟨w.heap.size + 1, 0, none⟩ = some (.slice none 0 0) ∧ V.frozen? ⟨w.heap.size + 1, 0, none⟩ = false ∧ V.cell? ⟨bx, 0, none⟩ = some (.slice ao g.length co)) ∧ ∃ V', V' = V.setCell ⟨w.heap.size + 1, 0, none⟩ (.slice ao g.length co) ∧ V'.cell? ⟨w.heap.size + 1, 0, none⟩ = some (.slice ao g.length co) ∧ RowF 3 45 RuleG (Nw w.heap.size V'.heap.size) (.slice ao g.length co) G V' ∧ Below w.heap.size w V') := fun V G hG hK hR => by
    have hbx : bx < w3.heap.size := (Array.getElem?_eq_some_iff.1 X3.out).1
    have h1 : V.heap[w.heap.size + 1]? = some (.cells #[.slice none 0 0] 28) := (hK.block _ (by have := HS.out; have := HZ2.out; omega) (fun h => by have := h.1; have := HS.out; omega)).trans ((B3.out.block _ (by rw [HS.out]; omega)).trans P1.out)
    have h2 : V.heap[bx]? = some (.cells #[.slice ao g.length co] 28) := (hK.block _ hbx (fun h => by have := h.2; omega)).trans X3.out
    refine ⟨⟨cell_block h1 rfl, frozen_block h1, cell_block h2 rfl⟩, _, rfl, cell_block (block_set h1) rfl, ?_, ?_⟩
    · have h3 := hR.ag stabRuleG ((Kp.store (F := fun q => q = w.heap.size + 1) (w := V) (o := 0) (u := .slice ao g.length co) rfl).ag (fun q hq e => by have := hq.1; have := HS.out; omega))
      exact h3.up (fun q hq => ⟨by have := hq.1; have := HS.out; omega, by have h4 := hq.2; have h5 := hK.size; simp [World.setCell]; omega⟩)
    · exact (Kp.onto BW3.out (Nat.le_refl _) (fun k hk => by have := hk.1; have := HS.out; omega) hK).setCell (Nat.le_succ _) _
  refine (HAt.out f _ BW3.out).mono ?_
  rintro e w4 ⟨rfl, hb4⟩
  have B4 : Hid (Below w3.heap.size w3 w4) := hb4
  have BW4 : Hid (Below w.heap.size w w4) := BW3.out.trans (hb4.mono BW3.out.size)
  have hE4 := cell_keep hE3 hb4
  clear hb4 hE3
  go_wp2_with fail
  refine (HGo.out _ BW4.out).mono ?_
  rintro e w5 ⟨rfl, hb5⟩
  have B5 : Hid (Below w3.heap.size w3 w5) := B4.out.trans (hb5.mono B4.out.size)
  have BW5 : Hid (Below w.heap.size w w5) := BW4.out.trans (hb5.mono BW4.out.size)
  have hE5 := cell_keep hE4 hb5
  clear hb5 hE4
  cases hgo : gramB g with
  | false =>
    have y1 := (HFin.out w5 g rfl (Kp.below B5.out) (R3.out.below stabRuleG B5.out)).1.1
    have f1 := (HFin.out w5 g rfl (Kp.below B5.out) (R3.out.below stabRuleG B5.out)).1.2.1
    have c1 := (HFin.out w5 g rfl (Kp.below B5.out) (R3.out.below stabRuleG B5.out)).1.2.2
    obtain ⟨V', hV', z1, z2, z3⟩ := (HFin.out w5 g rfl (Kp.below B5.out) (R3.out.below stabRuleG B5.out)).2
    have HZ2 : Hid _ := z2
    have HZ3 : Hid _ := z3
    have HVe : Hid (V' = _) := hV'
    have hok : renOk f t g = false := by unfold renOk; rw [hgo]; rfl
    have HOk : Hid (renOk f t g = false ∧ renB f t g = g) := ⟨hok, by rw [renB, hok]; rfl⟩
    clear hok
    clear z2 z3 hV' 
    go_wp2
    rw [← HVe.out]
    refine bodyPost_ret (by simp [results, Tryz.results12, go_sem, z1]; try rfl) rfl ?_
    rw [HOk.out.1, HOk.out.2]
    exact ⟨_, rfl, HZ2.out, HZ3.out⟩
  | true =>
    by_cases hlt : ruleAtI g f < 0
    · have hd : decide (ruleAtI g f < 0) = true := decide_eq_true hlt
      have y1 := (HFin.out w5 g rfl (Kp.below B5.out) (R3.out.below stabRuleG B5.out)).1.1
      have f1 := (HFin.out w5 g rfl (Kp.below B5.out) (R3.out.below stabRuleG B5.out)).1.2.1
      have c1 := (HFin.out w5 g rfl (Kp.below B5.out) (R3.out.below stabRuleG B5.out)).1.2.2
      obtain ⟨V', hV', z1, z2, z3⟩ := (HFin.out w5 g rfl (Kp.below B5.out) (R3.out.below stabRuleG B5.out)).2
      have HZ2 : Hid _ := z2
      have HZ3 : Hid _ := z3
      have HVe : Hid (V' = _) := hV'
      have hok : renOk f t g = false := by unfold renOk; rw [hd]; simp
      have HOk : Hid (renOk f t g = false ∧ renB f t g = g) := ⟨hok, by rw [renB, hok]; rfl⟩
      clear hok
      clear z2 z3 hV' 
      go_wp2
      rw [← HVe.out]
      refine bodyPost_ret (by simp [results, Tryz.results12, go_sem, z1]; try rfl) rfl ?_
      rw [HOk.out.1, HOk.out.2]
      exact ⟨_, rfl, HZ2.out, HZ3.out⟩
    have hd : decide (ruleAtI g f < 0) = false := decide_eq_false hlt
    go_wp2_with fail
    refine (HNm.out _).mono ?_
    rintro e wq ⟨rfl, hw⟩
    rw [hw]
    clear hw wq
    cases hnm : ruleNameB t with
    | false =>
      have y1 := (HFin.out w5 g rfl (Kp.below B5.out) (R3.out.below stabRuleG B5.out)).1.1
      have f1 := (HFin.out w5 g rfl (Kp.below B5.out) (R3.out.below stabRuleG B5.out)).1.2.1
      have c1 := (HFin.out w5 g rfl (Kp.below B5.out) (R3.out.below stabRuleG B5.out)).1.2.2
      obtain ⟨V', hV', z1, z2, z3⟩ := (HFin.out w5 g rfl (Kp.below B5.out) (R3.out.below stabRuleG B5.out)).2
      have HZ2 : Hid _ := z2
      have HZ3 : Hid _ := z3
      have HVe : Hid (V' = _) := hV'
      have hok : renOk f t g = false := by unfold renOk; rw [hnm]; simp
      have HOk : Hid (renOk f t g = false ∧ renB f t g = g) := ⟨hok, by rw [renB, hok]; rfl⟩
      clear hok
      clear z2 z3 hV' 
      go_wp2
      rw [← HVe.out]
      refine bodyPost_ret (by simp [results, Tryz.results12, go_sem, z1]; try rfl) rfl ?_
      rw [HOk.out.1, HOk.out.2]
      exact ⟨_, rfl, HZ2.out, HZ3.out⟩
    | true =>
      go_wp2_with fail
      refine (HAt.out t _ BW5.out).mono ?_
      rintro e w6 ⟨rfl, hb6⟩
      have B6 : Hid (Below w3.heap.size w3 w6) := B5.out.trans (hb6.mono B5.out.size)
      clear hb6
      by_cases hge : ruleAtI g t < 0
      · have hd2 : decide (ruleAtI g t < 0) = true := decide_eq_true hge
        have hd3 : ¬ (0 ≤ ruleAtI g t) := by omega
        obtain ⟨i, hi⟩ : ∃ i : Nat, ruleAtI g f = (i : Int) := ⟨(ruleAtI g f).toNat, by omega⟩
        have hil : i < g.length := by have h1 := (atF_lt f 0 g).1; have e : ruleAtI g f = atF f 0 g := rfl; omega
        obtain ⟨G1, hG1⟩ : ∃ G1, G1 = g.set i { g[i] with name := t } := ⟨_, rfl⟩
        have hG1l : G1.length = g.length := by rw [hG1, List.length_set]
        have HOk : Hid (renOk f t g = true ∧ renB f t g = G1.map (renR f t)) := by
          have hok : renOk f t g = true := by unfold renOk; rw [hgo, hd, hnm, hd2]; rfl
          refine ⟨hok, ?_⟩
          rw [renB, hok, if_pos rfl, hi, Int.toNat_natCast, renG, hG1, List.getD_eq_getElem?_getD, List.getElem?_eq_getElem hil]
          rfl
        have HLen : Hid (∀ r ∈ G1, r.alts.length ≤ 1048576 ∧ ∀ x ∈ r.alts, x.length ≤ 1048576) := fun r hr => by
          have hg2 : ∀ r ∈ g, r.alts.length ≤ 1048576 ∧ ∀ x ∈ r.alts, x.length ≤ 1048576 := fun r hr => by
            have h1 := rowTot_mem ruleTot hr
            have h2 : rowTot altTot r.alts ≤ ruleTot r := by unfold ruleTot; omega
            have h3 : rowTot ruleTot g ≤ 1048576 := hg
            refine ⟨Nat.le_trans (rowTot_len altTot r.alts) (by omega), fun x hx => ?_⟩
            have h4 := rowTot_mem altTot hx
            exact Nat.le_trans (rowTot_len symTot x) (Nat.le_trans h4 (by omega))
          rw [hG1] at hr
          rcases List.mem_or_eq_of_mem_set hr with hr | rfl
          · exact hg2 r hr
          · have h1 := hg2 g[i] (List.getElem_mem hil)
            exact ⟨h1.1, h1.2⟩
        have R6 : Hid (RowF 3 45 RuleG (Nw W0.heap.size bx) (.slice ao g.length co) g w6) := R3.out.below stabRuleG B6.out
        have HFoc : ∃ gg : Nat, ao = some ⟨gg, 0, none⟩ ∧ Nw W0.heap.size bx gg ∧ ∀ V, Below w6.heap.size w6 V → (V.cell? ⟨gg, i * 3, none⟩ = some (.string g[i].name) ∧ V.frozen? ⟨gg, i * 3, none⟩ = false) ∧ RowF 3 45 RuleG (Nw W0.heap.size bx) (.slice ao g.length co) G1 (V.setCell ⟨gg, i * 3, none⟩ (.string t)) := by
          obtain ⟨gg, cp, vs, Fi, ev, hF, _⟩ := R6.out.focus stabRuleG hil
          cases ev
          refine ⟨gg, rfl, hF, fun V hV => ?_⟩
          obtain ⟨g2, cp2, vs2, F2, ev2, _, _, _, hE2, _, hcell2, _, hput2⟩ := (R6.out.below stabRuleG hV).focus stabRuleG hil
          cases ev2
          obtain ⟨pv, av, Fp, Fa, rfl, h1, h2, h3, h4, h5, h6⟩ := hE2
          rw [hG1]
          exact ⟨hcell2 V Ag.refl 0 (by simp), hput2 0 (.string t) { g[i] with name := t } (by omega) (fun W hW => ⟨pv, av, Fp, Fa, rfl, own_ag h1 hW (fun k hk => h4 k (h2 k hk)), h2, h3.ag stabAltG (hW.sub h5), h4, h5, h6⟩)⟩
        obtain ⟨gg, rfl, hgg, HF0⟩ := HFoc
        have HF : Hid (_) := HF0
        have hgbx : gg ≠ bx := by have := hgg.2; omega
        have HK5 : Hid (∀ V : World, Below w6.heap.size w6 V → V.cell? ⟨bx, 0, none⟩ = some (.slice (some ⟨gg, 0, none⟩) g.length co)) := fun V hV => (HFin.out V g rfl (Kp.below (B6.out.trans (hV.mono B6.out.size))) (R6.out.below stabRuleG hV)).1.2.2
        have HK6 : Hid (∀ (V : World) (u : Value), Below w6.heap.size w6 V → (V.setCell ⟨gg, i * 3, none⟩ u).cell? ⟨bx, 0, none⟩ = some (.slice (some ⟨gg, 0, none⟩) g.length co)) := fun V u hV => (World.cell?_setCell_far V _ _ u hgbx).trans (HK5.out V hV)
        have hZ := HZ2.out
        have i1 : (i : Int) < (g.length : Int) := by omega
        have hi' := hi
        clear HF0 hd hd2 hge hlt hgo hnm R3 hG1 R6
        rw [hi]
        clear hi hi'
        have c6 := HK5.out w6 (Below.refl _ _)
        generalize ruleAtI g t = zt at *
        dsimp only
        obtain ⟨⟨q0, q1⟩, R8⟩ := HF.out w6 (Below.refl _ _)
        have R8h : Hid (RowF 3 45 RuleG (Nw W0.heap.size bx) (.slice (some ⟨gg, 0, none⟩) g.length co) (renTo (renR f t) G1 0) (w6.setCell ⟨gg, i * 3, none⟩ (.string t))) := R8
        have K8 : Hid (Kp (Nw W0.heap.size bx) w3 (w6.setCell ⟨gg, i * 3, none⟩ (.string t))) := (Kp.below B6.out).trans (Kp.store hgg)
        clear R8 HF HK5 HK6 B6 B5 B4
        go_wp2
        clear q0 q1 c6
        generalize w6.setCell ⟨gg, i * 3, none⟩ (.string t) = w8 at *
        go_loopw [10] (fun iv wr => ∃ k : Nat, iv = .int .i64 k ∧ k ≤ g.length ∧ RowF 3 45 RuleG (Nw W0.heap.size bx) (.slice (some ⟨gg, 0, none⟩) g.length co) (renTo (renR f t) G1 k) wr ∧ Kp (Nw W0.heap.size bx) w3 wr) (fun iv _ => g.length - (intOf iv).toNat)
        case atStart => exact ⟨0, rfl, Nat.zero_le _, R8h.out, K8.out⟩
        case round =>
          clear R8h K8
          obtain ⟨k, rfl, hk, hrow, hkp⟩ := hrel
          obtain ⟨wo, rfl⟩ : ∃ W, W = wr := ⟨wr, rfl⟩
          have HR : Hid (RowF 3 45 RuleG (Nw W0.heap.size bx) (.slice (some ⟨gg, 0, none⟩) g.length co) (renTo (renR f t) G1 k) wo) := hrow
          have HK : Hid (Kp (Nw W0.heap.size bx) w3 wo) := hkp
          clear hrow hkp
          have hcl : (renTo (renR f t) G1 k).length = g.length := by rw [renTo_len]; exact hG1l
          have c1 := (HFin.out wo _ hcl HK.out HR.out).1.2.2
          by_cases hlt : k < g.length
          · have hk1 : k < G1.length := by omega
            have hlr : k < (renTo (renR f t) G1 k).length := by rw [renTo_len]; exact hk1
            have hggs := (HR.out.lt gg rfl).2
            have hbxs : bx < wo.heap.size := Nat.lt_of_lt_of_le (Array.getElem?_eq_some_iff.1 X3.out).1 HK.out.size
            obtain ⟨g2, cp, vs, Fi, ev, hFg, hng, hvl, hE, hsub, hcell, hturn, _⟩ := HR.out.focus stabRuleG hlr
            rw [renTo_at _ _ _ hk1] at hE
            rw [renTo_len, hG1l] at ev
            cases ev
            obtain ⟨pv, av, Fp, Fa, rfl, h1, h2, h3, h4, h5, h6⟩ := hE
            obtain ⟨aa, ac, rfl⟩ := h3.slice
            have n2 : wo.cell? ⟨gg, k * 3 + 2, none⟩ = some (.slice aa G1[k].alts.length ac) := (hcell wo Ag.refl 2 (by simp)).1
            have HN : Hid (∀ W, Kp Fa wo W → W.cell? ⟨gg, k * 3 + 2, none⟩ = some (.slice aa G1[k].alts.length ac) ∧ W.cell? ⟨bx, 0, none⟩ = some (.slice (some ⟨gg, 0, none⟩) g.length co)) := fun W hW =>
              ⟨(World.cell?_of_block (hW.block gg hggs (fun h => hng (h5 gg h)))).trans n2, (World.cell?_of_block (hW.block bx hbxs (fun h => by have := (hsub bx (h5 bx h)).2; omega))).trans c1⟩
            have A0 : Hid (RowF 1 58 AltG Fa (.slice aa G1[k].alts.length ac) (renTo (renA f t) G1[k].alts 0) wo) := h3
            have HNext : Hid (∀ ws : World, Kp Fa wo ws → RowF 1 58 AltG Fa (.slice aa G1[k].alts.length ac) (G1[k].alts.map (renA f t)) ws → RowF 3 45 RuleG (Nw W0.heap.size bx) (.slice (some ⟨gg, 0, none⟩) g.length co) (renTo (renR f t) G1 (k + 1)) ws ∧ Kp (Nw W0.heap.size bx) w3 ws) := fun ws hK hA => by
              refine ⟨?_, HK.out.trans (hK.up (fun q hq => hsub q (h5 q hq)))⟩
              rw [← renTo_next _ _ _ hk1]
              exact hturn ws (renR f t G1[k]) (hK.up h5) ⟨_, _, Fp, Fa, rfl, own_ag h1 (hK.ag (F := Fp) h6) h2, h2, hA, h4, h5, h6⟩
            have HLk : Hid (G1[k].alts.length ≤ 1048576 ∧ ∀ x ∈ G1[k].alts, x.length ≤ 1048576) := HLen.out _ (List.getElem_mem hk1)
            have hml := HLk.out.1
            have i4 : (k : Int) < (g.length : Int) := by omega
            clear hcell hturn h1 h2 h3 h4 h5 h6 hsub hng hFg hvl
            generalize G1[k].alts = al at *
            go_wp2
            go_loopw [11] (fun jv ws => ∃ j : Nat, jv = .int .i64 j ∧ j ≤ al.length ∧ RowF 1 58 AltG Fa (.slice aa al.length ac) (renTo (renA f t) al j) ws ∧ Kp Fa wo ws) (fun jv _ => al.length - (intOf jv).toNat)
            case atStart => exact ⟨0, rfl, Nat.zero_le _, A0.out, Kp.refl⟩
            case round =>
              clear A0 n2 c1
              obtain ⟨j, rfl, hj, hra, hka⟩ := hrel
              obtain ⟨wi, rfl⟩ : ∃ W, W = wr := ⟨wr, rfl⟩
              have HA : Hid (RowF 1 58 AltG Fa (.slice aa al.length ac) (renTo (renA f t) al j) wi) := hra
              have HKa : Hid (Kp Fa wo wi) := hka
              obtain ⟨n2, c1⟩ := HN.out wi hka
              clear hra hka
              by_cases hjl : j < al.length
              · have hjr : j < (renTo (renA f t) al j).length := by rw [renTo_len]; exact hjl
                obtain ⟨g3, cp3, vs3, Fj, ev3, hFg3, hng3, hvl3, hE3, hsub3, hcell3, hturn3, _⟩ := HA.out.focus stabAltG hjr
                rw [renTo_at _ _ _ hjl] at hE3
                rw [renTo_len] at ev3
                cases ev3
                obtain ⟨sv, rfl, hsv⟩ := hE3
                obtain ⟨sa, sc, rfl⟩ := hsv.slice
                have m0 : wi.cell? ⟨g3, j, none⟩ = some (.slice sa al[j].length sc) := by have h := (hcell3 wi Ag.refl 0 (by simp)).1; rw [Nat.mul_one, Nat.add_zero] at h; exact h
                have HT3 : Hid (∀ W, Kp Fj wi W → RowF 4 61 SymG Fj (.slice sa al[j].length sc) (renA f t al[j]) W → RowF 1 58 AltG Fa (.slice (some ⟨g3, 0, none⟩) al.length ac) (renTo (renA f t) al (j + 1)) W ∧ Kp Fa wo W) := fun W hK hS => by
                  refine ⟨?_, HKa.out.trans (hK.up hsub3)⟩
                  rw [← renTo_next _ _ _ hjl]
                  exact hturn3 W (renA f t al[j]) hK ⟨_, rfl, hS⟩
                have S0 : Hid (RowF 4 61 SymG Fj (.slice sa al[j].length sc) (renTo (renY f t) al[j] 0) wi) := hsv
                have hyl : al[j].length ≤ 1048576 := HLk.out.2 _ (List.getElem_mem hjl)
                have j4 : (j : Int) < (al.length : Int) := by omega
                clear hcell3 hturn3 hsv hsub3 hng3 hFg3 hvl3
                generalize al[j] = ys at *
                go_wp2
                go_loopw [13] (fun lv wt => ∃ l : Nat, lv = .int .i64 l ∧ l ≤ ys.length ∧ RowF 4 61 SymG Fj (.slice sa ys.length sc) (renTo (renY f t) ys l) wt ∧ Kp Fj wi wt) (fun lv _ => ys.length - (intOf lv).toNat)
                case atStart => exact ⟨0, rfl, Nat.zero_le _, S0.out, Kp.refl⟩
                case round =>
                  clear S0 n2 c1 m0
                  obtain ⟨l, rfl, hl, hrs, hks⟩ := hrel
                  have HS4 : Hid (RowF 4 61 SymG Fj (.slice sa ys.length sc) (renTo (renY f t) ys l) wr) := hrs
                  have HK4 : Hid (Kp Fj wi wr) := hks
                  clear hrs hks
                  by_cases hll : l < ys.length
                  · have hlr4 : l < (renTo (renY f t) ys l).length := by rw [renTo_len]; exact hll
                    obtain ⟨g4, cp4, vs4, F4, ev4, hFg4, hng4, hvl4, hE4, hsub4, hcell4, hturn4, hput4⟩ := HS4.out.focus stabSymG hlr4
                    rw [renTo_at _ _ _ hll] at hE4
                    rw [renTo_len] at ev4
                    cases ev4
                    obtain ⟨sv4, rfl, hsv4⟩ := hE4
                    have n0 : wr.cell? ⟨g4, l * 4, none⟩ = some (.int .i64 ys[l].kind) := (hcell4 wr Ag.refl 0 (by simp)).1
                    obtain ⟨n1, f1⟩ : wr.cell? ⟨g4, l * 4 + 1, none⟩ = some (.string ys[l].text) ∧ wr.frozen? ⟨g4, l * 4 + 1, none⟩ = false := hcell4 wr Ag.refl 1 (by simp)
                    have l4 : (l : Int) < (ys.length : Int) := by omega
                    have HNx : Hid ((renTo (renY f t) ys l).set l (renY f t ys[l]) = renTo (renY f t) ys (l + 1)) := renTo_next _ _ _ hll
                    have HSame : Hid ((renTo (renY f t) ys l).set l ys[l] = renTo (renY f t) ys l) := by
                      rw [Hid, ← renTo_at (renY f t) ys l hll hlr4, List.set_getElem_self]
                    have HR5 : Hid (_) := hput4 1 (.string t) { ys[l] with text := t } (by omega) (fun W hW => ⟨sv4, rfl, fun W' hW' => hsv4 W' (hW.trans hW')⟩)
                    have K5 : Hid (Kp Fj wi (wr.setCell ⟨g4, l * 4 + 1, none⟩ (.string t))) := HK4.out.trans (Kp.store hFg4)
                    clear hcell4 hturn4 hput4 hsub4 hvl4 hng4 hsv4
                    by_cases h3 : ys[l].kind = 3
                    · by_cases htx : ys[l].text = f
                      · have HY : Hid (renY f t ys[l] = { ys[l] with text := t }) := if_pos ⟨h3, htx⟩
                        have hq : (f.toList == f.toList) = true := by simp
                        rw [htx] at n1
                        rw [h3] at n0
                        clear h3 htx HSame
                        go_wp2
                        go_roundw
                        case rel => exact ⟨l + 1, by go_num, by omega, by rw [← HNx.out, HY.out]; exact HR5.out, K5.out⟩
                        case measure => simp [intOf]; omega
                      · have HY : Hid (renY f t ys[l] = ys[l]) := if_neg (fun h => htx h.2)
                        have hq : (ys[l].text.toList == f.toList) = false := by
                          rw [beq_eq_false_iff_ne]
                          exact fun e => htx (by
                            have h1 : ys[l].text.data.toList = f.data.toList := by rw [← ByteArray.toList_eq, ← ByteArray.toList_eq, e]
                            exact ByteArray.ext (Array.toList_inj.1 h1))
                        have HRx : Hid (RowF 4 61 SymG Fj (.slice (some ⟨g4, 0, none⟩) ys.length sc) (renTo (renY f t) ys (l + 1)) wr) := by
                          rw [Hid, ← HNx.out, HY.out, HSame.out]
                          exact HS4.out
                        rw [h3] at n0
                        clear h3 htx HY HR5 K5
                        go_wp2
                        go_roundw
                        case rel => exact ⟨l + 1, by go_num, by omega, HRx.out, HK4.out⟩
                        case measure => simp [intOf]; omega
                    · have HY : Hid (renY f t ys[l] = ys[l]) := if_neg (fun h => h3 h.1)
                      have hq : (ys[l].kind == 3) = false := beq_eq_false_iff_ne.2 h3
                      have HRx : Hid (RowF 4 61 SymG Fj (.slice (some ⟨g4, 0, none⟩) ys.length sc) (renTo (renY f t) ys (l + 1)) wr) := by
                        rw [Hid, ← HNx.out, HY.out, HSame.out]
                        exact HS4.out
                      clear h3 HY HR5 K5
                      go_wp2
                      go_roundw
                      case rel => exact ⟨l + 1, by go_num, by omega, HRx.out, HK4.out⟩
                      case measure => simp [intOf]; omega
                  · obtain rfl : l = ys.length := by omega
                    have l4 : ¬ (ys.length : Int) < (ys.length : Int) := by omega
                    have HSf : RowF 4 61 SymG Fj (.slice sa ys.length sc) (renA f t ys) wr := by have h := HS4.out; rwa [renTo_all] at h
                    obtain ⟨t1, t2⟩ := HT3.out wr HK4.out HSf
                    have T1 : Hid _ := t1
                    have T2 : Hid _ := t2
                    clear t1 t2 HSf
                    go_wp2
                    go_roundw
                    case rel => exact ⟨j + 1, by go_num, by omega, T1.out, T2.out⟩
                    case measure => simp [intOf]; omega
              · obtain rfl : j = al.length := by omega
                have j4 : ¬ (al.length : Int) < (al.length : Int) := by omega
                have i4 : (k : Int) < (g.length : Int) := by omega
                have HAf : RowF 1 58 AltG Fa (.slice aa al.length ac) (al.map (renA f t)) wi := by have h := HA.out; rwa [renTo_all] at h
                obtain ⟨t1, t2⟩ := HNext.out wi HKa.out HAf
                have T1 : Hid _ := t1
                have T2 : Hid _ := t2
                clear t1 t2 HAf
                go_wp2
                go_roundw
                case rel => exact ⟨k + 1, by go_num, by omega, T1.out, T2.out⟩
                case measure => simp [intOf]; omega
          · obtain rfl : k = g.length := by omega
            have i4 : ¬ (g.length : Int) < (g.length : Int) := by omega
            have HRf : RowF 3 45 RuleG (Nw W0.heap.size bx) (.slice (some ⟨gg, 0, none⟩) g.length co) (G1.map (renR f t)) wo := by have h := HR.out; rwa [← hG1l, renTo_all, hG1l] at h
            have hml : (G1.map (renR f t)).length = g.length := by rw [List.length_map]; exact hG1l
            obtain ⟨⟨y1, f1, c1⟩, V', hV', z1, z2, z3⟩ := HFin.out wo _ hml HK.out HRf
            have HZ2' : Hid _ := z2
            have HZ3' : Hid _ := z3
            have HVe : Hid (V' = _) := hV'
            clear z2 z3 hV' HRf
            go_wp2
            rw [← HVe.out]
            refine bodyPost_ret (by simp [results, Tryz.results12, go_sem, z1]; try rfl) rfl ?_
            rw [HOk.out.1, HOk.out.2]
            exact ⟨_, rfl, HZ2'.out, HZ3'.out⟩
      · have hd2 : decide (ruleAtI g t < 0) = false := decide_eq_false hge
        have hd3 : 0 ≤ ruleAtI g t := by omega
        have y1 := (HFin.out w6 g rfl (Kp.below B6.out) (R3.out.below stabRuleG B6.out)).1.1
        have f1 := (HFin.out w6 g rfl (Kp.below B6.out) (R3.out.below stabRuleG B6.out)).1.2.1
        have c1 := (HFin.out w6 g rfl (Kp.below B6.out) (R3.out.below stabRuleG B6.out)).1.2.2
        obtain ⟨V', hV', z1, z2, z3⟩ := (HFin.out w6 g rfl (Kp.below B6.out) (R3.out.below stabRuleG B6.out)).2
        have HZ2 : Hid _ := z2
        have HZ3 : Hid _ := z3
        have HVe : Hid (V' = _) := hV'
        have hok : renOk f t g = false := by unfold renOk; rw [hd2]; simp
        have HOk : Hid (renOk f t g = false ∧ renB f t g = g) := ⟨hok, by rw [renB, hok]; rfl⟩
        clear hok
        clear z2 z3 hV' 
        go_wp2
        rw [← HVe.out]
        refine bodyPost_ret (by simp [results, Tryz.results12, go_sem, z1]; try rfl) rfl ?_
        rw [HOk.out.1, HOk.out.2]
        exact ⟨_, rfl, HZ2.out, HZ3.out⟩

end Go.Proofs.YtnfekjpchenfpaaGreatDoor
