/- The program's Renamed. -/
/- Rows whose elements reach each into blocks of its own, one behind the other. No program is named. -/
/- The specification's copies of expressions (out of FlV, FlC: without what speaks of l12Make). -/
import Derived.Test.YtnfekjpchenfpaaGreatDoorHld2
import Derived.Test.YtnfekjpchenfpaaGreatDoorF15C4
import Derived.Test.YtnfekjpchenfpaaGreatDoorIGram
import Derived.Test.YtnfekjpchenfpaaGreatDoorEnvAsc
import Derived.Test.YtnfekjpchenfpaaGreatDoorINam
import Derived.Test.YtnfekjpchenfpaaGreatDoorEnvSet
import Derived.Deep.RegionLaw
import Derived.Deep.CutRange
namespace Go.Proofs.YtnfekjpchenfpaaGreatDoor
open Go.RowKit
set_option linter.unusedVariables false

def renR (f t : ByteArray) (r : RuleD) : RuleD := { r with alts := r.alts.map (renA f t) }
/-- The rule's name is turned, then all calls of it. -/
def renG (f t : ByteArray) (i : Nat) (g : List RuleD) : List RuleD := (g.set i { g.getD i default with name := t }).map (renR f t)
def renOk (f t : ByteArray) (g : List RuleD) : Bool := gramB g && !decide (ruleAtI g f < 0) && ruleNameB t && decide (ruleAtI g t < 0)
def renB (f t : ByteArray) (g : List RuleD) : List RuleD := if renOk f t g then renG f t (ruleAtI g f).toNat g else g

/-- The calls of each rule, turned where they lie: the loops of Renamed over a row of rules. -/
theorem altF_of {F : Nat → Prop} {w : World} {v : Value} {a : List SymD} (h : RowF 4 61 SymF F v a w) : AltF F w [v] a := ⟨v, rfl, h⟩

set_option maxHeartbeats 6400000 in
set_option maxRecDepth 100000 in
theorem implRenamed_any (v : Value) (g : List RuleD) (f t : ByteArray) (w : World) (hErr : errTy w) (hg : grammarTot g ≤ 1048576) (hf : f.size ≤ 1048576) (ht : t.size ≤ 1048576) (h : RowC 3 RuleE w v g) :
    Calls Tryz.prog 13 #[.agg #[v], .string f, .string t] w fun e w' => ∃ o, e = .returned (.tuple #[.agg #[o], .bool (renOk f t g)]) ∧ RowF 3 45 RuleF (Nw w.heap.size w'.heap.size) o (renB f t g) w' ∧ Below w.heap.size w w' := by
  have HErr : Hid (errTy w) := hErr
  have hgl : g.length ≤ 1048576 := Nat.le_trans (rowTot_len ruleTot g) hg
  obtain ⟨a, c, rfl⟩ := h.slice
  have hBa : Below w.heap.size w (w.alloc (.cells #[.slice a g.length c] 28)) := (Below.refl _ _).alloc (Nat.le_refl _) _
  have BW : Hid (Below w.heap.size w ((w.alloc (.cells #[.slice a g.length c] 28)).alloc (.cells #[.slice none 0 0] 28))) := hBa.alloc hBa.size _
  have P1 : Hid (((w.alloc (.cells #[.slice a g.length c] 28)).alloc (.cells #[.slice none 0 0] 28)).heap[w.heap.size + 1]? = some (.cells #[.slice none 0 0] 28)) := by
    have h := heap_alloc_new (w.alloc (.cells #[.slice a g.length c] 28)) (.cells #[.slice none 0 0] 28)
    rwa [show (w.alloc (.cells #[.slice a g.length c] 28)).heap.size = w.heap.size + 1 by simp] at h
  have hE : ((w.alloc (.cells #[.slice a g.length c] 28)).alloc (.cells #[.slice none 0 0] 28)).cell? ⟨w.heap.size, 0, none⟩ = some (.slice a g.length c) := cell_keep (box_at _ _ _ 0 _ rfl) ((Below.refl _ _).alloc (Nat.le_refl _) _)
  have HSt : Hid (∀ W, Below w.heap.size w W → RowC 3 RuleE W (.slice a g.length c) g) := fun W hW => RowC.below RuleE_stable h hW
  have HS : Hid (((w.alloc (.cells #[.slice a g.length c] 28)).alloc (.cells #[.slice none 0 0] 28)).heap.size = w.heap.size + 2) := by rw [Hid]; simp
  have HCl : Hid (∀ W, Below w.heap.size w W → _) := fun W hW => clonedGrammar_any (.slice a g.length c) g W hg (HSt.out W hW)
  have HAt : Hid (∀ (s : ByteArray) W, Below w.heap.size w W → _) := fun s W hW => implRuleAt_any (.slice a g.length c) g s W hgl (HSt.out W hW)
  have HGo : Hid (∀ W, Below w.heap.size w W → _) := fun W hW => implGrammarOk_any (.slice a g.length c) g W (HErr.out.below hW) hg (HSt.out W hW)
  have HNm : Hid (∀ W, _) := fun W => implRuleName_any t W ht
  have HCt : Hid (∀ W, _) := fun W => cloneS t W ht
  clear h hBa hErr
  go_enter Tryz.func13, Tryz.ntmps13
  go_wp2_with fail
  generalize (w.alloc (.cells #[.slice a g.length c] 28)).alloc (.cells #[.slice none 0 0] 28) = W0 at *
  refine (HCl.out _ BW.out).mono ?_
  rintro e w2 ⟨o2, rfl, ho2, hb2⟩
  obtain ⟨ao, co, rfl⟩ := ho2.slice
  have hE2 := cell_keep hE hb2
  have B2 : Hid (Below W0.heap.size W0 w2) := hb2
  have R2 : Hid (RowF 3 45 RuleF (Nw W0.heap.size w2.heap.size) (.slice ao g.length co) g w2) := ho2
  have hE3 := cell_keep hE2 ((Below.refl w2.heap.size w2).alloc (Nat.le_refl _) (.cells #[.slice ao g.length co] 28))
  have B3 : Hid (Below W0.heap.size W0 (w2.alloc (.cells #[.slice ao g.length co] 28))) := B2.out.alloc B2.out.size _
  have X3 : Hid ((w2.alloc (.cells #[.slice ao g.length co] 28)).heap[w2.heap.size]? = some (.cells #[.slice ao g.length co] 28)) := heap_alloc_new _ _
  have R3 : Hid (RowF 3 45 RuleF (Nw W0.heap.size w2.heap.size) (.slice ao g.length co) g (w2.alloc (.cells #[.slice ao g.length co] 28))) := R2.out.below stabRule ((Below.refl _ _).alloc (Nat.le_refl _) _)
  have HZ2 : Hid (W0.heap.size ≤ w2.heap.size) := hb2.size
  clear hb2 ho2 R2 B2 hE2 hE
  go_wp2_with fail
  generalize w2.alloc (.cells #[.slice ao g.length co] 28) = w3 at *
  generalize w2.heap.size = bx at *
  have BW3 : Hid (Below w.heap.size w w3) := BW.out.trans (B3.out.mono BW.out.size)
  have HFin : Hid (∀ (V : World) (G : List RuleD), G.length = g.length → Kp (Nw W0.heap.size bx) w3 V → RowF 3 45 RuleF (Nw W0.heap.size bx) (.slice ao g.length co) G V → (V.cell? ⟨w.heap.size + 1, 0, none⟩ = some (.slice none 0 0) ∧ V.frozen? ⟨w.heap.size + 1, 0, none⟩ = false ∧ V.cell? ⟨bx, 0, none⟩ = some (.slice ao g.length co)) ∧ ∃ V', V' = V.setCell ⟨w.heap.size + 1, 0, none⟩ (.slice ao g.length co) ∧ V'.cell? ⟨w.heap.size + 1, 0, none⟩ = some (.slice ao g.length co) ∧ RowF 3 45 RuleF (Nw w.heap.size V'.heap.size) (.slice ao g.length co) G V' ∧ Below w.heap.size w V') := fun V G hG hK hR => by
    have hbx : bx < w3.heap.size := (Array.getElem?_eq_some_iff.1 X3.out).1
    have h1 : V.heap[w.heap.size + 1]? = some (.cells #[.slice none 0 0] 28) := (hK.block _ (by have := HS.out; have := HZ2.out; omega) (fun h => by have := h.1; have := HS.out; omega)).trans ((B3.out.block _ (by rw [HS.out]; omega)).trans P1.out)
    have h2 : V.heap[bx]? = some (.cells #[.slice ao g.length co] 28) := (hK.block _ hbx (fun h => by have := h.2; omega)).trans X3.out
    refine ⟨⟨cell_block h1 rfl, frozen_block h1, cell_block h2 rfl⟩, _, rfl, cell_block (block_set h1) rfl, ?_, ?_⟩
    · have h3 := hR.ag stabRule ((Kp.store (F := fun q => q = w.heap.size + 1) (w := V) (o := 0) (u := .slice ao g.length co) rfl).ag (fun q hq e => by have := hq.1; have := HS.out; omega))
      exact h3.up (fun q hq => ⟨by have := hq.1; have := HS.out; omega, by have h4 := hq.2; have h5 := hK.size; simp [World.setCell]; omega⟩)
    · exact (Kp.onto BW3.out (Nat.le_refl _) (fun k hk => by have := hk.1; have := HS.out; omega) hK).setCell (Nat.le_succ _) _
  refine (HAt.out f _ BW3.out).mono ?_
  rintro e w4 ⟨rfl, hb4⟩
  have B4 : Hid (Below w3.heap.size w3 w4) := hb4
  have BW4 : Hid (Below w.heap.size w w4) := BW3.out.trans (hb4.mono BW3.out.size)
  have hE4 := cell_keep hE3 hb4
  clear hb4 hE3
  go_wp2_with fail
  refine (HGo.out _ BW4.out).mono ?_
  rintro e w5 ⟨rfl, hb5⟩
  have B5 : Hid (Below w3.heap.size w3 w5) := B4.out.trans (hb5.mono B4.out.size)
  have BW5 : Hid (Below w.heap.size w w5) := BW4.out.trans (hb5.mono BW4.out.size)
  have hE5 := cell_keep hE4 hb5
  clear hb5 hE4
  cases hgo : gramB g with
  | false =>
    have y1 := (HFin.out w5 g rfl (Kp.below B5.out) (R3.out.below stabRule B5.out)).1.1
    have f1 := (HFin.out w5 g rfl (Kp.below B5.out) (R3.out.below stabRule B5.out)).1.2.1
    have c1 := (HFin.out w5 g rfl (Kp.below B5.out) (R3.out.below stabRule B5.out)).1.2.2
    obtain ⟨V', hV', z1, z2, z3⟩ := (HFin.out w5 g rfl (Kp.below B5.out) (R3.out.below stabRule B5.out)).2
    have HZ2 : Hid _ := z2
    have HZ3 : Hid _ := z3
    have HVe : Hid (V' = _) := hV'
    have hok : renOk f t g = false := by unfold renOk; rw [hgo]; rfl
    have HOk : Hid (renOk f t g = false ∧ renB f t g = g) := ⟨hok, by rw [renB, hok]; rfl⟩
    clear hok
    clear z2 z3 hV' 
    go_wp2
    rw [← HVe.out]
    refine bodyPost_ret (by simp [results, Tryz.results13, go_sem, z1]; try rfl) rfl ?_
    rw [HOk.out.1, HOk.out.2]
    exact ⟨_, rfl, HZ2.out, HZ3.out⟩
  | true =>
    by_cases hlt : ruleAtI g f < 0
    · have hd : decide (ruleAtI g f < 0) = true := decide_eq_true hlt
      have y1 := (HFin.out w5 g rfl (Kp.below B5.out) (R3.out.below stabRule B5.out)).1.1
      have f1 := (HFin.out w5 g rfl (Kp.below B5.out) (R3.out.below stabRule B5.out)).1.2.1
      have c1 := (HFin.out w5 g rfl (Kp.below B5.out) (R3.out.below stabRule B5.out)).1.2.2
      obtain ⟨V', hV', z1, z2, z3⟩ := (HFin.out w5 g rfl (Kp.below B5.out) (R3.out.below stabRule B5.out)).2
      have HZ2 : Hid _ := z2
      have HZ3 : Hid _ := z3
      have HVe : Hid (V' = _) := hV'
      have hok : renOk f t g = false := by unfold renOk; rw [hd]; simp
      have HOk : Hid (renOk f t g = false ∧ renB f t g = g) := ⟨hok, by rw [renB, hok]; rfl⟩
      clear hok
      clear z2 z3 hV' 
      go_wp2
      rw [← HVe.out]
      refine bodyPost_ret (by simp [results, Tryz.results13, go_sem, z1]; try rfl) rfl ?_
      rw [HOk.out.1, HOk.out.2]
      exact ⟨_, rfl, HZ2.out, HZ3.out⟩
    have hd : decide (ruleAtI g f < 0) = false := decide_eq_false hlt
    go_wp2_with fail
    refine (HNm.out _).mono ?_
    rintro e wq ⟨rfl, hw⟩
    rw [hw]
    clear hw wq
    cases hnm : ruleNameB t with
    | false =>
      have y1 := (HFin.out w5 g rfl (Kp.below B5.out) (R3.out.below stabRule B5.out)).1.1
      have f1 := (HFin.out w5 g rfl (Kp.below B5.out) (R3.out.below stabRule B5.out)).1.2.1
      have c1 := (HFin.out w5 g rfl (Kp.below B5.out) (R3.out.below stabRule B5.out)).1.2.2
      obtain ⟨V', hV', z1, z2, z3⟩ := (HFin.out w5 g rfl (Kp.below B5.out) (R3.out.below stabRule B5.out)).2
      have HZ2 : Hid _ := z2
      have HZ3 : Hid _ := z3
      have HVe : Hid (V' = _) := hV'
      have hok : renOk f t g = false := by unfold renOk; rw [hnm]; simp
      have HOk : Hid (renOk f t g = false ∧ renB f t g = g) := ⟨hok, by rw [renB, hok]; rfl⟩
      clear hok
      clear z2 z3 hV' 
      go_wp2
      rw [← HVe.out]
      refine bodyPost_ret (by simp [results, Tryz.results13, go_sem, z1]; try rfl) rfl ?_
      rw [HOk.out.1, HOk.out.2]
      exact ⟨_, rfl, HZ2.out, HZ3.out⟩
    | true =>
      go_wp2_with fail
      refine (HAt.out t _ BW5.out).mono ?_
      rintro e w6 ⟨rfl, hb6⟩
      have B6 : Hid (Below w3.heap.size w3 w6) := B5.out.trans (hb6.mono B5.out.size)
      clear hb6
      by_cases hge : ruleAtI g t < 0
      · have hd2 : decide (ruleAtI g t < 0) = true := decide_eq_true hge
        have hd3 : ¬ (0 ≤ ruleAtI g t) := by omega
        obtain ⟨i, hi⟩ : ∃ i : Nat, ruleAtI g f = (i : Int) := ⟨(ruleAtI g f).toNat, by omega⟩
        have hil : i < g.length := by have h1 := (atF_lt f 0 g).1; have e : ruleAtI g f = atF f 0 g := rfl; omega
        obtain ⟨G1, hG1⟩ : ∃ G1, G1 = g.set i { g[i] with name := t } := ⟨_, rfl⟩
        have hG1l : G1.length = g.length := by rw [hG1, List.length_set]
        have HOk : Hid (renOk f t g = true ∧ renB f t g = G1.map (renR f t)) := by
          have hok : renOk f t g = true := by unfold renOk; rw [hgo, hd, hnm, hd2]; rfl
          refine ⟨hok, ?_⟩
          rw [renB, hok, if_pos rfl, hi, Int.toNat_natCast, renG, hG1, List.getD_eq_getElem?_getD, List.getElem?_eq_getElem hil]
          rfl
        have HLen : Hid (∀ r ∈ G1, r.alts.length ≤ 1048576 ∧ ∀ x ∈ r.alts, x.length ≤ 1048576) := fun r hr => by
          have hg2 : ∀ r ∈ g, r.alts.length ≤ 1048576 ∧ ∀ x ∈ r.alts, x.length ≤ 1048576 := fun r hr => by
            have h1 := rowTot_mem ruleTot hr
            have h2 : rowTot altTot r.alts ≤ ruleTot r := by unfold ruleTot; omega
            have h3 : rowTot ruleTot g ≤ 1048576 := hg
            refine ⟨Nat.le_trans (rowTot_len altTot r.alts) (by omega), fun x hx => ?_⟩
            have h4 := rowTot_mem altTot hx
            exact Nat.le_trans (rowTot_len symTot x) (Nat.le_trans h4 (by omega))
          rw [hG1] at hr
          rcases List.mem_or_eq_of_mem_set hr with hr | rfl
          · exact hg2 r hr
          · have h1 := hg2 g[i] (List.getElem_mem hil)
            exact ⟨h1.1, h1.2⟩
        have R6 : Hid (RowF 3 45 RuleF (Nw W0.heap.size bx) (.slice ao g.length co) g w6) := R3.out.below stabRule B6.out
        have HFoc : ∃ gg : Nat, ao = some ⟨gg, 0, none⟩ ∧ Nw W0.heap.size bx gg ∧ ∀ V, Below w6.heap.size w6 V → (V.cell? ⟨gg, i * 3, none⟩ = some (.string g[i].name) ∧ V.frozen? ⟨gg, i * 3, none⟩ = false) ∧ RowF 3 45 RuleF (Nw W0.heap.size bx) (.slice ao g.length co) G1 (V.setCell ⟨gg, i * 3, none⟩ (.string t)) := by
          obtain ⟨gg, cp, vs, Fi, ev, hF, _⟩ := R6.out.focus stabRule hil
          cases ev
          refine ⟨gg, rfl, hF, fun V hV => ?_⟩
          obtain ⟨g2, cp2, vs2, F2, ev2, _, _, _, hE2, _, hcell2, _, hput2⟩ := (R6.out.below stabRule hV).focus stabRule hil
          cases ev2
          obtain ⟨pv, av, Fp, Fa, rfl, h1, h2, h3, h4, h5, h6⟩ := hE2
          rw [hG1]
          exact ⟨hcell2 V Ag.refl 0 (by simp), hput2 0 (.string t) { g[i] with name := t } (by omega) (fun W hW => ⟨pv, av, Fp, Fa, rfl, own_ag h1 hW (fun k hk => h4 k (h2 k hk)), h2, h3.ag stabAlt (hW.sub h5), h4, h5, h6⟩)⟩
        obtain ⟨gg, rfl, hgg, HF0⟩ := HFoc
        have HF : Hid (_) := HF0
        have hgbx : gg ≠ bx := by have := hgg.2; omega
        have HK5 : Hid (∀ V : World, Below w6.heap.size w6 V → V.cell? ⟨bx, 0, none⟩ = some (.slice (some ⟨gg, 0, none⟩) g.length co)) := fun V hV => (HFin.out V g rfl (Kp.below (B6.out.trans (hV.mono B6.out.size))) (R6.out.below stabRule hV)).1.2.2
        have HK6 : Hid (∀ (V : World) (u : Value), Below w6.heap.size w6 V → (V.setCell ⟨gg, i * 3, none⟩ u).cell? ⟨bx, 0, none⟩ = some (.slice (some ⟨gg, 0, none⟩) g.length co)) := fun V u hV => (World.cell?_setCell_far V _ _ u hgbx).trans (HK5.out V hV)
        have HR6 : Hid _ := R6
        have hZ := HZ2.out
        have i1 : (i : Int) < (g.length : Int) := by omega
        have hi' := hi
        clear HF0 hd hd2 hge hlt hgo hnm R3 hG1 R6
        rw [hi]
        clear hi hi'
        have c6 := HK5.out w6 (Below.refl _ _)
        generalize ruleAtI g t = zt at *
        dsimp only
        go_upto_region 5 with fail
        go_region_held3 (fun V => V.cell? ⟨bx, 0, none⟩ = some (.slice (some ⟨gg, 0, none⟩) g.length co))
          ((first | (with_reducible exact HK6.out _ _ B67) | (with_reducible exact HK5.out _ B67) | go_keep))
          ((first | (go_at_call 31; refine (HCt.out _).mono ?_; rintro e w7 ⟨rfl, hb7⟩; have B67 : Below w6.heap.size w6 w7 := bel_of_drew hb7; obtain ⟨⟨q0, q1⟩, R8⟩ := HF.out w7 B67)))
        have R8h : Hid (RowF 3 45 RuleF (Nw W0.heap.size bx) (.slice (some ⟨gg, 0, none⟩) g.length co) (renTo (renR f t) G1 0) (w7.setCell ⟨gg, i * 3, none⟩ (.string t))) := R8
        have K8 : Hid (Kp (Nw W0.heap.size bx) w3 (w7.setCell ⟨gg, i * 3, none⟩ (.string t))) := (Kp.below (B6.out.trans (B67.mono B6.out.size))).trans (Kp.store hgg)
        have c8 := (HFin.out _ G1 hG1l K8.out R8).1.2.2
        clear R8 B67 hb7 q0 q1 HF HK5 HK6 c6 HR6 B6 B5 B4
        generalize w7.setCell ⟨gg, i * 3, none⟩ (.string t) = w8 at *
        go_wp2
        go_loopw [48] (fun iv wr => ∃ k : Nat, iv = .int .i64 k ∧ k ≤ g.length ∧ RowF 3 45 RuleF (Nw W0.heap.size bx) (.slice (some ⟨gg, 0, none⟩) g.length co) (renTo (renR f t) G1 k) wr ∧ Kp (Nw W0.heap.size bx) w3 wr) (fun iv _ => g.length - (intOf iv).toNat)
        case atStart => exact ⟨0, rfl, Nat.zero_le _, R8h.out, K8.out⟩
        case round =>
          clear R8h K8 c8
          obtain ⟨k, rfl, hk, hrow, hkp⟩ := hrel
          obtain ⟨wo, rfl⟩ : ∃ W, W = wr := ⟨wr, rfl⟩
          have HR : Hid (RowF 3 45 RuleF (Nw W0.heap.size bx) (.slice (some ⟨gg, 0, none⟩) g.length co) (renTo (renR f t) G1 k) wo) := hrow
          have HK : Hid (Kp (Nw W0.heap.size bx) w3 wo) := hkp
          clear hrow hkp
          by_cases hlt : k < g.length
          · have hk1 : k < G1.length := by omega
            have hlr : k < (renTo (renR f t) G1 k).length := by rw [renTo_len]; exact hk1
            obtain ⟨g2, cp, vs, Fi, ev, hFg, hng, hvl, hE, hsub, hcell, hturn, _⟩ := HR.out.focus stabRule hlr
            rw [renTo_at _ _ _ hk1] at hE
            rw [renTo_len, hG1l] at ev
            cases ev
            obtain ⟨pv, av, Fp, Fa, rfl, h1, h2, h3, h4, h5, h6⟩ := hE
            obtain ⟨pa, pc, rfl⟩ := own_shape15 h1
            obtain ⟨aa, ac, rfl⟩ := h3.slice
            have n0 : wo.cell? ⟨gg, k * 3, none⟩ = some (.string G1[k].name) := (hcell wo Ag.refl 0 (by simp)).1
            have n1 : wo.cell? ⟨gg, k * 3 + 1, none⟩ = some (.slice pa G1[k].params.length pc) := (hcell wo Ag.refl 1 (by simp)).1
            have n2 : wo.cell? ⟨gg, k * 3 + 2, none⟩ = some (.slice aa G1[k].alts.length ac) := (hcell wo Ag.refl 2 (by simp)).1
            have BX : Hid (Below wo.heap.size wo (wo.alloc (.cells #[.string G1[k].name, .slice pa G1[k].params.length pc, .slice aa G1[k].alts.length ac] 45))) := (Below.refl _ _).alloc (Nat.le_refl _) _
            have A0 : Hid (RowF 1 58 AltF Fa (.slice aa G1[k].alts.length ac) (renTo (renA f t) G1[k].alts 0) (wo.alloc (.cells #[.string G1[k].name, .slice pa G1[k].params.length pc, .slice aa G1[k].alts.length ac] 45))) := h3.below stabAlt BX.out
            have HNext : Hid (∀ ws : World, Kp Fa wo ws → RowF 1 58 AltF Fa (.slice aa G1[k].alts.length ac) (G1[k].alts.map (renA f t)) ws → RowF 3 45 RuleF (Nw W0.heap.size bx) (.slice (some ⟨gg, 0, none⟩) g.length co) (renTo (renR f t) G1 (k + 1)) ws ∧ Kp (Nw W0.heap.size bx) w3 ws) := fun ws hK hA => by
              refine ⟨?_, HK.out.trans (hK.up (fun q hq => hsub q (h5 q hq)))⟩
              rw [← renTo_next _ _ _ hk1]
              exact hturn ws (renR f t G1[k]) (hK.up h5) ⟨_, _, Fp, Fa, rfl, own_ag h1 (hK.ag (F := Fp) h6) h2, h2, hA, h4, h5, h6⟩
            have HLk : Hid (G1[k].alts.length ≤ 1048576 ∧ ∀ x ∈ G1[k].alts, x.length ≤ 1048576) := HLen.out _ (List.getElem_mem hk1)
            have hml := HLk.out.1
            have i4 : (k : Int) < (g.length : Int) := by omega
            clear hcell hturn h1 h2 h3 h4 h5 h6 hsub hng hFg hvl
            generalize G1[k].alts = al at *
            go_wp2
            generalize wo.alloc (.cells #[.string G1[k].name, .slice pa G1[k].params.length pc, .slice aa al.length ac] 45) = wp at *
            go_loopw [55] (fun jv ws => ∃ j : Nat, jv = .int .i64 j ∧ j ≤ al.length ∧ RowF 1 58 AltF Fa (.slice aa al.length ac) (renTo (renA f t) al j) ws ∧ Kp Fa wp ws) (fun jv _ => al.length - (intOf jv).toNat)
            case atStart => exact ⟨0, rfl, Nat.zero_le _, A0.out, Kp.refl⟩
            case round =>
              clear A0 n0 n1 n2
              obtain ⟨j, rfl, hj, hra, hka⟩ := hrel
              obtain ⟨wi, rfl⟩ : ∃ W, W = wr := ⟨wr, rfl⟩
              have HA : Hid (RowF 1 58 AltF Fa (.slice aa al.length ac) (renTo (renA f t) al j) wi) := hra
              have HKa : Hid (Kp Fa wp wi) := hka
              clear hra hka
              by_cases hjl : j < al.length
              · have hjr : j < (renTo (renA f t) al j).length := by rw [renTo_len]; exact hjl
                obtain ⟨g3, cp3, vs3, Fj, ev3, hFg3, hng3, hvl3, hE3, hsub3, hcell3, hturn3, _⟩ := HA.out.focus stabAlt hjr
                rw [renTo_at _ _ _ hjl] at hE3
                rw [renTo_len] at ev3
                cases ev3
                obtain ⟨sv, rfl, hsv⟩ := hE3
                obtain ⟨sa, sc, rfl⟩ := hsv.slice
                have m0 : wi.cell? ⟨g3, j, none⟩ = some (.slice sa al[j].length sc) := by have h := (hcell3 wi Ag.refl 0 (by simp)).1; rw [Nat.mul_one, Nat.add_zero] at h; exact h
                have BA : Hid (Below wi.heap.size wi (wi.alloc (.cells #[.slice sa al[j].length sc] 58))) := (Below.refl _ _).alloc (Nat.le_refl _) _
                have HC9 : Hid (∀ W, Below wi.heap.size wi W → _) := fun W hW => renameCalls_any Fj (.slice sa al[j].length sc) al[j] f t W (HLk.out.2 _ (List.getElem_mem hjl)) ht (hsv.below stabSym hW)
                have HT3 : Hid (∀ W, Kp Fj wi W → RowF 4 61 SymF Fj (.slice sa al[j].length sc) (renA f t al[j]) W → RowF 1 58 AltF Fa (.slice (some ⟨g3, 0, none⟩) al.length ac) (renTo (renA f t) al (j + 1)) W ∧ Kp Fa wp W) := fun W hK hS => by
                  refine ⟨?_, HKa.out.trans (hK.up hsub3)⟩
                  rw [← renTo_next _ _ _ hjl]
                  exact hturn3 W (renA f t al[j]) hK (altF_of hS)
                have j4 : (j : Int) < (al.length : Int) := by omega
                clear hcell3 hturn3 hsv hsub3 hng3 hFg3 hvl3
                go_wp2_with fail
                refine (HC9.out _ BA.out).mono ?_
                rintro e w9 ⟨rfl, hS9, hK9⟩
                obtain ⟨t1, t2⟩ := HT3.out w9 ((Kp.below BA.out).trans hK9) hS9
                have T1 : Hid _ := t1
                have T2 : Hid _ := t2
                clear t1 t2 hS9 hK9
                go_wp2
                go_roundw
                case rel => exact ⟨j + 1, by go_num, by omega, T1.out, T2.out⟩
                case measure => simp [intOf]; omega
              · obtain rfl : j = al.length := by omega
                have j4 : ¬ (al.length : Int) < (al.length : Int) := by omega
                have HAf : RowF 1 58 AltF Fa (.slice aa al.length ac) (al.map (renA f t)) wi := by have h := HA.out; rwa [renTo_all] at h
                obtain ⟨t1, t2⟩ := HNext.out wi ((Kp.below BX.out).trans HKa.out) HAf
                have T1 : Hid _ := t1
                have T2 : Hid _ := t2
                clear t1 t2 HAf
                go_wp2
                go_roundw
                case rel => exact ⟨k + 1, by go_num, by omega, T1.out, T2.out⟩
                case measure => simp [intOf]; omega
          · obtain rfl : k = g.length := by omega
            have i4 : ¬ (g.length : Int) < (g.length : Int) := by omega
            have HRf : RowF 3 45 RuleF (Nw W0.heap.size bx) (.slice (some ⟨gg, 0, none⟩) g.length co) (G1.map (renR f t)) wo := by have h := HR.out; rwa [← hG1l, renTo_all, hG1l] at h
            have hml : (G1.map (renR f t)).length = g.length := by rw [List.length_map]; exact hG1l
            obtain ⟨⟨y1, f1, c1⟩, V', hV', z1, z2, z3⟩ := HFin.out wo _ hml HK.out HRf
            have HZ2' : Hid _ := z2
            have HZ3' : Hid _ := z3
            have HVe : Hid (V' = _) := hV'
            clear z2 z3 hV' HRf
            go_wp2
            rw [← HVe.out]
            refine bodyPost_ret (by simp [results, Tryz.results13, go_sem, z1]; try rfl) rfl ?_
            rw [HOk.out.1, HOk.out.2]
            exact ⟨_, rfl, HZ2'.out, HZ3'.out⟩
      · have hd2 : decide (ruleAtI g t < 0) = false := decide_eq_false hge
        have hd3 : 0 ≤ ruleAtI g t := by omega
        have y1 := (HFin.out w6 g rfl (Kp.below B6.out) (R3.out.below stabRule B6.out)).1.1
        have f1 := (HFin.out w6 g rfl (Kp.below B6.out) (R3.out.below stabRule B6.out)).1.2.1
        have c1 := (HFin.out w6 g rfl (Kp.below B6.out) (R3.out.below stabRule B6.out)).1.2.2
        obtain ⟨V', hV', z1, z2, z3⟩ := (HFin.out w6 g rfl (Kp.below B6.out) (R3.out.below stabRule B6.out)).2
        have HZ2 : Hid _ := z2
        have HZ3 : Hid _ := z3
        have HVe : Hid (V' = _) := hV'
        have hok : renOk f t g = false := by unfold renOk; rw [hd2]; simp
        have HOk : Hid (renOk f t g = false ∧ renB f t g = g) := ⟨hok, by rw [renB, hok]; rfl⟩
        clear hok
        clear z2 z3 hV' 
        go_wp2
        rw [← HVe.out]
        refine bodyPost_ret (by simp [results, Tryz.results13, go_sem, z1]; try rfl) rfl ?_
        rw [HOk.out.1, HOk.out.2]
        exact ⟨_, rfl, HZ2.out, HZ3.out⟩

end Go.Proofs.YtnfekjpchenfpaaGreatDoor

namespace Go.Proofs.YtnfekjpchenfpaaGreatDoor
open Go.RowKit
set_option linter.unusedVariables false
variable {α : Type}

/-- What is told of a world is told of every world that has its blocks from lo to hi. -/
def InI (lo hi : Nat) (w : World) (P : World → Prop) : Prop := hi ≤ w.heap.size ∧ ∀ W : World, hi ≤ W.heap.size → (∀ k, lo ≤ k → k < hi → W.heap[k]? = w.heap[k]?) → P W
section
variable {lo hi : Nat} {w w' : World} {P Q : World → Prop} {A : Nat → Prop}
theorem InI.here (h : InI lo hi w P) : P w := h.2 w h.1 (fun _ _ _ => rfl)
theorem InI.imp (h : InI lo hi w P) (hQ : ∀ W, P W → Q W) : InI lo hi w Q := ⟨h.1, fun W h1 h2 => hQ W (h.2 W h1 h2)⟩
theorem InI.of_fresh (h : Fresh lo w P) : InI lo w.heap.size w P := ⟨Nat.le_refl _, fun W h1 h2 => h W h1 h2⟩
theorem InI.go (h : InI lo hi w P) (hs : hi ≤ w'.heap.size) (hk : ∀ k, lo ≤ k → k < hi → w'.heap[k]? = w.heap[k]?) : InI lo hi w' P := ⟨hs, fun W h1 h2 => h.2 W h1 (fun k a b => (h2 k a b).trans (hk k a b))⟩
theorem InI.below (h : InI lo hi w P) (hb : Below w.heap.size w w') : InI lo hi w' P := h.go (Nat.le_trans h.1 hb.size) (fun k _ b => hb.block k (Nat.lt_of_lt_of_le b h.1))
theorem InI.held (h : InI lo hi w P) (hA : ∀ k, A k → k < lo ∨ hi ≤ k) : Held A w P := fun W h1 h2 => h.2 W (Nat.le_trans h.1 h1) (fun k a b => h2 k (Nat.lt_of_lt_of_le b h.1) (fun ha => by rcases hA k ha with h | h <;> omega))
end
/-- A list that the call owns; element i reaches from (cut i).1 to (cut i).2; all that lies below X. -/
def RowI (sz : Nat) (T : TypeId) (E : World → List Value → α → Prop) (B X : Nat) (v : Value) (xs : List α) (w : World) : Prop :=
  ∃ (vss : List (List Value)) (cut : Nat → Nat × Nat), vss.length = xs.length ∧ (∀ vs ∈ vss, vs.length = sz) ∧ w.ownsRow B T sz v xs.length vss.flatten ∧
    (∀ i (h : i < vss.length) (h' : i < xs.length), InI (cut i).1 (cut i).2 w (fun W => E W vss[i] xs[i]) ∧ B ≤ (cut i).1 ∧ (cut i).2 ≤ X ∧ ∀ k, v.ownBlock = some k → k < (cut i).1 ∨ (cut i).2 ≤ k) ∧ ∀ i j, i < j → j < xs.length → (cut i).2 ≤ (cut j).1
section
variable {sz : Nat} {T : TypeId} {E : World → List Value → α → Prop} {B X X' : Nat} {v : Value} {xs : List α} {w w' : World}
theorem RowI.nil : RowI sz T E B X (.slice none 0 0) ([] : List α) w := ⟨[], fun _ => (0, 0), rfl, fun _ h => (by cases h), ⟨by simp, .inl ⟨rfl, rfl⟩⟩, (fun i h => by cases h), fun i j _ h => by cases h⟩
theorem RowI.own (h : RowI sz T E B X v xs w) : ∃ cs, w.ownsRow B T sz v xs.length cs := by
  obtain ⟨vss, _, _, _, h3, _⟩ := h
  exact ⟨_, h3⟩
theorem RowI.lt (h : RowI sz T E B X v xs w) : ∀ k, v.ownBlock = some k → B ≤ k ∧ k < w.heap.size := by
  obtain ⟨cs, ho⟩ := h.own
  exact World.ownsRow.lt ho
theorem RowI.slice (h : RowI sz T E B X v xs w) : ∃ a cap, v = .slice a xs.length cap := by
  obtain ⟨cs, ho⟩ := h.own
  rcases ho.2 with ⟨rfl, h0⟩ | ⟨g, cap, cur, rfl, _⟩
  · exact ⟨none, 0, by rw [h0]⟩
  · exact ⟨_, cap, rfl⟩
theorem RowI.type (h : RowI sz T E B X v xs w) {g : Nat} (hg : v.ownBlock = some g) : ∃ cur, w.heap[g]? = some (.cells cur T (0, 0)) := by
  obtain ⟨cs, ho⟩ := h.own
  rcases ho.2 with ⟨rfl, h0⟩ | ⟨g', cap, cur, rfl, hB, hc, _⟩
  · cases hg
  · cases hg
    exact ⟨cur, hc⟩
theorem RowI.up (h : RowI sz T E B X v xs w) (hX : X ≤ X') : RowI sz T E B X' v xs w := by
  obtain ⟨vss, cut, h1, h2, h3, h4, h5⟩ := h
  exact ⟨vss, cut, h1, h2, h3, fun i hi hi' => ⟨(h4 i hi hi').1, (h4 i hi hi').2.1, Nat.le_trans (h4 i hi hi').2.2.1 hX, (h4 i hi hi').2.2.2⟩, h5⟩
/-- In a world that has the row's block and those that its elements reach. -/
theorem RowI.go (h : RowI sz T E B X v xs w) (hs : X ≤ w'.heap.size) (hv : ∀ k, v.ownBlock = some k → w'.heap[k]? = w.heap[k]?) (hk : ∀ k, B ≤ k → k < X → v.ownBlock ≠ some k → w'.heap[k]? = w.heap[k]?) : RowI sz T E B X v xs w' := by
  obtain ⟨vss, cut, h1, h2, h3, h4, h5⟩ := h
  refine ⟨vss, cut, h1, h2, ⟨h3.1, ?_⟩, fun i hi hi' => ?_, h5⟩
  · rcases h3.2 with hn | ⟨g, cap, cur, rfl, hB, hc, r⟩
    · exact .inl hn
    · exact .inr ⟨g, cap, cur, rfl, hB, (hv g rfl).trans hc, r⟩
  · obtain ⟨a, b, c, d⟩ := h4 i hi hi'
    exact ⟨a.go (Nat.le_trans c hs) (fun k k1 k2 => hk k (Nat.le_trans b k1) (Nat.lt_of_lt_of_le k2 c) (fun e => by rcases d k e with h | h <;> omega)), b, c, d⟩
theorem RowI.below (h : RowI sz T E B X v xs w) (hX : X ≤ w.heap.size) (hb : Below w.heap.size w w') : RowI sz T E B X v xs w' :=
  h.go (Nat.le_trans hX hb.size) (fun k hk => hb.block k (h.lt k hk).2) (fun k _ hk _ => hb.block k (Nat.lt_of_lt_of_le hk hX))
theorem RowI.fresh (h : RowI sz T E B X v xs w) (hX : X ≤ w.heap.size) : Fresh B w fun W => RowI sz T E B X v xs W := fun W h1 h2 =>
  h.go (Nat.le_trans hX h1) (fun k hk => h2 k (h.lt k hk).1 (h.lt k hk).2) (fun k hB hk _ => h2 k hB (Nat.lt_of_lt_of_le hk hX))
theorem RowI.rowC (h : RowI sz T E B X v xs w) : RowC sz E w v xs := by
  obtain ⟨vss, cut, h1, h2, h3, h4, h5⟩ := h
  exact RowO.row (sz := sz) (T := T) (E := E) (B := B) ⟨vss, h1, h2, h3, fun i hi hi' => (h4 i hi hi').1.here⟩
/-- One element more: it reaches from X on. -/
theorem RowI.add (h : RowI sz T E B X v xs w) (hBX : B ≤ X) (hvX : ∀ k, v.ownBlock = some k → k < X) (hX : X ≤ w.heap.size) : ∃ cs, w.ownsRow B T sz v xs.length cs ∧ ∀ (g cap hi : Nat) (w2 : World) (vs : List Value) (x : α), vs.length = sz → X ≤ hi → InI X hi w (fun W => E W vs x) → w2.ownsRow B T sz (.slice (some ⟨g, 0, none⟩) (xs.length + 1) cap) (xs.length + 1) (cs ++ vs) → w.grownBy w2 v.ownBlock → (v.ownBlock = some g ∨ g = w.heap.size) → RowI sz T E B hi (.slice (some ⟨g, 0, none⟩) (xs.length + 1) cap) (xs ++ [x]) w2 := by
  obtain ⟨vss, cut, h1, h2, h3, h4, h5⟩ := h
  refine ⟨vss.flatten, h3, fun g cap hi w2 vs x hl hXh hx ho2 hg hat => ?_⟩
  have e : (xs ++ [x]).length = xs.length + 1 := by simp
  have hgk : ∀ k, (Value.slice (some ⟨g, 0, none⟩) (xs.length + 1) cap).ownBlock = some k → v.ownBlock = some k ∨ k = w.heap.size := fun k hk => by
    have ek : g = k := Option.some.inj hk
    rw [← ek]; exact hat
  refine ⟨vss ++ [vs], fun i => if i < xs.length then cut i else (X, hi), by simp [h1], fun u hu => ?_, by rw [e]; simpa using ho2, fun i hi1 hi' => ?_, fun i j hij hj => ?_⟩
  · rcases List.mem_append.1 hu with hu | hu
    · exact h2 u hu
    · rw [List.mem_singleton.1 hu]; exact hl
  · by_cases hlt : i < vss.length
    · have ec : (fun i => if i < xs.length then cut i else (X, hi)) i = cut i := if_pos (by omega)
      rw [List.getElem_append_left hlt, List.getElem_append_left (by omega), ec]
      obtain ⟨a, b, c, d⟩ := h4 i hlt (by omega)
      refine ⟨a.go (Nat.le_trans c (Nat.le_trans hX hg.size)) (fun k k1 k2 => hg.block k (by omega) (fun e => by rcases d k e.symm with h | h <;> omega)), b, by omega, fun k hk => ?_⟩
      rcases hgk k hk with h | h
      · exact d k h
      · exact .inr (by omega)
    · have e : i = vss.length := by simp at hi1; omega
      subst e
      have ec : (fun i => if i < xs.length then cut i else (X, hi)) vss.length = (X, hi) := if_neg (by omega)
      rw [List.getElem_append_right (Nat.le_refl _), List.getElem_append_right (by omega), ec]
      simp only [Nat.sub_self, h1]
      refine ⟨hx.go (Nat.le_trans hx.1 hg.size) (fun k k1 k2 => hg.block k (Nat.lt_of_lt_of_le k2 hx.1) (fun e => by have := hvX k e.symm; omega)), hBX, Nat.le_refl _, fun k hk => ?_⟩
      rcases hgk k hk with h | h
      · exact .inl (hvX k h)
      · exact .inr (by have := hx.1; omega)
  · rw [e] at hj
    have ei : (fun i => if i < xs.length then cut i else (X, hi)) i = cut i := if_pos (by omega)
    rw [ei]
    by_cases hj2 : j < xs.length
    · have ej : (fun i => if i < xs.length then cut i else (X, hi)) j = cut j := if_pos hj2
      rw [ej]; exact h5 i j hij hj2
    · have ej : (fun i => if i < xs.length then cut i else (X, hi)) j = (X, hi) := if_neg hj2
      rw [ej]
      exact (h4 i (by omega) (by omega)).2.2.1
end

end Go.Proofs.YtnfekjpchenfpaaGreatDoor

namespace Go.Proofs.YtnfekjpchenfpaaGreatDoor
open Go.RowKit
set_option linter.unusedVariables false

theorem xb_grownC {bx : Nat} {c : Array Value} {t : TypeId} {w w' : World} {k : Option Nat} (hg : w.grownBy w' k) (h : w.heap[bx]? = some (.cells c t (0, 0))) (hne : k ≠ some bx) : w'.heap[bx]? = some (.cells c t (0, 0)) := by
  rw [hg.block bx (Array.getElem?_eq_some_iff.1 h).1 (fun e => hne e.symm)]; exact h
theorem Tryz.infoExprF : (Tryz.prog.info? 97).map (fun i => (i.zero, i.size, i.bytes)) = some (some (.agg #[.slice none 0 0]), 1, 24) := by kernel_rfl
theorem one_sliceF (o : Option Addr) (l c : Nat) : ∀ u ∈ [Value.slice o l c], u.oneCell' = true := by
  intro u hu
  obtain rfl : u = .slice o l c := by simpa using hu
  rfl

theorem Tryz.infoNodeF : (Tryz.prog.info? 99).map (fun i => (i.zero, i.size, i.bytes)) = some (some (.agg #[.int .i64 0, .int .i64 0, .string ⟨#[]⟩, .slice none 0 0]), 4, 56) := by kernel_rfl
theorem four_nodeF (a b : Int) (s : ByteArray) (o : Option Addr) (l c : Nat) : ∀ u ∈ [Value.int .i64 a, .int .i64 b, .string s, .slice o l c], u.oneCell' = true := by
  intro u hu
  simp only [List.mem_cons, List.not_mem_nil, or_false] at hu
  rcases hu with rfl | rfl | rfl | rfl <;> rfl
/-- Within l04Copies: an expression's box, and its nodes so far. -/
structure CpI (wr : World) (ns : List NodeD) (k : Nat) (ev : Value) (wi : World) : Prop where
  box : wi.heap[wr.heap.size]? = some (.cells #[ev] 97 (0, 0))
  row : RowH 4 99 NodE (Own0 (wr.heap.size + 1) ev) (wr.heap.size + 1) ev (ns.take k) wi
  bel : Below wr.heap.size wr wi

/-- Behind a node's box, its kids copied, and the node laid out for the append. -/
theorem cp_step {wo wr w3 : World} {ns : List NodeD} {k : Nat} {ev kv0 kv3 : Value} (x : NodeD) (hC : CpI wo ns k ev wr) (hown3 : w3.ownsRow (wr.heap.size + 1) 3 1 kv3 (0 + x.kids.length) ([] ++ zv x.kids))
    (hgr3 : ((wr.alloc (.cells #[.int .i64 x.op, .int .i64 x.num, .string x.name, kv0] 99)).alloc (.cells #[] 3)).grownBy w3 (some (wr.heap.size + 1))) :
    RowH 4 99 NodE (Own0 (wo.heap.size + 1) ev) (wo.heap.size + 1) ev (ns.take k) ((w3.setCell ⟨wr.heap.size, 3, none⟩ kv3).alloc (.cells #[.int .i64 x.op, .int .i64 x.num, .string x.name, kv3] 99)) ∧
    Held (Own0 (wo.heap.size + 1) ev) ((w3.setCell ⟨wr.heap.size, 3, none⟩ kv3).alloc (.cells #[.int .i64 x.op, .int .i64 x.num, .string x.name, kv3] 99)) (fun V => NodE V [.int .i64 x.op, .int .i64 x.num, .string x.name, kv3] x) ∧
    ((w3.setCell ⟨wr.heap.size, 3, none⟩ kv3).alloc (.cells #[.int .i64 x.op, .int .i64 x.num, .string x.name, kv3] 99)).heap[wo.heap.size]? = some (.cells #[ev] 97 (0, 0)) ∧
    Below wr.heap.size wr ((w3.setCell ⟨wr.heap.size, 3, none⟩ kv3).alloc (.cells #[.int .i64 x.op, .int .i64 x.num, .string x.name, kv3] 99)) ∧ wo.heap.size < wr.heap.size ∧
    w3.heap.size = (w3.setCell ⟨wr.heap.size, 3, none⟩ kv3).heap.size := by
  have hso : wo.heap.size < wr.heap.size := (Array.getElem?_eq_some_iff.1 hC.box).1
  have B1 : Below wr.heap.size wr ((wr.alloc (.cells #[.int .i64 x.op, .int .i64 x.num, .string x.name, kv0] 99)).alloc (.cells #[] 3)) := ((Below.refl wr.heap.size wr).alloc (Nat.le_refl _) _).alloc (by simp) _
  have B2 : Below wr.heap.size wr w3 := B1.grown hgr3 (by simp <;> omega) (fun q hq => by cases hq; omega)
  have B3 : Below wr.heap.size wr ((w3.setCell ⟨wr.heap.size, 3, none⟩ kv3).alloc (.cells #[.int .i64 x.op, .int .i64 x.num, .string x.name, kv3] 99)) := (B2.setCell (Nat.le_refl _) kv3).alloc (by simp [World.setCell]; exact B2.size) _
  have hs : (w3.setCell ⟨wr.heap.size, 3, none⟩ kv3).heap.size = w3.heap.size := by simp [World.setCell]
  have F3 : Fresh (wr.heap.size + 1) w3 (fun V => IRow V kv3 x.kids) := Fresh.imp (own_fresh hown3) (fun V h => by
    rw [Nat.zero_add, List.nil_append] at h
    exact OwnZ.row (ks := x.kids) (B := wr.heap.size + 1) h)
  have F4 := (F3.setLow (b := wr.heap.size) (Nat.lt_succ_self _) 3 kv3).below ((Below.refl _ _).alloc (Nat.le_refl (w3.setCell ⟨wr.heap.size, 3, none⟩ kv3).heap.size) (.cells #[.int .i64 x.op, .int .i64 x.num, .string x.name, kv3] 99))
  refine ⟨hC.row.below B3, Held.of_fresh (Fresh.imp F4 (fun V h => ⟨kv3, rfl, h⟩)) (fun q hq => ?_), (B3.block _ hso).trans hC.box, B3, hso, hs.symm⟩
  have := own0_lt hC.row (by omega) q hq
  omega

set_option maxHeartbeats 6400000 in
set_option maxRecDepth 100000 in
theorem copies_any (v : Value) (es : List (List NodeD)) (w : World) (hl : es.length ≤ 1048576) (hn : ∀ e ∈ es, e.length ≤ 1048576 ∧ ∀ x ∈ e, x.kids.length ≤ 1048576) (h : RowC 1 ExprE w v es) : Calls Tryz.prog 36 #[v] w fun e w' => ∃ o : Value, e = .returned o ∧ Fresh w.heap.size w' (fun V => RowC 1 ExprE V o es) ∧ Below w.heap.size w w' := by
  obtain ⟨i0, hi, hz0, hz1, hz2⟩ := info_parts Tryz.infoExprF
  obtain ⟨j0, hj, hj0, hj1, hj2⟩ := info_parts Tryz.infoNodeF
  obtain ⟨z0, hz, hzz0, hzz1, hzz2⟩ := info_parts Tryz.infoInt5
  have HS : Hid (RowC 1 ExprE w v es) := h
  have HN : Hid (∀ e ∈ es, e.length ≤ 1048576 ∧ ∀ x ∈ e, x.kids.length ≤ 1048576) := hn
  obtain ⟨a, cap, rfl⟩ := h.slice
  have B0 : Hid (Below w.heap.size w (w.alloc (.cells #[] 97))) := (Below.refl _ _).alloc (Nat.le_refl _) _
  have R0 : Hid (RowH 1 97 ExprE (Own0 w.heap.size (.slice (some ⟨w.heap.size, 0, none⟩) 0 0)) w.heap.size (.slice (some ⟨w.heap.size, 0, none⟩) 0 0) ([] : List (List NodeD)) (w.alloc (.cells #[] 97))) := RowH.made0 w
  clear h hn
  go_enter Tryz.func36, Tryz.ntmps36
  go_wp2
  go_loopg [3, 4] es.length (fun gg ov kv wr => ∃ (i : Nat) (ao : Option Addr) (co : Nat), kv = .int .i64 i ∧ ov = .slice ao i co ∧ gg + i = es.length ∧ RowH 1 97 ExprE (Own0 w.heap.size (.slice ao i co)) w.heap.size (.slice ao i co) (es.take i) wr ∧ Below w.heap.size w wr)
  case atStart => exact ⟨0, _, _, rfl, rfl, by omega, R0.out, B0.out⟩
  case round =>
    obtain ⟨i, ao, co, rfl, rfl, hg, hR, hB⟩ := hrel
    have HR : Hid (RowH 1 97 ExprE (Own0 w.heap.size (.slice ao i co)) w.heap.size (.slice ao i co) (es.take i) wr) := hR
    have HB : Hid (Below w.heap.size w wr) := hB
    clear hR hB R0 B0
    rename World => wo
    by_cases hk : i < es.length
    · have dk : decide ((i : Int) < (es.length : Int)) = true := decide_eq_true (by omega)
      have ik : (i : Int) < (es.length : Int) := by omega
      obtain ⟨b, off, vs, rfl, _, hc, nv, rfl, hNr⟩ := RowC.at HS.out hk
      obtain ⟨an, cn, rfl⟩ := hNr.slice
      have HNr : Hid (NRow w (.slice an es[i].length cn) es[i]) := hNr
      have n0w : w.cell? ⟨b, off + i, none⟩ = some (.slice an es[i].length cn) := by have h := hc 0 (by simp); rw [Nat.mul_one] at h; exact h
      have hsz := HB.out.size
      have hel := HN.out _ (List.getElem_mem hk)
      have HEl : Hid (∀ x ∈ es[i], x.kids.length ≤ 1048576) := hel.2
      have hel1 := hel.1
      have C0 : Hid (CpI wo es[i] 0 (.slice none 0 0) (wo.alloc (.cells #[.slice none 0 0] 97))) := ⟨heap_alloc_new wo _, RowH.nil, (Below.refl _ _).alloc (Nat.le_refl _) _⟩
      obtain ⟨f1, rfl⟩ : ∃ f, gk = f + 1 := ⟨gk - 1, by omega⟩
      clear hc hNr hel
      go_wp2
      generalize wo.alloc (.cells #[.slice none 0 0] 97) = w1 at *
      go_loopg [6] es[i].length (fun gg kv wr => ∃ (k : Nat) (ae : Option Addr) (ce : Nat), kv = .int .i64 k ∧ gg + k = es[i].length ∧ CpI wo es[i] k (.slice ae k ce) wr)
      case atStart => exact ⟨0, _, _, rfl, by omega, C0.out⟩
      case round =>
        obtain ⟨k, ae, ce, rfl, hg2, hC⟩ := hrel
        have HC : Hid (CpI wo es[i] k (.slice ae k ce) wr) := hC
        have HBr : Hid (Below w.heap.size w wr) := HB.out.trans (hC.bel.mono hsz)
        have n0 := cell_keep n0w HBr.out
        clear hC C0
        by_cases hkk : k < es[i].length
        · have dkk : decide ((k : Int) < (es[i].length : Int)) = true := decide_eq_true (by omega)
          have ikk : (k : Int) < (es[i].length : Int) := by omega
          obtain ⟨nb, no, kv, rfl, m0, m1, m2, m3, hZ⟩ := (HNr.out.below HBr.out).at hkk
          obtain ⟨ka, kc, rfl⟩ := hZ.slice
          have hkl := HEl.out _ (List.getElem_mem hkk)
          have hso : wo.heap.size < wr.heap.size := (Array.getElem?_eq_some_iff.1 HC.out.box).1
          -- the node's box, and a row for its kids
          have XB : Hid (((wr.alloc (.cells #[.int .i64 es[i][k].op, .int .i64 es[i][k].num, .string es[i][k].name, .slice ka es[i][k].kids.length kc] 99)).alloc (.cells #[] 3)).heap[wr.heap.size]? = some (.cells #[.int .i64 es[i][k].op, .int .i64 es[i][k].num, .string es[i][k].name, .slice ka es[i][k].kids.length kc] 99 (0, 0))) := (Below.heap_alloc _ _ _ (by simp)).trans (heap_alloc_new wr _)
          have XE : Hid (((wr.alloc (.cells #[.int .i64 es[i][k].op, .int .i64 es[i][k].num, .string es[i][k].name, .slice ka es[i][k].kids.length kc] 99)).alloc (.cells #[] 3)).heap[wo.heap.size]? = some (.cells #[.slice ae k ce] 97 (0, 0))) := (Below.heap_alloc _ _ _ (by simp; omega)).trans ((Below.heap_alloc _ _ _ hso).trans HC.out.box)
          have BX : Hid (Below wr.heap.size wr ((wr.alloc (.cells #[.int .i64 es[i][k].op, .int .i64 es[i][k].num, .string es[i][k].name, .slice ka es[i][k].kids.length kc] 99)).alloc (.cells #[] 3))) := ((Below.refl wr.heap.size wr).alloc (Nat.le_refl _) _).alloc (by simp) _
          have KX : Hid (((wr.alloc (.cells #[.int .i64 es[i][k].op, .int .i64 es[i][k].num, .string es[i][k].name, .slice ka es[i][k].kids.length kc] 99)).alloc (.cells #[] 3)).ownsRow (wr.heap.size + 1) 3 1 (.slice (some ⟨wr.heap.size + 1, 0, none⟩) 0 0) 0 []) := by
            have h := World.ownsRow_made (wr.alloc (.cells #[.int .i64 es[i][k].op, .int .i64 es[i][k].num, .string es[i][k].name, .slice ka es[i][k].kids.length kc] 99)) (e := 3) (size := 1) (base := wr.heap.size + 1) #[] 0 (by simp) (Nat.zero_le _) (by simp)
            rwa [show (wr.alloc (.cells #[.int .i64 es[i][k].op, .int .i64 es[i][k].num, .string es[i][k].name, .slice ka es[i][k].kids.length kc] 99)).heap.size = wr.heap.size + 1 by simp] at h
          have ZX : Hid (IRow ((wr.alloc (.cells #[.int .i64 es[i][k].op, .int .i64 es[i][k].num, .string es[i][k].name, .slice ka es[i][k].kids.length kc] 99)).alloc (.cells #[] 3)) (.slice ka es[i][k].kids.length kc) es[i][k].kids) := hZ.below BX.out
          have x3 := run_cell (j := 3) XB.out rfl
          clear hZ
          go_wp2_with (first
            | (at_builtin; obtain ⟨R4, H4, E4, B4, hso4, hs4⟩ := cp_step (kv0 := .slice ka es[i][k].kids.length kc) es[i][k] HC.out hown3 hgr3; obtain ⟨cs4, ho4, hK4⟩ := RowH.add R4 (fun k hk => .inr hk); have hlk : (es[i].take k).length = k := (by rw [List.length_take]; omega); rw [hlk] at ho4 hK4; refine wpList_append_lies _ rfl _ _ 95 rfl (wo.heap.size + 1) 99 j0 _ 4 56 Tryz.underlying95 hj hj0 hj1 hj2 rfl (by decide) _ _ _ rfl ho4 ⟨w3.heap.size, 0, none⟩ 1 1 [.int .i64 es[i][k].op, .int .i64 es[i][k].num, .string es[i][k].name, .slice ka3 es[i][k].kids.length kc3] rfl rfl (by rw [hs4]; exact World.news_of_block (cs := #[.int .i64 es[i][k].op, .int .i64 es[i][k].num, .string es[i][k].name, .slice ka3 es[i][k].kids.length kc3]) (t := 99) (fr := (0, 0)) (heap_alloc_new _ _)) (four_nodeF _ _ _ _ _ _) (by omega) (by unfold maxLen; omega) (by omega) (Nat.le_trans hso4 B4.size) _ rfl ?_; intro gg5 cap5 w5 hown5 hgr5 hat5 hlt5; clear hs4 hlk; have E5 := xb_grownC hgr5 E4 (fun e => by have h := (World.ownsRow.lt ho4 _ e).1; omega); have e5 := run_cell (j := 0) E5 rfl; have f5 := run_frozen (j := 0) E5)
            | (at_builtin; refine append_intsF rfl _ _ 47 rfl (wr.heap.size + 1) 3 z0 _ Tryz.underlying47 hz hzz0 hzz1 hzz2 rfl _ 0 [] rfl KX.out es[i][k].kids ka kc rfl ZX.out (by omega) (by simp <;> omega) ?_; intro kv3 w3 hown3 hgr3; obtain ⟨ka3, kc3, rfl⟩ : ∃ a c, kv3 = .slice a es[i][k].kids.length c := (by rw [Nat.zero_add] at hown3; rcases hown3.2 with ⟨rfl, h0⟩ | ⟨g, cp, cur, rfl, _⟩; exact ⟨none, 0, by rw [h0]⟩; exact ⟨_, cp, rfl⟩); have B3 := (Below.refl (wr.heap.size + 1) _).grown hgr3 (by simp <;> omega) (fun q hq => (World.ownsRow.lt KX.out q hq).1); have X3 := (B3.block _ (by omega)).trans XB.out; have y0 := run_cell (j := 0) X3 rfl; have y1 := run_cell (j := 1) X3 rfl; have y2 := run_cell (j := 2) X3 rfl; have y3 := run_cell (j := 3) X3 rfl; have f3 := run_frozen (j := 3) X3; have E3 := (B3.block _ (by omega)).trans XE.out; have e3 := run_cell (j := 0) E3 rfl))
          have R5 := hK4 gg5 cap5 w5 [.int .i64 es[i][k].op, .int .i64 es[i][k].num, .string es[i][k].name, .slice ka3 es[i][k].kids.length kc3] es[i][k] (Own0 (wo.heap.size + 1) (.slice (some ⟨gg5, 0, none⟩) (k + 1) cap5)) rfl H4 hown5 hgr5 (own_next hat5 rfl)
          have hg5 : wo.heap.size + 1 ≤ gg5 := (World.ownsRow.lt hown5 gg5 rfl).1
          rw [show es[i].take k ++ [es[i][k]] = es[i].take (k + 1) by rw [List.take_succ_eq_append_getElem hkk]] at R5
          have C5 : Hid (CpI wo es[i] (k + 1) (.slice (some ⟨gg5, 0, none⟩) (k + 1) cap5) (w5.setCell ⟨wo.heap.size, 0, none⟩ (.slice (some ⟨gg5, 0, none⟩) (k + 1) cap5))) := by
            refine ⟨(setCell_self _ E5).trans rfl, RowH.go R5 (FrA.set _ (.inl (Nat.lt_succ_self _))) (fun _ _ h => h) (fun q hq => setCell_other _ (by cases hq; show gg5 ≠ wo.heap.size; omega)), ?_⟩
            exact ((HC.out.bel.trans (B4.mono HC.out.bel.size)).grown hgr5 (Nat.le_trans HC.out.bel.size B4.size) (fun q hq => by have h := (World.ownsRow.lt ho4 q hq).1; omega)).setCell (Nat.le_refl _) _
          have w1' : IntKind.i64.wrap ((k : Int) + 1) = ((k + 1 : Nat) : Int) := by rw [IntKind.wrap_i64]; omega
          obtain ⟨f2, rfl⟩ : ∃ f, gk = f + 1 := ⟨gk - 1, by omega⟩
          clear R5 hown5 hgr5 hat5 hlt5 E5 e5 f5 R4 H4 E4 B4 ho4 hK4 hown3 hgr3 B3 X3 E3 y0 y1 y2 y3 f3 e3 XB XE BX KX ZX x3 m0 m1 m2 m3
          generalize w5.setCell ⟨wo.heap.size, 0, none⟩ (.slice (some ⟨gg5, 0, none⟩) (k + 1) cap5) = w6 at *
          go_roundg f2
          case measure => omega
          case rel => exact ⟨k + 1, _, _, by go_num, by omega, C5.out⟩
        · have dkk : decide ((k : Int) < (es[i].length : Int)) = false := decide_eq_false (by omega)
          have e0 := run_cell (j := 0) HC.out.box rfl
          obtain rfl : k = es[i].length := by omega
          have hlk : es[i].take es[i].length = es[i] := List.take_of_length_le (Nat.le_refl _)
          have hal : Below wr.heap.size wr (wr.alloc (.cells #[.slice ae es[i].length ce] 97)) := (Below.refl _ _).alloc (Nat.le_refl _) _
          have R3 : RowH 1 97 ExprE (Own0 w.heap.size (.slice ao i co)) w.heap.size (.slice ao i co) (es.take i) (wr.alloc (.cells #[.slice ae es[i].length ce] 97)) := (HR.out.below HC.out.bel).below hal
          have hlt3 := own0_lt HR.out hsz
          have HF : Fresh (wo.heap.size + 1) wr (fun V => RowC 4 NodE V (.slice ae es[i].length ce) es[i]) := by
            have h := RowH.fresh HC.out.row
            rw [hlk] at h
            exact h
          obtain ⟨cs, ho3, hK⟩ := RowH.add R3 (fun k hk => .inr hk)
          have HH : Hid (Held (Own0 w.heap.size (.slice ao i co)) (wr.alloc (.cells #[.slice ae es[i].length ce] 97)) (fun V => ExprE V [.slice ae es[i].length ce] es[i])) := Held.of_fresh (Fresh.imp (HF.below hal) (fun V h => ⟨_, rfl, nRow_ofC h⟩)) (fun q hq => Nat.lt_succ_of_lt (hlt3 q hq))
          have hli : (es.take i).length = i := by rw [List.length_take]; omega
          rw [hli] at ho3 hK
          have HK : Hid (∀ (g cap : Nat) (w2 : World) (vs : List Value) (x : List NodeD) (A' : Nat → Prop), _) := hK
          have hs2 : w.heap.size ≤ wr.heap.size := HBr.out.size
          have HO3 : Hid _ := ho3
          have w1' : IntKind.i64.wrap ((i : Int) + 1) = ((i + 1 : Nat) : Int) := by rw [IntKind.wrap_i64]; omega
          clear hal R3 hlt3 HF ho3 hK hlk hli HC
          go_wp2_with (at_builtin; refine wpList_append_lies _ rfl _ _ 59 rfl w.heap.size 97 i0 _ 1 24 Tryz.underlying59 hi hz0 hz1 hz2 rfl (by decide) _ _ _ rfl HO3.out ⟨wr.heap.size, 0, none⟩ 1 1 [.slice ae es[i].length ce] rfl rfl (cell_one_new _ _ _) (one_sliceF _ _ _) (by omega) (by unfold maxLen; omega) (by omega) (by simp; omega) (wr.heap.size + 1) (by simp) ?_; intro gg cap w4 hown hgrow hat hlt)
          have R4 := HK.out gg cap w4 [.slice ae es[i].length ce] es[i] (Own0 w.heap.size (.slice (some ⟨gg, 0, none⟩) (i + 1) cap)) rfl HH.out hown hgrow (own_next hat (by simp))
          rw [show es.take i ++ [es[i]] = es.take (i + 1) by rw [List.take_succ_eq_append_getElem hk]] at R4
          have HR4 : Hid _ := R4
          have B4 : Hid (Below w.heap.size w w4) := (HBr.out.alloc hs2 _).grown hgrow (by simp; omega) (fun k hk => (World.ownsRow.lt HO3.out k hk).1)
          clear R4 hown hgrow hat hlt HH HK HO3
          go_wp2
          go_roundg f1
          case measure => omega
          case rel => exact ⟨i + 1, _, _, by go_num, rfl, by omega, HR4.out, B4.out⟩
    · have dk : decide ((i : Int) < (es.length : Int)) = false := decide_eq_false (by omega)
      have HF : Hid (Fresh w.heap.size wo (fun V => RowC 1 ExprE V (.slice ao i co) es)) := by
        have h := RowH.fresh HR.out
        rw [List.take_of_length_le (by omega)] at h
        exact h
      clear HR
      go_wp2
      go_ret
      exact ⟨_, rfl, HF.out, HB.out⟩

end Go.Proofs.YtnfekjpchenfpaaGreatDoor
