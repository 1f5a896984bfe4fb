/- The program's GrammarText, as it landed at b9bd698 (its limit counts the sum's four bytes). -/
/- Grammars opened as arguments (printed by mk/gkit.py). -/
import Derived.Test.YtcnkegkffmcdmaaGreatDoorE16J
import Derived.Test.YtcnkegkffmcdmaaGreatDoorINam
import Derived.Test.YtcnkegkffmcdmaaGreatDoorIGram
import Derived.Test.YtcnkegkffmcdmaaGreatDoorGRuleOk
import Derived.Test.YtcnkegkffmcdmaaGreatDoorGData
import Derived.OpenShut
namespace Go.Proofs.YtcnkegkffmcdmaaGreatDoor
open Go.RowKit
set_option linter.unusedVariables false

theorem ruleP_of {r : RuleD} (hz : RuleZ r) (hin : RuleIn r) (ht : ruleTot r ≤ 1048576) : RuleP r := by
  have h1 : rowTot ByteArray.size r.params ≤ 1048576 := by unfold ruleTot at ht; omega
  have h2 : rowTot altTot r.alts ≤ 1048576 := by unfold ruleTot at ht; omega
  refine ⟨hz.name, hz.params, Nat.le_trans (rowTot_len _ _) h1, fun a ha => ?_, Nat.le_trans (rowTot_len _ _) h2⟩
  have h3 := rowTot_mem altTot ha
  have h4 : rowTot symTot a ≤ 1048576 := by have e : altTot a = rowTot symTot a := rfl; omega
  refine ⟨fun s hs => ?_, Nat.le_trans (rowTot_len _ _) h4⟩
  have h5 := rowTot_mem symTot hs
  refine ⟨hz.alts a ha s hs, symIn_args (by omega) ((hin.2.2.2 a ha).2 s hs), ?_⟩
  have h6 : rowTot exprTot s.args ≤ symTot s := by unfold symTot; omega
  exact Nat.le_trans (rowTot_len exprTot s.args) (by omega)
theorem sealB_size (l : List UInt8) : (str (sealB l)).size = l.length + 4 := by
  rw [str_size]
  show (l ++ four (sumB 4294967295 l)).length = l.length + 4
  rw [List.length_append]
  rfl

set_option maxHeartbeats 3200000 in
set_option maxRecDepth 100000 in
theorem implGrammarText_any (v : Value) (g : List RuleD) (w : World) (hErr : errTy w) (T : Turns w) (hz : grammarTot g ≤ 1048576) (hin : GrammarIn g) (h : RowC 3 RuleE w v g) :
    Calls Tryz.prog 7 #[.agg #[v]] w fun e w' => e = .returned (.tuple #[.string (str (gramT g)), .bool (gramO g)]) ∧ Below w.heap.size w w' := by
  have HR : Hid (RowC 3 RuleE w v g) := h
  have HZ : Hid (grammarTot g ≤ 1048576) := hz
  have HI : Hid (GrammarIn g) := hin
  have HG : Hid (errTy w) := hErr
  have HT0 : Hid (Turns w) := T
  have hgl : g.length ≤ 1048576 := Nat.le_trans (rowTot_len ruleTot g) hz
  obtain ⟨a, cap, rfl⟩ := h.slice
  clear h hz hin hErr T
  have B0 : Hid (Below w.heap.size w (w.alloc (.cells #[.slice a g.length cap] 30))) := (Below.refl _ _).alloc (Nat.le_refl _) _
  have E0 : (w.alloc (.cells #[.slice a g.length cap] 30)).cell? ⟨w.heap.size, 0, none⟩ = some (.slice a g.length cap) := box_at _ _ _ 0 _ rfl
  go_enter Tryz.func7, Tryz.ntmps7
  go_wp2_with fail
  generalize w.alloc (.cells #[.slice a g.length cap] 30) = w0 at *
  refine (implGrammarOk_any _ g _ (HG.out.below B0.out) HZ.out (RowC.below RuleE_stable HR.out B0.out)).mono ?_
  rintro e w1 ⟨rfl, hb1⟩
  have B1 : Hid (Below w.heap.size w w1) := B0.out.trans (hb1.mono B0.out.size)
  by_cases hb : gramB g = true
  · have HP : Hid (∀ r ∈ g, RuleP r) := fun r hr => ruleP_of (gram_z hb r hr) (HI.out.2 r hr) (by have h1 := rowTot_mem ruleTot hr; have h2 : rowTot ruleTot g ≤ 1048576 := HZ.out; omega)
    have HO : Hid (gramO g = decide ((gramW g).length + 4 ≤ 20000)) := by rw [Hid, gramO, hb, Bool.true_and]
    have HGl : Hid ((gramW g).length ≤ 500000000) := by have h1 := gramW_le g; have h2 := HZ.out; rw [Hid]; omega
    have e1 := cell_keep E0 hb1
    rw [hb]
    clear hb hb1 E0
    have HB2 : Hid (Below w1.heap.size w1 (w1.alloc (.cells #[.slice none 0 0] 57))) := (Below.refl _ _).alloc (Nat.le_refl _) _
    have e2 := cell_keep e1 HB2.out
    have hs1 := B1.out.size
    have HW2 : Hid (WrB w.heap.size w1.heap.size [] (w1.alloc (.cells #[.slice none 0 0] 57))) := ⟨hs1, .slice none 0 0, heap_alloc_new w1 _, World.ownsRow_nil _ _ _ _⟩
    have BW2 : Hid (Below w.heap.size w (w1.alloc (.cells #[.slice none 0 0] 57))) := B1.out.trans (HB2.out.mono hs1)
    go_wp2_with fail
    generalize w1.alloc (.cells #[.slice none 0 0] 57) = w2 at *
    refine (wrsRule_any w w.heap.size w1.heap.size [] (.slice a g.length cap) g _ rfl HW2.out HR.out BW2.out HG.out HP.out hgl (by have h1 := HGl.out; unfold gramW at h1; simp only [List.length_nil]; omega)).mono ?_
    rintro e w3 ⟨rfl, h3, hb3, hk3⟩
    rw [List.nil_append] at h3
    obtain ⟨_, v3, hv3, hown⟩ := h3
    have c3 : w3.cell? ⟨w1.heap.size, 0, none⟩ = some v3 := by rw [Lib.cell_of_heap hv3]; rfl
    have hcv := own_string (P := Tryz.prog) (src := 48) (dst := 9) (listW ruleW g) Tryz.underlying48 Tryz.underlying5 Tryz.underlying9 hown
    have B3 : Hid (Below w.heap.size w w3) := BW2.out.trans hb3
    obtain ⟨ao, n', cap', rfl⟩ : ∃ ao n' cap, v3 = .slice ao n' cap := by
      rcases hown.2 with ⟨hv, _⟩ | ⟨g, cap, cur, hv, _⟩
      · exact ⟨_, _, _, hv⟩
      · exact ⟨_, _, _, hv⟩
    have HsS : Hid ((str (listW ruleW g)).size = (gramW g).length) := by rw [Hid, str_size]; rfl
    have HsD : Hid ((str (listW ruleW g)).data.toList = gramW g) := by rw [Hid]; simp [str, gramW]
    clear hb3 hk3 hown hv3 HB2 e2 e1
    go_wp2_with fail
    have HLs : Hid ((str (sealB (gramW g))).size = (gramW g).length + 4) := sealB_size (gramW g)
    by_cases hl : (gramW g).length ≤ 20000
    · refine (sealed_yes _ w3 (by rw [HsS.out]; exact hl) (tab_below HT0.out B3.out)).mono ?_
      rintro e w4 ⟨rfl, hb4⟩
      rw [HsD.out]
      have B4 : Hid (Below w.heap.size w w4) := B3.out.trans (hb4.mono B3.out.size)
      clear hb4
      by_cases hl4 : (gramW g).length + 4 ≤ 20000
      · have HT : Hid (str (gramT g) = str (sealB (gramW g)) ∧ gramO g = true) := by
          have e : gramO g = true := by rw [HO.out]; exact decide_eq_true hl4
          exact ⟨by rw [gramT, if_pos e]; rfl, e⟩
        have hls : ¬ (20000 : Int) < (str (sealB (gramW g))).size := by rw [HLs.out]; omega
        generalize str (sealB (gramW g)) = st at *
        go_wp2
        go_ret2
        rw [HT.out.1, HT.out.2]
        exact ⟨rfl, B4.out⟩
      · have HT : Hid (gramT g = [] ∧ gramO g = false) := by
          have e : gramO g = false := by rw [HO.out]; exact decide_eq_false hl4
          exact ⟨by rw [gramT, if_neg (by rw [e]; decide)], e⟩
        have hls : (20000 : Int) < (str (sealB (gramW g))).size := by rw [HLs.out]; omega
        generalize str (sealB (gramW g)) = st at *
        go_wp2
        go_ret2
        rw [HT.out.1, HT.out.2]
        exact ⟨rfl, B4.out⟩
    · have HT : Hid (gramT g = [] ∧ gramO g = false) := by
        have e : gramO g = false := by rw [HO.out]; exact decide_eq_false (by omega)
        exact ⟨by rw [gramT, if_neg (by rw [e]; decide)], e⟩
      refine (sealed_no _ w3 (by rw [HsS.out]; omega)).mono ?_
      rintro e w4 ⟨rfl, rfl⟩
      go_wp2
      go_ret2
      rw [HT.out.1, HT.out.2]
      exact ⟨rfl, B3.out⟩
  · have hb' : gramB g = false := by simpa using hb
    have HO : Hid (gramO g = false) := by rw [Hid, gramO, hb']; rfl
    have HT : Hid (gramT g = []) := by rw [Hid, gramT, if_neg (by rw [HO.out]; decide)]
    rw [hb']
    clear hb hb' hb1 E0
    go_wp2
    go_ret2
    rw [HT.out, HO.out]
    exact ⟨rfl, B1.out⟩

end Go.Proofs.YtcnkegkffmcdmaaGreatDoor

namespace Go.Proofs.YtcnkegkffmcdmaaGreatDoor
open Go.RowKit

theorem openExpr_gen {H : Type} {enc : TypeId × Value → H} {P : Program} {w : World} {base : Nat} {held : Bool} {e : TypeId} {f0 : Field} (he : P.underlying e = some (.struct #[f0])) (o0 : f0.offset = 0) (c0 : P.cellsOf f0.type = 1) (u0 : ∀ (n : Nat) (v : Value) (y : DataW H × List MemPlace), DataW.trod enc P w base (fun _ => true) held n f0.type [v] = some y → ∃ x, NRow w v x ∧ RowInn NodeIn x)
    {n : Nat} {cs : List Value} {y : DataW H × List MemPlace} (hl : cs.length = 1) (h : DataW.trod enc P w base (fun _ => true) held n e cs = some y) : ∃ x, ExprE w cs x ∧ ExprIn x := by
  obtain ⟨xs, k, hk, hxy, _, hxl, hf⟩ := DataW.trod_struct he h
  match xs, hxl, cs, hl with
  | [y0], _, [v0], _ =>
    have g0 := hf 0 f0 rfl
    simp [o0, c0] at g0
    obtain ⟨x0, hx0, hi0⟩ := u0 _ _ _ g0
    exact ⟨x0, ⟨v0, rfl, hx0⟩, hi0⟩
theorem openExpr {H : Type} {enc : TypeId × Value → H} {w : World} {base : Nat} {held : Bool} {n : Nat} {cs : List Value} {y : DataW H × List MemPlace} (hl : cs.length = 1) (h : DataW.trod enc Tryz.prog w base (fun _ => true) held n 162 cs = some y) : ∃ x, ExprE w cs x ∧ ExprIn x :=
  openExpr_gen Tryz.underlying162 rfl (by kernel_rfl) (fun _ _ _ h => (nArg_of_trod Tryz.underlying160 Tryz.underlying215 (by kernel_rfl) rfl rfl rfl rfl (by kernel_rfl) (by kernel_rfl) (by kernel_rfl) (by kernel_rfl) (by kernel_rfl) (by kernel_rfl) (by kernel_rfl) (by kernel_rfl) Tryz.underlying3 (by kernel_rfl) h).imp fun _ h => ⟨h.1, h.2⟩) hl h

theorem openSym_gen {H : Type} {enc : TypeId × Value → H} {P : Program} {w : World} {base : Nat} {held : Bool} {e : TypeId} {f0 f1 f2 f3 : Field} (he : P.underlying e = some (.struct #[f0, f1, f2, f3])) (o0 : f0.offset = 0) (o1 : f1.offset = 1) (o2 : f2.offset = 2) (o3 : f3.offset = 3) (c0 : P.cellsOf f0.type = 1) (c1 : P.cellsOf f1.type = 1) (c2 : P.cellsOf f2.type = 1) (c3 : P.cellsOf f3.type = 1) (u0 : P.underlying f0.type = some (.int .i64)) (u1 : P.underlying f1.type = some .string) (u2 : ∀ (n : Nat) (v : Value) (y : DataW H × List MemPlace), DataW.trod enc P w base (fun _ => true) held n f2.type [v] = some y → ∃ x, RowC 1 ExprE w v x ∧ RowInn ExprIn x) (u3 : P.underlying f3.type = some .string)
    {n : Nat} {cs : List Value} {y : DataW H × List MemPlace} (hl : cs.length = 4) (h : DataW.trod enc P w base (fun _ => true) held n e cs = some y) : ∃ x, SymE w cs x ∧ SymIn x := by
  obtain ⟨xs, k, hk, hxy, _, hxl, hf⟩ := DataW.trod_struct he h
  match xs, hxl, cs, hl with
  | [y0, y1, y2, y3], _, [v0, v1, v2, v3], _ =>
    have g0 := hf 0 f0 rfl
    have g1 := hf 1 f1 rfl
    have g2 := hf 2 f2 rfl
    have g3 := hf 3 f3 rfl
    simp [o0, o1, o2, o3, c0, c1, c2, c3] at g0 g1 g2 g3
    obtain ⟨z0, e0, _, hz0⟩ := DataW.trod_int u0 g0
    obtain rfl : v0 = .int .i64 z0 := by simpa using e0
    obtain ⟨s1, e1, _, hs1⟩ := DataW.trod_string u1 g1
    obtain rfl : v1 = .string s1 := by simpa using e1
    obtain ⟨x2, hx2, hi2⟩ := u2 _ _ _ g2
    obtain ⟨s3, e3, _, hs3⟩ := DataW.trod_string u3 g3
    obtain rfl : v3 = .string s3 := by simpa using e3
    exact ⟨⟨z0, s1, x2, s3⟩, ⟨v2, rfl, hx2⟩, bounds_i64 hz0, hs1, hi2, hs3⟩
theorem openSym {H : Type} {enc : TypeId × Value → H} {w : World} {base : Nat} {held : Bool} {n : Nat} {cs : List Value} {y : DataW H × List MemPlace} (hl : cs.length = 4) (h : DataW.trod enc Tryz.prog w base (fun _ => true) held n 135 cs = some y) : ∃ x, SymE w cs x ∧ SymIn x :=
  openSym_gen Tryz.underlying135 rfl rfl rfl rfl (by kernel_rfl) (by kernel_rfl) (by kernel_rfl) (by kernel_rfl) Tryz.underlying3 Tryz.underlying9 (fun _ _ _ h => (rowC_of_trod (E := ExprE) (In := ExprIn) (sz := 1) Tryz.underlying133 (by kernel_rfl) (by decide) (fun n cs y hl h => openExpr hl h) h).imp fun _ h => ⟨h.1, h.2⟩) Tryz.underlying9 hl h

theorem openAlt_gen {H : Type} {enc : TypeId × Value → H} {P : Program} {w : World} {base : Nat} {held : Bool} {e : TypeId} {f0 : Field} (he : P.underlying e = some (.struct #[f0])) (o0 : f0.offset = 0) (c0 : P.cellsOf f0.type = 1) (u0 : ∀ (n : Nat) (v : Value) (y : DataW H × List MemPlace), DataW.trod enc P w base (fun _ => true) held n f0.type [v] = some y → ∃ x, RowC 4 SymE w v x ∧ RowInn SymIn x)
    {n : Nat} {cs : List Value} {y : DataW H × List MemPlace} (hl : cs.length = 1) (h : DataW.trod enc P w base (fun _ => true) held n e cs = some y) : ∃ x, AltE w cs x ∧ AltIn x := by
  obtain ⟨xs, k, hk, hxy, _, hxl, hf⟩ := DataW.trod_struct he h
  match xs, hxl, cs, hl with
  | [y0], _, [v0], _ =>
    have g0 := hf 0 f0 rfl
    simp [o0, c0] at g0
    obtain ⟨x0, hx0, hi0⟩ := u0 _ _ _ g0
    exact ⟨x0, ⟨v0, rfl, hx0⟩, hi0⟩
theorem openAlt {H : Type} {enc : TypeId × Value → H} {w : World} {base : Nat} {held : Bool} {n : Nat} {cs : List Value} {y : DataW H × List MemPlace} (hl : cs.length = 1) (h : DataW.trod enc Tryz.prog w base (fun _ => true) held n 107 cs = some y) : ∃ x, AltE w cs x ∧ AltIn x :=
  openAlt_gen Tryz.underlying107 rfl (by kernel_rfl) (fun _ _ _ h => (rowC_of_trod (E := SymE) (In := SymIn) (sz := 4) Tryz.underlying105 (by kernel_rfl) (by decide) (fun n cs y hl h => openSym hl h) h).imp fun _ h => ⟨h.1, h.2⟩) hl h

theorem openRule_gen {H : Type} {enc : TypeId × Value → H} {P : Program} {w : World} {base : Nat} {held : Bool} {e : TypeId} {f0 f1 f2 : Field} (he : P.underlying e = some (.struct #[f0, f1, f2])) (o0 : f0.offset = 0) (o1 : f1.offset = 1) (o2 : f2.offset = 2) (c0 : P.cellsOf f0.type = 1) (c1 : P.cellsOf f1.type = 1) (c2 : P.cellsOf f2.type = 1) (u0 : P.underlying f0.type = some .string) (u1 : ∀ (n : Nat) (v : Value) (y : DataW H × List MemPlace), DataW.trod enc P w base (fun _ => true) held n f1.type [v] = some y → ∃ x, SRow w v x ∧ RowInn StrIn x) (u2 : ∀ (n : Nat) (v : Value) (y : DataW H × List MemPlace), DataW.trod enc P w base (fun _ => true) held n f2.type [v] = some y → ∃ x, RowC 1 AltE w v x ∧ RowInn AltIn x)
    {n : Nat} {cs : List Value} {y : DataW H × List MemPlace} (hl : cs.length = 3) (h : DataW.trod enc P w base (fun _ => true) held n e cs = some y) : ∃ x, RuleE w cs x ∧ RuleIn x := by
  obtain ⟨xs, k, hk, hxy, _, hxl, hf⟩ := DataW.trod_struct he h
  match xs, hxl, cs, hl with
  | [y0, y1, y2], _, [v0, v1, v2], _ =>
    have g0 := hf 0 f0 rfl
    have g1 := hf 1 f1 rfl
    have g2 := hf 2 f2 rfl
    simp [o0, o1, o2, c0, c1, c2] at g0 g1 g2
    obtain ⟨s0, e0, _, hs0⟩ := DataW.trod_string u0 g0
    obtain rfl : v0 = .string s0 := by simpa using e0
    obtain ⟨x1, hx1, hi1⟩ := u1 _ _ _ g1
    obtain ⟨x2, hx2, hi2⟩ := u2 _ _ _ g2
    exact ⟨⟨s0, x1, x2⟩, ⟨v1, v2, rfl, hx1, hx2⟩, hs0, hi1, hi2⟩
theorem openRule {H : Type} {enc : TypeId × Value → H} {w : World} {base : Nat} {held : Bool} {n : Nat} {cs : List Value} {y : DataW H × List MemPlace} (hl : cs.length = 3) (h : DataW.trod enc Tryz.prog w base (fun _ => true) held n 64 cs = some y) : ∃ x, RuleE w cs x ∧ RuleIn x :=
  openRule_gen Tryz.underlying64 rfl rfl rfl (by kernel_rfl) (by kernel_rfl) (by kernel_rfl) Tryz.underlying9 (fun _ _ _ h => (sArg_of_trod Tryz.underlying37 Tryz.underlying9 (by kernel_rfl) h).imp fun _ h => ⟨h.1, h.2⟩) (fun _ _ _ h => (rowC_of_trod (E := AltE) (In := AltIn) (sz := 1) Tryz.underlying62 (by kernel_rfl) (by decide) (fun n cs y hl h => openAlt hl h) h).imp fun _ h => ⟨h.1, h.2⟩) hl h

theorem openGrammar_gen {H : Type} {enc : TypeId × Value → H} {P : Program} {w : World} {base : Nat} {held : Bool} {e : TypeId} {f0 : Field} (he : P.underlying e = some (.struct #[f0])) (o0 : f0.offset = 0) (c0 : P.cellsOf f0.type = 1) (u0 : ∀ (n : Nat) (v : Value) (y : DataW H × List MemPlace), DataW.trod enc P w base (fun _ => true) held n f0.type [v] = some y → ∃ x, RowC 3 RuleE w v x ∧ RowInn RuleIn x)
    {n : Nat} {cs : List Value} {y : DataW H × List MemPlace} (hl : cs.length = 1) (h : DataW.trod enc P w base (fun _ => true) held n e cs = some y) : ∃ x, GrammarE w cs x ∧ GrammarIn x := by
  obtain ⟨xs, k, hk, hxy, _, hxl, hf⟩ := DataW.trod_struct he h
  match xs, hxl, cs, hl with
  | [y0], _, [v0], _ =>
    have g0 := hf 0 f0 rfl
    simp [o0, c0] at g0
    obtain ⟨x0, hx0, hi0⟩ := u0 _ _ _ g0
    exact ⟨x0, ⟨v0, rfl, hx0⟩, hi0⟩
theorem openGrammar {H : Type} {enc : TypeId × Value → H} {w : World} {base : Nat} {held : Bool} {n : Nat} {cs : List Value} {y : DataW H × List MemPlace} (hl : cs.length = 1) (h : DataW.trod enc Tryz.prog w base (fun _ => true) held n 24 cs = some y) : ∃ x, GrammarE w cs x ∧ GrammarIn x :=
  openGrammar_gen Tryz.underlying24 rfl (by kernel_rfl) (fun _ _ _ h => (rowC_of_trod (E := RuleE) (In := RuleIn) (sz := 3) Tryz.underlying22 (by kernel_rfl) (by decide) (fun n cs y hl h => openRule hl h) h).imp fun _ h => ⟨h.1, h.2⟩) hl h

theorem one_cellA {cs : Array Value} (h1 : cs.size = 1) : ∃ u, cs = #[u] :=
  ⟨cs[0], by apply Array.ext; · simp [h1]
             · intro i h2 h3; have : i = 0 := by omega
               subst this; rfl⟩
set_option maxRecDepth 100000 in
theorem gramArg_of {H : Type} {enc : TypeId × Value → H} {w : World} {base : Nat} {held : Bool} {r : Reach} {b0 : Nat} {v : Value} {d : DataW H} {p : List MemPlace}
    (hv : Value.okWide Tryz.prog w r b0 24 v) (h : DataW.Trod enc Tryz.prog w base (fun _ => true) held 24 v d p) : ∃ u xs, v = .agg #[u] ∧ RowC 3 RuleE w u xs ∧ GrammarIn xs := by
  obtain ⟨cs, rfl, hsz⟩ := WideShapes.okWide_struct Tryz.underlying24 hv
  have hC : Tryz.prog.cellsOf 24 = 1 := by kernel_rfl
  obtain ⟨u, rfl⟩ := one_cellA (hsz.trans hC)
  obtain ⟨fuel, hf⟩ := h
  obtain ⟨x, ⟨u', e, hx⟩, hin⟩ := openGrammar (cs := [u]) rfl hf
  cases e
  exact ⟨u, x, rfl, hx, hin⟩

end Go.Proofs.YtcnkegkffmcdmaaGreatDoor
