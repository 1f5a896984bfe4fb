/- Grammars opened as arguments (printed by mk/gkit.py). -/
import Derived.Test.YtccbbghlckbihaaGData
import Derived.OpenShut
namespace Go.Proofs.Ytccbbghlckbihaa
open Go.RowKit

theorem openExpr_gen {H : Type} {enc : TypeId × Value → H} {P : Program} {w : World} {base : Nat} {held : Bool} {e : TypeId} {f0 : Field} (he : P.underlying e = some (.struct #[f0])) (o0 : f0.offset = 0) (c0 : P.cellsOf f0.type = 1) (u0 : ∀ (n : Nat) (v : Value) (y : DataW H × List MemPlace), DataW.trod enc P w base (fun _ => true) held n f0.type [v] = some y → ∃ x, NRow w v x ∧ RowInn NodeIn x)
    {n : Nat} {cs : List Value} {y : DataW H × List MemPlace} (hl : cs.length = 1) (h : DataW.trod enc P w base (fun _ => true) held n e cs = some y) : ∃ x, ExprE w cs x ∧ ExprIn x := by
  obtain ⟨xs, k, hk, hxy, _, hxl, hf⟩ := DataW.trod_struct he h
  match xs, hxl, cs, hl with
  | [y0], _, [v0], _ =>
    have g0 := hf 0 f0 rfl
    simp [o0, c0] at g0
    obtain ⟨x0, hx0, hi0⟩ := u0 _ _ _ g0
    exact ⟨x0, ⟨v0, rfl, hx0⟩, hi0⟩
theorem openExpr {H : Type} {enc : TypeId × Value → H} {w : World} {base : Nat} {held : Bool} {n : Nat} {cs : List Value} {y : DataW H × List MemPlace} (hl : cs.length = 1) (h : DataW.trod enc Try.prog w base (fun _ => true) held n 92 cs = some y) : ∃ x, ExprE w cs x ∧ ExprIn x :=
  openExpr_gen Try.underlying92 rfl (by kernel_rfl) (fun _ _ _ h => (nArg_of_trod Try.underlying90 Try.underlying98 (by kernel_rfl) rfl rfl rfl rfl (by kernel_rfl) (by kernel_rfl) (by kernel_rfl) (by kernel_rfl) (by kernel_rfl) (by kernel_rfl) (by kernel_rfl) (by kernel_rfl) Try.underlying3 (by kernel_rfl) h).imp fun _ h => ⟨h.1, h.2⟩) hl h

theorem openSym_gen {H : Type} {enc : TypeId × Value → H} {P : Program} {w : World} {base : Nat} {held : Bool} {e : TypeId} {f0 f1 f2 f3 : Field} (he : P.underlying e = some (.struct #[f0, f1, f2, f3])) (o0 : f0.offset = 0) (o1 : f1.offset = 1) (o2 : f2.offset = 2) (o3 : f3.offset = 3) (c0 : P.cellsOf f0.type = 1) (c1 : P.cellsOf f1.type = 1) (c2 : P.cellsOf f2.type = 1) (c3 : P.cellsOf f3.type = 1) (u0 : P.underlying f0.type = some (.int .i64)) (u1 : P.underlying f1.type = some .string) (u2 : ∀ (n : Nat) (v : Value) (y : DataW H × List MemPlace), DataW.trod enc P w base (fun _ => true) held n f2.type [v] = some y → ∃ x, RowC 1 ExprE w v x ∧ RowInn ExprIn x) (u3 : P.underlying f3.type = some .string)
    {n : Nat} {cs : List Value} {y : DataW H × List MemPlace} (hl : cs.length = 4) (h : DataW.trod enc P w base (fun _ => true) held n e cs = some y) : ∃ x, SymE w cs x ∧ SymIn x := by
  obtain ⟨xs, k, hk, hxy, _, hxl, hf⟩ := DataW.trod_struct he h
  match xs, hxl, cs, hl with
  | [y0, y1, y2, y3], _, [v0, v1, v2, v3], _ =>
    have g0 := hf 0 f0 rfl
    have g1 := hf 1 f1 rfl
    have g2 := hf 2 f2 rfl
    have g3 := hf 3 f3 rfl
    simp [o0, o1, o2, o3, c0, c1, c2, c3] at g0 g1 g2 g3
    obtain ⟨z0, e0, _, hz0⟩ := DataW.trod_int u0 g0
    obtain rfl : v0 = .int .i64 z0 := by simpa using e0
    obtain ⟨s1, e1, _, hs1⟩ := DataW.trod_string u1 g1
    obtain rfl : v1 = .string s1 := by simpa using e1
    obtain ⟨x2, hx2, hi2⟩ := u2 _ _ _ g2
    obtain ⟨s3, e3, _, hs3⟩ := DataW.trod_string u3 g3
    obtain rfl : v3 = .string s3 := by simpa using e3
    exact ⟨⟨z0, s1, x2, s3⟩, ⟨v2, rfl, hx2⟩, bounds_i64 hz0, hs1, hi2, hs3⟩
theorem openSym {H : Type} {enc : TypeId × Value → H} {w : World} {base : Nat} {held : Bool} {n : Nat} {cs : List Value} {y : DataW H × List MemPlace} (hl : cs.length = 4) (h : DataW.trod enc Try.prog w base (fun _ => true) held n 85 cs = some y) : ∃ x, SymE w cs x ∧ SymIn x :=
  openSym_gen Try.underlying85 rfl rfl rfl rfl (by kernel_rfl) (by kernel_rfl) (by kernel_rfl) (by kernel_rfl) Try.underlying3 Try.underlying9 (fun _ _ _ h => (rowC_of_trod (E := ExprE) (In := ExprIn) (sz := 1) Try.underlying83 (by kernel_rfl) (by decide) (fun n cs y hl h => openExpr hl h) h).imp fun _ h => ⟨h.1, h.2⟩) Try.underlying9 hl h

theorem openAlt_gen {H : Type} {enc : TypeId × Value → H} {P : Program} {w : World} {base : Nat} {held : Bool} {e : TypeId} {f0 : Field} (he : P.underlying e = some (.struct #[f0])) (o0 : f0.offset = 0) (c0 : P.cellsOf f0.type = 1) (u0 : ∀ (n : Nat) (v : Value) (y : DataW H × List MemPlace), DataW.trod enc P w base (fun _ => true) held n f0.type [v] = some y → ∃ x, RowC 4 SymE w v x ∧ RowInn SymIn x)
    {n : Nat} {cs : List Value} {y : DataW H × List MemPlace} (hl : cs.length = 1) (h : DataW.trod enc P w base (fun _ => true) held n e cs = some y) : ∃ x, AltE w cs x ∧ AltIn x := by
  obtain ⟨xs, k, hk, hxy, _, hxl, hf⟩ := DataW.trod_struct he h
  match xs, hxl, cs, hl with
  | [y0], _, [v0], _ =>
    have g0 := hf 0 f0 rfl
    simp [o0, c0] at g0
    obtain ⟨x0, hx0, hi0⟩ := u0 _ _ _ g0
    exact ⟨x0, ⟨v0, rfl, hx0⟩, hi0⟩
theorem openAlt {H : Type} {enc : TypeId × Value → H} {w : World} {base : Nat} {held : Bool} {n : Nat} {cs : List Value} {y : DataW H × List MemPlace} (hl : cs.length = 1) (h : DataW.trod enc Try.prog w base (fun _ => true) held n 73 cs = some y) : ∃ x, AltE w cs x ∧ AltIn x :=
  openAlt_gen Try.underlying73 rfl (by kernel_rfl) (fun _ _ _ h => (rowC_of_trod (E := SymE) (In := SymIn) (sz := 4) Try.underlying71 (by kernel_rfl) (by decide) (fun n cs y hl h => openSym hl h) h).imp fun _ h => ⟨h.1, h.2⟩) hl h

theorem openRule_gen {H : Type} {enc : TypeId × Value → H} {P : Program} {w : World} {base : Nat} {held : Bool} {e : TypeId} {f0 f1 f2 : Field} (he : P.underlying e = some (.struct #[f0, f1, f2])) (o0 : f0.offset = 0) (o1 : f1.offset = 1) (o2 : f2.offset = 2) (c0 : P.cellsOf f0.type = 1) (c1 : P.cellsOf f1.type = 1) (c2 : P.cellsOf f2.type = 1) (u0 : P.underlying f0.type = some .string) (u1 : ∀ (n : Nat) (v : Value) (y : DataW H × List MemPlace), DataW.trod enc P w base (fun _ => true) held n f1.type [v] = some y → ∃ x, SRow w v x ∧ RowInn StrIn x) (u2 : ∀ (n : Nat) (v : Value) (y : DataW H × List MemPlace), DataW.trod enc P w base (fun _ => true) held n f2.type [v] = some y → ∃ x, RowC 1 AltE w v x ∧ RowInn AltIn x)
    {n : Nat} {cs : List Value} {y : DataW H × List MemPlace} (hl : cs.length = 3) (h : DataW.trod enc P w base (fun _ => true) held n e cs = some y) : ∃ x, RuleE w cs x ∧ RuleIn x := by
  obtain ⟨xs, k, hk, hxy, _, hxl, hf⟩ := DataW.trod_struct he h
  match xs, hxl, cs, hl with
  | [y0, y1, y2], _, [v0, v1, v2], _ =>
    have g0 := hf 0 f0 rfl
    have g1 := hf 1 f1 rfl
    have g2 := hf 2 f2 rfl
    simp [o0, o1, o2, c0, c1, c2] at g0 g1 g2
    obtain ⟨s0, e0, _, hs0⟩ := DataW.trod_string u0 g0
    obtain rfl : v0 = .string s0 := by simpa using e0
    obtain ⟨x1, hx1, hi1⟩ := u1 _ _ _ g1
    obtain ⟨x2, hx2, hi2⟩ := u2 _ _ _ g2
    exact ⟨⟨s0, x1, x2⟩, ⟨v1, v2, rfl, hx1, hx2⟩, hs0, hi1, hi2⟩
theorem openRule {H : Type} {enc : TypeId × Value → H} {w : World} {base : Nat} {held : Bool} {n : Nat} {cs : List Value} {y : DataW H × List MemPlace} (hl : cs.length = 3) (h : DataW.trod enc Try.prog w base (fun _ => true) held n 52 cs = some y) : ∃ x, RuleE w cs x ∧ RuleIn x :=
  openRule_gen Try.underlying52 rfl rfl rfl (by kernel_rfl) (by kernel_rfl) (by kernel_rfl) Try.underlying9 (fun _ _ _ h => (sArg_of_trod Try.underlying33 Try.underlying9 (by kernel_rfl) h).imp fun _ h => ⟨h.1, h.2⟩) (fun _ _ _ h => (rowC_of_trod (E := AltE) (In := AltIn) (sz := 1) Try.underlying50 (by kernel_rfl) (by decide) (fun n cs y hl h => openAlt hl h) h).imp fun _ h => ⟨h.1, h.2⟩) hl h

theorem openGrammar_gen {H : Type} {enc : TypeId × Value → H} {P : Program} {w : World} {base : Nat} {held : Bool} {e : TypeId} {f0 : Field} (he : P.underlying e = some (.struct #[f0])) (o0 : f0.offset = 0) (c0 : P.cellsOf f0.type = 1) (u0 : ∀ (n : Nat) (v : Value) (y : DataW H × List MemPlace), DataW.trod enc P w base (fun _ => true) held n f0.type [v] = some y → ∃ x, RowC 3 RuleE w v x ∧ RowInn RuleIn x)
    {n : Nat} {cs : List Value} {y : DataW H × List MemPlace} (hl : cs.length = 1) (h : DataW.trod enc P w base (fun _ => true) held n e cs = some y) : ∃ x, GrammarE w cs x ∧ GrammarIn x := by
  obtain ⟨xs, k, hk, hxy, _, hxl, hf⟩ := DataW.trod_struct he h
  match xs, hxl, cs, hl with
  | [y0], _, [v0], _ =>
    have g0 := hf 0 f0 rfl
    simp [o0, c0] at g0
    obtain ⟨x0, hx0, hi0⟩ := u0 _ _ _ g0
    exact ⟨x0, ⟨v0, rfl, hx0⟩, hi0⟩
theorem openGrammar {H : Type} {enc : TypeId × Value → H} {w : World} {base : Nat} {held : Bool} {n : Nat} {cs : List Value} {y : DataW H × List MemPlace} (hl : cs.length = 1) (h : DataW.trod enc Try.prog w base (fun _ => true) held n 24 cs = some y) : ∃ x, GrammarE w cs x ∧ GrammarIn x :=
  openGrammar_gen Try.underlying24 rfl (by kernel_rfl) (fun _ _ _ h => (rowC_of_trod (E := RuleE) (In := RuleIn) (sz := 3) Try.underlying22 (by kernel_rfl) (by decide) (fun n cs y hl h => openRule hl h) h).imp fun _ h => ⟨h.1, h.2⟩) hl h

theorem one_cellA {cs : Array Value} (h1 : cs.size = 1) : ∃ u, cs = #[u] :=
  ⟨cs[0], by apply Array.ext; · simp [h1]
             · intro i h2 h3; have : i = 0 := by omega
               subst this; rfl⟩
set_option maxRecDepth 100000 in
theorem gramArg_of {H : Type} {enc : TypeId × Value → H} {w : World} {base : Nat} {held : Bool} {r : Reach} {b0 : Nat} {v : Value} {d : DataW H} {p : List MemPlace}
    (hv : Value.okWide Try.prog w r b0 24 v) (h : DataW.Trod enc Try.prog w base (fun _ => true) held 24 v d p) : ∃ u xs, v = .agg #[u] ∧ RowC 3 RuleE w u xs ∧ GrammarIn xs := by
  obtain ⟨cs, rfl, hsz⟩ := WideShapes.okWide_struct Try.underlying24 hv
  have hC : Try.prog.cellsOf 24 = 1 := by kernel_rfl
  obtain ⟨u, rfl⟩ := one_cellA (hsz.trans hC)
  obtain ⟨fuel, hf⟩ := h
  obtain ⟨x, ⟨u', e, hx⟩, hin⟩ := openGrammar (cs := [u]) rfl hf
  cases e
  exact ⟨u, x, rfl, hx, hin⟩

end Go.Proofs.Ytccbbghlckbihaa
