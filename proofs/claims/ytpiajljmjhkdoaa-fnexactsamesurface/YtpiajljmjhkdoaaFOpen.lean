/- Grammars with groups opened as arguments (printed by mk/kitset.py). -/
import Derived.Test.YtpiajljmjhkdoaaFData
import Derived.Test.YtpiajljmjhkdoaaGOpen
namespace Go.Proofs.Ytpiajljmjhkdoaa
open Go.RowKit

theorem openSNode_gen {H : Type} {enc : TypeId × Value → H} {P : Program} {w : World} {base : Nat} {held : Bool} {e : TypeId} {f0 f1 f2 f3 f4 : Field} (he : P.underlying e = some (.struct #[f0, f1, f2, f3, f4])) (o0 : f0.offset = 0) (o1 : f1.offset = 1) (o2 : f2.offset = 2) (o3 : f3.offset = 3) (o4 : f4.offset = 4) (c0 : P.cellsOf f0.type = 1) (c1 : P.cellsOf f1.type = 1) (c2 : P.cellsOf f2.type = 1) (c3 : P.cellsOf f3.type = 1) (c4 : P.cellsOf f4.type = 1) (u0 : P.underlying f0.type = some (.int .i64)) (u1 : P.underlying f1.type = some .string) (u2 : ∀ (n : Nat) (v : Value) (y : DataW H × List MemPlace), DataW.trod enc P w base (fun _ => true) held n f2.type [v] = some y → ∃ x, RowC 1 ExprE w v x ∧ RowInn ExprIn x) (u3 : P.underlying f3.type = some .string) (u4 : ∀ (n : Nat) (v : Value) (y : DataW H × List MemPlace), DataW.trod enc P w base (fun _ => true) held n f4.type [v] = some y → ∃ x, IRow w v x ∧ RowInn i64 x)
    {n : Nat} {cs : List Value} {y : DataW H × List MemPlace} (hl : cs.length = 5) (h : DataW.trod enc P w base (fun _ => true) held n e cs = some y) : ∃ x, SNodeE w cs x ∧ SNodeIn x := by
  obtain ⟨xs, k, hk, hxy, _, hxl, hf⟩ := DataW.trod_struct he h
  match xs, hxl, cs, hl with
  | [y0, y1, y2, y3, y4], _, [v0, v1, v2, v3, v4], _ =>
    have g0 := hf 0 f0 rfl
    have g1 := hf 1 f1 rfl
    have g2 := hf 2 f2 rfl
    have g3 := hf 3 f3 rfl
    have g4 := hf 4 f4 rfl
    simp [o0, o1, o2, o3, o4, c0, c1, c2, c3, c4] at g0 g1 g2 g3 g4
    obtain ⟨z0, e0, _, hz0⟩ := DataW.trod_int u0 g0
    obtain rfl : v0 = .int .i64 z0 := by simpa using e0
    obtain ⟨s1, e1, _, hs1⟩ := DataW.trod_string u1 g1
    obtain rfl : v1 = .string s1 := by simpa using e1
    obtain ⟨x2, hx2, hi2⟩ := u2 _ _ _ g2
    obtain ⟨s3, e3, _, hs3⟩ := DataW.trod_string u3 g3
    obtain rfl : v3 = .string s3 := by simpa using e3
    obtain ⟨x4, hx4, hi4⟩ := u4 _ _ _ g4
    exact ⟨⟨z0, s1, x2, s3, x4⟩, ⟨v2, v4, rfl, hx2, hx4⟩, bounds_i64 hz0, hs1, hi2, hs3, hi4⟩
theorem openSNode {H : Type} {enc : TypeId × Value → H} {w : World} {base : Nat} {held : Bool} {n : Nat} {cs : List Value} {y : DataW H × List MemPlace} (hl : cs.length = 5) (h : DataW.trod enc Try.prog w base (fun _ => true) held n 57 cs = some y) : ∃ x, SNodeE w cs x ∧ SNodeIn x :=
  openSNode_gen Try.underlying57 rfl rfl rfl rfl rfl (by kernel_rfl) (by kernel_rfl) (by kernel_rfl) (by kernel_rfl) (by kernel_rfl) Try.underlying3 Try.underlying9 (fun _ _ _ h => (rowC_of_trod (E := ExprE) (In := ExprIn) (sz := 1) Try.underlying55 (by kernel_rfl) (by decide) (fun n cs y hl h => openExpr hl h) h).imp fun _ h => ⟨h.1, h.2⟩) Try.underlying9 (fun _ _ _ h => (iRow_of_trod Try.underlying37 Try.underlying3 (by kernel_rfl) h).imp fun _ h => ⟨h.1, h.2⟩) hl h

theorem openSRule_gen {H : Type} {enc : TypeId × Value → H} {P : Program} {w : World} {base : Nat} {held : Bool} {e : TypeId} {f0 f1 f2 : Field} (he : P.underlying e = some (.struct #[f0, f1, f2])) (o0 : f0.offset = 0) (o1 : f1.offset = 1) (o2 : f2.offset = 2) (c0 : P.cellsOf f0.type = 1) (c1 : P.cellsOf f1.type = 1) (c2 : P.cellsOf f2.type = 1) (u0 : P.underlying f0.type = some .string) (u1 : ∀ (n : Nat) (v : Value) (y : DataW H × List MemPlace), DataW.trod enc P w base (fun _ => true) held n f1.type [v] = some y → ∃ x, SRow w v x ∧ RowInn StrIn x) (u2 : P.underlying f2.type = some (.int .i64))
    {n : Nat} {cs : List Value} {y : DataW H × List MemPlace} (hl : cs.length = 3) (h : DataW.trod enc P w base (fun _ => true) held n e cs = some y) : ∃ x, SRuleE w cs x ∧ SRuleIn x := by
  obtain ⟨xs, k, hk, hxy, _, hxl, hf⟩ := DataW.trod_struct he h
  match xs, hxl, cs, hl with
  | [y0, y1, y2], _, [v0, v1, v2], _ =>
    have g0 := hf 0 f0 rfl
    have g1 := hf 1 f1 rfl
    have g2 := hf 2 f2 rfl
    simp [o0, o1, o2, c0, c1, c2] at g0 g1 g2
    obtain ⟨s0, e0, _, hs0⟩ := DataW.trod_string u0 g0
    obtain rfl : v0 = .string s0 := by simpa using e0
    obtain ⟨x1, hx1, hi1⟩ := u1 _ _ _ g1
    obtain ⟨z2, e2, _, hz2⟩ := DataW.trod_int u2 g2
    obtain rfl : v2 = .int .i64 z2 := by simpa using e2
    exact ⟨⟨s0, x1, z2⟩, ⟨v1, rfl, hx1⟩, hs0, hi1, bounds_i64 hz2⟩
theorem openSRule {H : Type} {enc : TypeId × Value → H} {w : World} {base : Nat} {held : Bool} {n : Nat} {cs : List Value} {y : DataW H × List MemPlace} (hl : cs.length = 3) (h : DataW.trod enc Try.prog w base (fun _ => true) held n 59 cs = some y) : ∃ x, SRuleE w cs x ∧ SRuleIn x :=
  openSRule_gen Try.underlying59 rfl rfl rfl (by kernel_rfl) (by kernel_rfl) (by kernel_rfl) Try.underlying9 (fun _ _ _ h => (sArg_of_trod Try.underlying42 Try.underlying9 (by kernel_rfl) h).imp fun _ h => ⟨h.1, h.2⟩) Try.underlying3 hl h

theorem openSurface_gen {H : Type} {enc : TypeId × Value → H} {P : Program} {w : World} {base : Nat} {held : Bool} {e : TypeId} {f0 f1 : Field} (he : P.underlying e = some (.struct #[f0, f1])) (o0 : f0.offset = 0) (o1 : f1.offset = 1) (c0 : P.cellsOf f0.type = 1) (c1 : P.cellsOf f1.type = 1) (u0 : ∀ (n : Nat) (v : Value) (y : DataW H × List MemPlace), DataW.trod enc P w base (fun _ => true) held n f0.type [v] = some y → ∃ x, RowC 5 SNodeE w v x ∧ RowInn SNodeIn x) (u1 : ∀ (n : Nat) (v : Value) (y : DataW H × List MemPlace), DataW.trod enc P w base (fun _ => true) held n f1.type [v] = some y → ∃ x, RowC 3 SRuleE w v x ∧ RowInn SRuleIn x)
    {n : Nat} {cs : List Value} {y : DataW H × List MemPlace} (hl : cs.length = 2) (h : DataW.trod enc P w base (fun _ => true) held n e cs = some y) : ∃ x, SurfaceE w cs x ∧ SurfaceIn x := by
  obtain ⟨xs, k, hk, hxy, _, hxl, hf⟩ := DataW.trod_struct he h
  match xs, hxl, cs, hl with
  | [y0, y1], _, [v0, v1], _ =>
    have g0 := hf 0 f0 rfl
    have g1 := hf 1 f1 rfl
    simp [o0, o1, c0, c1] at g0 g1
    obtain ⟨x0, hx0, hi0⟩ := u0 _ _ _ g0
    obtain ⟨x1, hx1, hi1⟩ := u1 _ _ _ g1
    exact ⟨⟨x0, x1⟩, ⟨v0, v1, rfl, hx0, hx1⟩, hi0, hi1⟩
theorem openSurface {H : Type} {enc : TypeId × Value → H} {w : World} {base : Nat} {held : Bool} {n : Nat} {cs : List Value} {y : DataW H × List MemPlace} (hl : cs.length = 2) (h : DataW.trod enc Try.prog w base (fun _ => true) held n 25 cs = some y) : ∃ x, SurfaceE w cs x ∧ SurfaceIn x :=
  openSurface_gen Try.underlying25 rfl rfl (by kernel_rfl) (by kernel_rfl) (fun _ _ _ h => (rowC_of_trod (E := SNodeE) (In := SNodeIn) (sz := 5) Try.underlying22 (by kernel_rfl) (by decide) (fun n cs y hl h => openSNode hl h) h).imp fun _ h => ⟨h.1, h.2⟩) (fun _ _ _ h => (rowC_of_trod (E := SRuleE) (In := SRuleIn) (sz := 3) Try.underlying23 (by kernel_rfl) (by decide) (fun n cs y hl h => openSRule hl h) h).imp fun _ h => ⟨h.1, h.2⟩) hl h

theorem two_cellsA {cs : Array Value} (h1 : cs.size = 2) : ∃ u v, cs = #[u, v] :=
  ⟨cs[0], cs[1], by apply Array.ext; · simp [h1]
                    · intro i h2 h3; have : i = 0 ∨ i = 1 := by omega
                      rcases this with h | h <;> subst h <;> rfl⟩
set_option maxRecDepth 100000 in
theorem surfArg_of {H : Type} {enc : TypeId × Value → H} {w : World} {base : Nat} {held : Bool} {r : Reach} {b0 : Nat} {v : Value} {d : DataW H} {p : List MemPlace}
    (hv : Value.okWide Try.prog w r b0 25 v) (h : DataW.Trod enc Try.prog w base (fun _ => true) held 25 v d p) : ∃ nv rv x, v = .agg #[nv, rv] ∧ RowC 5 SNodeE w nv x.nodes ∧ RowC 3 SRuleE w rv x.rules ∧ SurfaceIn x := by
  obtain ⟨cs, rfl, hsz⟩ := WideShapes.okWide_struct Try.underlying25 hv
  have hC : Try.prog.cellsOf 25 = 2 := by kernel_rfl
  obtain ⟨u, u2, rfl⟩ := two_cellsA (hsz.trans hC)
  obtain ⟨fuel, hf⟩ := h
  obtain ⟨x, ⟨u', u2', e, hx, hx2⟩, hin⟩ := openSurface (cs := [u, u2]) rfl hf
  cases e
  exact ⟨u, u2, x, rfl, hx, hx2, hin⟩

end Go.Proofs.Ytpiajljmjhkdoaa
