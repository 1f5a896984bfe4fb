/- Forests opened as arguments (printed by mk/kitset.py). -/
import Derived.Test.YtpcfcheicdnogaaWData
import Derived.Test.YtpcfcheicdnogaaGOpen
namespace Go.Proofs.Ytpcfcheicdnogaa
open Go.RowKit

theorem openWay_gen {H : Type} {enc : TypeId × Value → H} {P : Program} {w : World} {base : Nat} {held : Bool} {e : TypeId} {f0 f1 : Field} (he : P.underlying e = some (.struct #[f0, f1])) (o0 : f0.offset = 0) (o1 : f1.offset = 1) (c0 : P.cellsOf f0.type = 1) (c1 : P.cellsOf f1.type = 1) (u0 : P.underlying f0.type = some (.int .i64)) (u1 : ∀ (n : Nat) (v : Value) (y : DataW H × List MemPlace), DataW.trod enc P w base (fun _ => true) held n f1.type [v] = some y → ∃ x, IRow w v x ∧ RowInn i64 x)
    {n : Nat} {cs : List Value} {y : DataW H × List MemPlace} (hl : cs.length = 2) (h : DataW.trod enc P w base (fun _ => true) held n e cs = some y) : ∃ x, WayE w cs x ∧ WayIn x := by
  obtain ⟨xs, k, hk, hxy, _, hxl, hf⟩ := DataW.trod_struct he h
  match xs, hxl, cs, hl with
  | [y0, y1], _, [v0, v1], _ =>
    have g0 := hf 0 f0 rfl
    have g1 := hf 1 f1 rfl
    simp [o0, o1, c0, c1] at g0 g1
    obtain ⟨z0, e0, _, hz0⟩ := DataW.trod_int u0 g0
    obtain rfl : v0 = .int .i64 z0 := by simpa using e0
    obtain ⟨x1, hx1, hi1⟩ := u1 _ _ _ g1
    exact ⟨⟨z0, x1⟩, ⟨v1, rfl, hx1⟩, bounds_i64 hz0, hi1⟩
theorem openWay {H : Type} {enc : TypeId × Value → H} {w : World} {base : Nat} {held : Bool} {n : Nat} {cs : List Value} {y : DataW H × List MemPlace} (hl : cs.length = 2) (h : DataW.trod enc Try.prog w base (fun _ => true) held n 70 cs = some y) : ∃ x, WayE w cs x ∧ WayIn x :=
  openWay_gen Try.underlying70 rfl rfl (by kernel_rfl) (by kernel_rfl) Try.underlying3 (fun _ _ _ h => (iRow_of_trod Try.underlying36 Try.underlying3 (by kernel_rfl) h).imp fun _ h => ⟨h.1, h.2⟩) hl h

theorem openPart_gen {H : Type} {enc : TypeId × Value → H} {P : Program} {w : World} {base : Nat} {held : Bool} {e : TypeId} {f0 f1 f2 f3 f4 : Field} (he : P.underlying e = some (.struct #[f0, f1, f2, f3, f4])) (o0 : f0.offset = 0) (o1 : f1.offset = 1) (o2 : f2.offset = 2) (o3 : f3.offset = 3) (o4 : f4.offset = 4) (c0 : P.cellsOf f0.type = 1) (c1 : P.cellsOf f1.type = 1) (c2 : P.cellsOf f2.type = 1) (c3 : P.cellsOf f3.type = 1) (c4 : P.cellsOf f4.type = 1) (u0 : P.underlying f0.type = some (.int .i64)) (u1 : ∀ (n : Nat) (v : Value) (y : DataW H × List MemPlace), DataW.trod enc P w base (fun _ => true) held n f1.type [v] = some y → ∃ x, IRow w v x ∧ RowInn i64 x) (u2 : P.underlying f2.type = some (.int .i64)) (u3 : P.underlying f3.type = some (.int .i64)) (u4 : ∀ (n : Nat) (v : Value) (y : DataW H × List MemPlace), DataW.trod enc P w base (fun _ => true) held n f4.type [v] = some y → ∃ x, RowC 2 WayE w v x ∧ RowInn WayIn x)
    {n : Nat} {cs : List Value} {y : DataW H × List MemPlace} (hl : cs.length = 5) (h : DataW.trod enc P w base (fun _ => true) held n e cs = some y) : ∃ x, PartE w cs x ∧ PartIn x := by
  obtain ⟨xs, k, hk, hxy, _, hxl, hf⟩ := DataW.trod_struct he h
  match xs, hxl, cs, hl with
  | [y0, y1, y2, y3, y4], _, [v0, v1, v2, v3, v4], _ =>
    have g0 := hf 0 f0 rfl
    have g1 := hf 1 f1 rfl
    have g2 := hf 2 f2 rfl
    have g3 := hf 3 f3 rfl
    have g4 := hf 4 f4 rfl
    simp [o0, o1, o2, o3, o4, c0, c1, c2, c3, c4] at g0 g1 g2 g3 g4
    obtain ⟨z0, e0, _, hz0⟩ := DataW.trod_int u0 g0
    obtain rfl : v0 = .int .i64 z0 := by simpa using e0
    obtain ⟨x1, hx1, hi1⟩ := u1 _ _ _ g1
    obtain ⟨z2, e2, _, hz2⟩ := DataW.trod_int u2 g2
    obtain rfl : v2 = .int .i64 z2 := by simpa using e2
    obtain ⟨z3, e3, _, hz3⟩ := DataW.trod_int u3 g3
    obtain rfl : v3 = .int .i64 z3 := by simpa using e3
    obtain ⟨x4, hx4, hi4⟩ := u4 _ _ _ g4
    exact ⟨⟨z0, x1, z2, z3, x4⟩, ⟨v1, v4, rfl, hx1, hx4⟩, bounds_i64 hz0, hi1, bounds_i64 hz2, bounds_i64 hz3, hi4⟩
theorem openPart {H : Type} {enc : TypeId × Value → H} {w : World} {base : Nat} {held : Bool} {n : Nat} {cs : List Value} {y : DataW H × List MemPlace} (hl : cs.length = 5) (h : DataW.trod enc Try.prog w base (fun _ => true) held n 57 cs = some y) : ∃ x, PartE w cs x ∧ PartIn x :=
  openPart_gen Try.underlying57 rfl rfl rfl rfl rfl (by kernel_rfl) (by kernel_rfl) (by kernel_rfl) (by kernel_rfl) (by kernel_rfl) Try.underlying3 (fun _ _ _ h => (iRow_of_trod Try.underlying36 Try.underlying3 (by kernel_rfl) h).imp fun _ h => ⟨h.1, h.2⟩) Try.underlying3 Try.underlying3 (fun _ _ _ h => (rowC_of_trod (E := WayE) (In := WayIn) (sz := 2) Try.underlying55 (by kernel_rfl) (by decide) (fun n cs y hl h => openWay hl h) h).imp fun _ h => ⟨h.1, h.2⟩) hl h

theorem openForest_gen {H : Type} {enc : TypeId × Value → H} {P : Program} {w : World} {base : Nat} {held : Bool} {e : TypeId} {f0 : Field} (he : P.underlying e = some (.struct #[f0])) (o0 : f0.offset = 0) (c0 : P.cellsOf f0.type = 1) (u0 : ∀ (n : Nat) (v : Value) (y : DataW H × List MemPlace), DataW.trod enc P w base (fun _ => true) held n f0.type [v] = some y → ∃ x, RowC 5 PartE w v x ∧ RowInn PartIn x)
    {n : Nat} {cs : List Value} {y : DataW H × List MemPlace} (hl : cs.length = 1) (h : DataW.trod enc P w base (fun _ => true) held n e cs = some y) : ∃ x, ForestE w cs x ∧ ForestIn x := by
  obtain ⟨xs, k, hk, hxy, _, hxl, hf⟩ := DataW.trod_struct he h
  match xs, hxl, cs, hl with
  | [y0], _, [v0], _ =>
    have g0 := hf 0 f0 rfl
    simp [o0, c0] at g0
    obtain ⟨x0, hx0, hi0⟩ := u0 _ _ _ g0
    exact ⟨x0, ⟨v0, rfl, hx0⟩, hi0⟩
theorem openForest {H : Type} {enc : TypeId × Value → H} {w : World} {base : Nat} {held : Bool} {n : Nat} {cs : List Value} {y : DataW H × List MemPlace} (hl : cs.length = 1) (h : DataW.trod enc Try.prog w base (fun _ => true) held n 24 cs = some y) : ∃ x, ForestE w cs x ∧ ForestIn x :=
  openForest_gen Try.underlying24 rfl (by kernel_rfl) (fun _ _ _ h => (rowC_of_trod (E := PartE) (In := PartIn) (sz := 5) Try.underlying22 (by kernel_rfl) (by decide) (fun n cs y hl h => openPart hl h) h).imp fun _ h => ⟨h.1, h.2⟩) hl h

set_option maxRecDepth 100000 in
theorem forestArg_of {H : Type} {enc : TypeId × Value → H} {w : World} {base : Nat} {held : Bool} {r : Reach} {b0 : Nat} {v : Value} {d : DataW H} {p : List MemPlace}
    (hv : Value.okWide Try.prog w r b0 24 v) (h : DataW.Trod enc Try.prog w base (fun _ => true) held 24 v d p) : ∃ u xs, v = .agg #[u] ∧ RowC 5 PartE w u xs ∧ ForestIn xs := by
  obtain ⟨cs, rfl, hsz⟩ := WideShapes.okWide_struct Try.underlying24 hv
  have hC : Try.prog.cellsOf 24 = 1 := by kernel_rfl
  obtain ⟨u, rfl⟩ := one_cellA (hsz.trans hC)
  obtain ⟨fuel, hf⟩ := h
  obtain ⟨x, ⟨u', e, hx⟩, hin⟩ := openForest (cs := [u]) rfl hf
  cases e
  exact ⟨u, x, rfl, hx, hin⟩

end Go.Proofs.Ytpcfcheicdnogaa
