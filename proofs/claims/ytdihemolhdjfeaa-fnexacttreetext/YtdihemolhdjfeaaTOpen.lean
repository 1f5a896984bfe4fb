/- Trees opened as arguments (printed by mk/kitset.py). -/
import Derived.Test.YtdihemolhdjfeaaTData
import Derived.Test.YtdihemolhdjfeaaGOpen
namespace Go.Proofs.Ytdihemolhdjfeaa
open Go.RowKit

theorem openTreeNode_gen {H : Type} {enc : TypeId × Value → H} {P : Program} {w : World} {base : Nat} {held : Bool} {e : TypeId} {f0 f1 f2 f3 f4 f5 : Field} (he : P.underlying e = some (.struct #[f0, f1, f2, f3, f4, f5])) (o0 : f0.offset = 0) (o1 : f1.offset = 1) (o2 : f2.offset = 2) (o3 : f3.offset = 3) (o4 : f4.offset = 4) (o5 : f5.offset = 5) (c0 : P.cellsOf f0.type = 1) (c1 : P.cellsOf f1.type = 1) (c2 : P.cellsOf f2.type = 1) (c3 : P.cellsOf f3.type = 1) (c4 : P.cellsOf f4.type = 1) (c5 : P.cellsOf f5.type = 1) (u0 : P.underlying f0.type = some (.int .i64)) (u1 : P.underlying f1.type = some (.int .i64)) (u2 : ∀ (n : Nat) (v : Value) (y : DataW H × List MemPlace), DataW.trod enc P w base (fun _ => true) held n f2.type [v] = some y → ∃ x, IRow w v x ∧ RowInn i64 x) (u3 : P.underlying f3.type = some (.int .i64)) (u4 : P.underlying f4.type = some (.int .i64)) (u5 : ∀ (n : Nat) (v : Value) (y : DataW H × List MemPlace), DataW.trod enc P w base (fun _ => true) held n f5.type [v] = some y → ∃ x, IRow w v x ∧ RowInn i64 x)
    {n : Nat} {cs : List Value} {y : DataW H × List MemPlace} (hl : cs.length = 6) (h : DataW.trod enc P w base (fun _ => true) held n e cs = some y) : ∃ x, TreeNodeE w cs x ∧ TreeNodeIn x := by
  obtain ⟨xs, k, hk, hxy, _, hxl, hf⟩ := DataW.trod_struct he h
  match xs, hxl, cs, hl with
  | [y0, y1, y2, y3, y4, y5], _, [v0, v1, v2, v3, v4, v5], _ =>
    have g0 := hf 0 f0 rfl
    have g1 := hf 1 f1 rfl
    have g2 := hf 2 f2 rfl
    have g3 := hf 3 f3 rfl
    have g4 := hf 4 f4 rfl
    have g5 := hf 5 f5 rfl
    simp [o0, o1, o2, o3, o4, o5, c0, c1, c2, c3, c4, c5] at g0 g1 g2 g3 g4 g5
    obtain ⟨z0, e0, _, hz0⟩ := DataW.trod_int u0 g0
    obtain rfl : v0 = .int .i64 z0 := by simpa using e0
    obtain ⟨z1, e1, _, hz1⟩ := DataW.trod_int u1 g1
    obtain rfl : v1 = .int .i64 z1 := by simpa using e1
    obtain ⟨x2, hx2, hi2⟩ := u2 _ _ _ g2
    obtain ⟨z3, e3, _, hz3⟩ := DataW.trod_int u3 g3
    obtain rfl : v3 = .int .i64 z3 := by simpa using e3
    obtain ⟨z4, e4, _, hz4⟩ := DataW.trod_int u4 g4
    obtain rfl : v4 = .int .i64 z4 := by simpa using e4
    obtain ⟨x5, hx5, hi5⟩ := u5 _ _ _ g5
    exact ⟨⟨z0, z1, x2, z3, z4, x5⟩, ⟨v2, v5, rfl, hx2, hx5⟩, bounds_i64 hz0, bounds_i64 hz1, hi2, bounds_i64 hz3, bounds_i64 hz4, hi5⟩
theorem openTreeNode {H : Type} {enc : TypeId × Value → H} {w : World} {base : Nat} {held : Bool} {n : Nat} {cs : List Value} {y : DataW H × List MemPlace} (hl : cs.length = 6) (h : DataW.trod enc Try.prog w base (fun _ => true) held n 76 cs = some y) : ∃ x, TreeNodeE w cs x ∧ TreeNodeIn x :=
  openTreeNode_gen Try.underlying76 rfl rfl rfl rfl rfl rfl (by kernel_rfl) (by kernel_rfl) (by kernel_rfl) (by kernel_rfl) (by kernel_rfl) (by kernel_rfl) Try.underlying3 Try.underlying3 (fun _ _ _ h => (iRow_of_trod Try.underlying47 Try.underlying3 (by kernel_rfl) h).imp fun _ h => ⟨h.1, h.2⟩) Try.underlying3 Try.underlying3 (fun _ _ _ h => (iRow_of_trod Try.underlying47 Try.underlying3 (by kernel_rfl) h).imp fun _ h => ⟨h.1, h.2⟩) hl h

theorem openTree_gen {H : Type} {enc : TypeId × Value → H} {P : Program} {w : World} {base : Nat} {held : Bool} {e : TypeId} {f0 : Field} (he : P.underlying e = some (.struct #[f0])) (o0 : f0.offset = 0) (c0 : P.cellsOf f0.type = 1) (u0 : ∀ (n : Nat) (v : Value) (y : DataW H × List MemPlace), DataW.trod enc P w base (fun _ => true) held n f0.type [v] = some y → ∃ x, RowC 6 TreeNodeE w v x ∧ RowInn TreeNodeIn x)
    {n : Nat} {cs : List Value} {y : DataW H × List MemPlace} (hl : cs.length = 1) (h : DataW.trod enc P w base (fun _ => true) held n e cs = some y) : ∃ x, TreeE w cs x ∧ TreeIn x := by
  obtain ⟨xs, k, hk, hxy, _, hxl, hf⟩ := DataW.trod_struct he h
  match xs, hxl, cs, hl with
  | [y0], _, [v0], _ =>
    have g0 := hf 0 f0 rfl
    simp [o0, c0] at g0
    obtain ⟨x0, hx0, hi0⟩ := u0 _ _ _ g0
    exact ⟨x0, ⟨v0, rfl, hx0⟩, hi0⟩
theorem openTree {H : Type} {enc : TypeId × Value → H} {w : World} {base : Nat} {held : Bool} {n : Nat} {cs : List Value} {y : DataW H × List MemPlace} (hl : cs.length = 1) (h : DataW.trod enc Try.prog w base (fun _ => true) held n 27 cs = some y) : ∃ x, TreeE w cs x ∧ TreeIn x :=
  openTree_gen Try.underlying27 rfl (by kernel_rfl) (fun _ _ _ h => (rowC_of_trod (E := TreeNodeE) (In := TreeNodeIn) (sz := 6) Try.underlying25 (by kernel_rfl) (by decide) (fun n cs y hl h => openTreeNode hl h) h).imp fun _ h => ⟨h.1, h.2⟩) hl h

set_option maxRecDepth 100000 in
theorem treeArg_of {H : Type} {enc : TypeId × Value → H} {w : World} {base : Nat} {held : Bool} {r : Reach} {b0 : Nat} {v : Value} {d : DataW H} {p : List MemPlace}
    (hv : Value.okWide Try.prog w r b0 27 v) (h : DataW.Trod enc Try.prog w base (fun _ => true) held 27 v d p) : ∃ u xs, v = .agg #[u] ∧ RowC 6 TreeNodeE w u xs ∧ TreeIn xs := by
  obtain ⟨cs, rfl, hsz⟩ := WideShapes.okWide_struct Try.underlying27 hv
  have hC : Try.prog.cellsOf 27 = 1 := by kernel_rfl
  obtain ⟨u, rfl⟩ := one_cellA (hsz.trans hC)
  obtain ⟨fuel, hf⟩ := h
  obtain ⟨x, ⟨u', e, hx⟩, hin⟩ := openTree (cs := [u]) rfl hf
  cases e
  exact ⟨u, x, rfl, hx, hin⟩

end Go.Proofs.Ytdihemolhdjfeaa
