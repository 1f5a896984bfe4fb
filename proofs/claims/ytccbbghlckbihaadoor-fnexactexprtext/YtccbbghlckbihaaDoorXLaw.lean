/- The exact laws on ExprOk and EvalExpr, walked out of contracts, the program's own contracts handed in. -/
import Derived.Test.YtccbbghlckbihaaDoorXKit3
namespace Go.Proofs.YtccbbghlckbihaaDoor
open Go.RowKit

theorem nIn_of {ns : List NodeD} {r left : Int} (hl : left ≤ 1048576) (h : 0 ≤ r ∧ r + ns.length + totN ns = left) (hb : ∀ x ∈ ns, NodeIn x) : NIn ns :=
  ⟨by omega, fun x hx => by
    have h1 := totN_mem hx
    have h2 := hb x hx
    exact ⟨by omega, by omega, h2.1, h2.2.1, h2.2.2.2.2⟩⟩
theorem NIn.kids {ns : List NodeD} (h : NIn ns) : ∀ x ∈ ns, x.kids.length ≤ 1048576 := fun x hx => (h.2 x hx).2.1

theorem keep2 {W W' : World} {a b : Addr} {x y : Value} (h : W.cell? a = some x ∧ W.cell? b = some y) (hb : Below W.heap.size W W') : W'.cell? a = some x ∧ W'.cell? b = some y :=
  ⟨cell_keep h.1 hb, cell_keep h.2 hb⟩



/-- An expression that came in as an argument. -/
theorem exArg_of {H : Type} {enc : TypeId × Value → H} {P : Program} {w : World} {base : Nat} {held : Bool} {r : Reach} {b0 : Nat} {s e : TypeId} {g0 f0 f1 f2 f3 : Field} {ke : TypeId} {v : Value} {d : DataW H} {p : List MemPlace} (hs : P.underlying s = some (.struct #[g0])) (hC : P.cellsOf s = 1) (go : g0.offset = 0) (gc : P.cellsOf g0.type = 1)
    (ht : P.underlying g0.type = some (.slice e)) (he : P.underlying e = some (.struct #[f0, f1, f2, f3]))
    (ce : P.cellsOf e = 4) (o0 : f0.offset = 0) (o1 : f1.offset = 1) (o2 : f2.offset = 2) (o3 : f3.offset = 3) (c0 : P.cellsOf f0.type = 1) (c1 : P.cellsOf f1.type = 1) (c2 : P.cellsOf f2.type = 1) (c3 : P.cellsOf f3.type = 1)
    (u0 : P.underlying f0.type = some (.int .i64)) (u1 : P.underlying f1.type = some (.int .i64)) (u2 : P.underlying f2.type = some .string) (u3 : P.underlying f3.type = some (.slice ke)) (uk : P.underlying ke = some (.int .i64)) (ck : P.cellsOf ke = 1)
    (hv : Value.okWide P w r b0 s v) (h : DataW.Trod enc P w base (fun _ => true) held s v d p) : ∃ u ns, v = .agg #[u] ∧ NArg w u ns := by
  obtain ⟨cs, rfl, hsz⟩ := WideShapes.okWide_struct hs hv
  obtain ⟨u, rfl⟩ : ∃ u, cs = #[u] := by
    have h1 : cs.size = 1 := hsz.trans hC
    exact ⟨cs[0], by apply Array.ext; · simp [h1]
                     · intro i h2 h3; have : i = 0 := by omega
                       subst this; rfl⟩
  obtain ⟨fuel, hf⟩ := h
  obtain ⟨xs, k, hk, hxy, _, hxl, hff⟩ := DataW.trod_struct hs hf
  match xs, hxl with
  | [y0], _ =>
    have g := hff 0 g0 rfl
    simp [go, gc, Value.cells] at g
    obtain ⟨ns, hn⟩ := nArg_of_trod ht he ce o0 o1 o2 o3 c0 c1 c2 c3 u0 u1 u2 u3 uk ck g
    exact ⟨u, ns, rfl, hn⟩

end Go.Proofs.YtccbbghlckbihaaDoor
