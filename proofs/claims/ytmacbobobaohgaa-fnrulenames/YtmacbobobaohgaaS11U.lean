/- All readers of an expression, tied together by the fuel; whole. -/
/- The specification's reader: whole: an expression of its own. -/
/- Nodes of a grammar with groups, as the reader keeps them; put. -/
/- The specification's reader: put. -/
/- What the readers of calls, things, rows and alternatives leave of the reader: in pure terms. -/
/- The specification's reader: call (printed by mk/s11u.py). -/
import Derived.Test.YtmacbobobaohgaaS11L
import Derived.Test.YtmacbobobaohgaaS11H
namespace Go.Proofs.Ytmacbobobaohgaa
open Go.RowKit
set_option linter.unusedVariables false

/-- All six at every fuel up to g. -/
structure AllC (g : Nat) : Prop where
  one : ExC g .one 89
  simple : ExC g .simple 88
  product : ExC g .product 86
  sum : ExC g .sum 82
  cmp : ExC g .cmp 79
  expr : ExC g .expr 75
theorem exC_zero (m : Md) (fn : FuncId) (h : 1 ≤ rankM m) : ExC 0 m fn := by
  intro B X p bo lv ov tk r o ns w ha _
  have := ha.need
  omega
theorem allC : ∀ g, AllC g := by
  intro g
  induction g using Nat.strongRecOn with
  | ind g ih =>
    match g, ih with
    | 0, _ => exact ⟨exC_zero _ _ (by decide), exC_zero _ _ (by decide), exC_zero _ _ (by decide), exC_zero _ _ (by decide), exC_zero _ _ (by decide), exC_zero _ _ (by decide)⟩
    | g + 1, ih =>
      have h := ih g (Nat.lt_succ_self g)
      exact ⟨one_C g h.simple h.expr, simple_C g h.one, product_C g (fun f hf => (ih f (by omega)).simple), sum_C g (fun f hf => (ih f (by omega)).product), cmp_C g h.sum, expr_C g (fun f hf => (ih f (by omega)).cmp)⟩

end Go.Proofs.Ytmacbobobaohgaa

namespace Go.Proofs.Ytmacbobobaohgaa
open Go.RowKit
set_option linter.unusedVariables false

/-- The reader behind its pointer, its tokens below it. -/
structure RdS (B p : Nat) (lv ov : Value) (tk : List TokD) (r : RdD) (w : World) : Prop where
  rd : RdB p lv ov r w
  tok : RowC 2 TokV w lv tk
  pB : B ≤ p
  low : ∀ b o n c, lv = .slice (some ⟨b, o, none⟩) n c → b < B
theorem RdS.lt {B p : Nat} {lv ov : Value} {tk : List TokD} {r : RdD} {w : World} (h : RdS B p lv ov tk r w) : B ≤ w.heap.size := Nat.le_trans h.pB (Nat.le_of_lt (rdb_lt h.rd))
theorem RdS.next {ts : List TypeId} {B p : Nat} {lv ov ov' : Value} {tk : List TokD} {r r' : RdD} {w w' : World} (h : RdS B p lv ov tk r w) (hr : RdB p lv ov' r' w') (hf : FrT ts B w w') : RdS B p lv ov' tk r' w' :=
  ⟨hr, tok_fr h.tok h.low hf.bel, h.pB, h.low⟩
theorem RdS.go {B p : Nat} {lv ov ov' : Value} {tk : List TokD} {r r' : RdD} {w w' : World} (h : RdS B p lv ov tk r w) (hr : RdB p lv ov' r' w') (hb : Below B w w') : RdS B p lv ov' tk r' w' :=
  ⟨hr, tok_fr h.tok h.low hb, h.pB, h.low⟩
theorem RdS.below {B p : Nat} {lv ov : Value} {tk : List TokD} {r : RdD} {w w' : World} (h : RdS B p lv ov tk r w) (hb : Below w.heap.size w w') : RdS B p lv ov tk r w' :=
  h.next ((hb.block p (rdb_lt h.rd)).trans h.rd) (FrT.below (ts := []) hb h.lt)
/-- What tokens are asked to be. -/
structure Tk200 (tk : List TokD) : Prop where
  len : tk.length ≤ 200
  num : ∀ x ∈ tk, x.kind = 2 → x.text.size ≤ 2

set_option maxHeartbeats 3200000 in
set_option maxRecDepth 100000 in
theorem whole_any {B p : Nat} {lv ov : Value} {tk : List TokD} {r : RdD} (w : World) (hT : Tk200 tk) (hat : r.at_ ≤ tk.length) (hd0 : -900000 ≤ r.deep) (hd1 : r.deep ≤ 900000) (h : RdS B p lv ov tk r w) :
    Calls Try.prog 70 #[.pointer (some ⟨p, 0, none⟩)] w fun e w' => ∃ nv, e = .returned (.agg #[nv]) ∧ RdB p lv ov (wholeR tk r).1 w' ∧ NodesO w.heap.size nv (wholeR tk r).2 w' ∧ FrR B w w' := by
  have hBw := h.lt
  have hpw := rdb_lt h.rd
  have hl := hT.len
  have HA : Hid (Ask tk 4000 .expr r []) := ⟨by omega, hat, by simp only [rankM]; omega, by simp only [List.length_nil]; omega, by omega, by omega, hT.num⟩
  have HW : Hid (∀ _ : Unit, wholeR tk r = ((exF tk 4000 .expr r [] 0).1, (exF tk 4000 .expr r [] 0).2.1)) := fun _ => rfl
  have bal : Hid (Below w.heap.size w (((w.alloc (.cells #[.slice none 0 0] 71)).alloc (.cells #[] 94)).alloc (.cells #[.slice (some ⟨w.heap.size + 1, 0, none⟩) 0 0] 69))) := (((Below.refl _ _).alloc (Nat.le_refl _) _).alloc (by simp) _).alloc (by simp; omega) _
  have hR0 : RdS B p lv ov tk r (((w.alloc (.cells #[.slice none 0 0] 71)).alloc (.cells #[] 94)).alloc (.cells #[.slice (some ⟨w.heap.size + 1, 0, none⟩) 0 0] 69)) := h.below bal.out
  have hs1 : (w.alloc (.cells #[.slice none 0 0] 71)).heap.size = w.heap.size + 1 := by simp
  have hs2 : ((w.alloc (.cells #[.slice none 0 0] 71)).alloc (.cells #[] 94)).heap.size = w.heap.size + 2 := by simp
  have HRes : Hid ((((w.alloc (.cells #[.slice none 0 0] 71)).alloc (.cells #[] 94)).alloc (.cells #[.slice (some ⟨w.heap.size + 1, 0, none⟩) 0 0] 69)).heap[w.heap.size]? = some (.cells #[.slice none 0 0] 71 (0, 0))) := by
    rw [Hid, Below.heap_alloc _ _ _ (by simp; omega), Below.heap_alloc _ _ _ (by simp)]
    exact heap_alloc_new w _
  have HBx : Hid (Box11 (w.heap.size + 2) (.slice (some ⟨w.heap.size + 1, 0, none⟩) 0 0) (((w.alloc (.cells #[.slice none 0 0] 71)).alloc (.cells #[] 94)).alloc (.cells #[.slice (some ⟨w.heap.size + 1, 0, none⟩) 0 0] 69))) := by
    rw [Hid, Box11, ← hs2]
    exact heap_alloc_new _ _
  have hN0 : NodesO w.heap.size (.slice (some ⟨w.heap.size + 1, 0, none⟩) 0 0) [] ((w.alloc (.cells #[.slice none 0 0] 71)).alloc (.cells #[] 94)) := by
    have := RowO.made (sz := 4) (T := 94) (E := NodV w.heap.size) (B := w.heap.size) (w := w.alloc (.cells #[.slice none 0 0] 71)) (by simp)
    rw [hs1] at this
    exact this
  have HS : Hid (ExS B w.heap.size p (w.heap.size + 2) lv ov tk r (.slice (some ⟨w.heap.size + 1, 0, none⟩) 0 0) [] (((w.alloc (.cells #[.slice none 0 0] 71)).alloc (.cells #[] 94)).alloc (.cells #[.slice (some ⟨w.heap.size + 1, 0, none⟩) 0 0] 69))) :=
    ⟨hR0.rd, HBx.out, NodesO.below hN0 ((Below.refl _ _).alloc (Nat.le_refl _) _), hR0.tok, h.pB, by omega, hBw, h.low⟩
  have HC : Hid (∀ _ : Unit, _) := fun _ => (allC 4000).expr B w.heap.size p (w.heap.size + 2) lv ov tk r _ [] _ HA.out HS.out
  clear h hR0 hN0 hs1 hs2 HS
  generalize exF tk 4000 .expr r [] 0 = q at *
  go_enter Try.func70, Try.ntmps70
  go_wp2_with fail
  generalize ((w.alloc (.cells #[.slice none 0 0] 71)).alloc (.cells #[] 94)).alloc (.cells #[.slice (some ⟨w.heap.size + 1, 0, none⟩) 0 0] 69) = W3 at *
  refine (HC.out ()).mono ?_
  rintro e w4 ⟨rfl, o4, h1, h2⟩
  obtain ⟨ao, co, rfl⟩ := RowO.slice h1.nd
  have hr4 : w4.heap[w.heap.size]? = some (.cells #[.slice none 0 0] 71 (0, 0)) := h2.fr.typ _ _ _ _ HRes.out (by decide)
  have c4 : w4.cell? ⟨w.heap.size + 2, 0, none⟩ = some (.slice ao q.2.1.length co) := run_cell h1.bx rfl
  have d4 : w4.cell? ⟨w.heap.size, 0, none⟩ = some (.slice none 0 0) := run_cell hr4 rfl
  have z4 : w4.frozen? ⟨w.heap.size, 0, none⟩ = false := run_frozen hr4
  have f1 : (w4.setCell ⟨w.heap.size, 0, none⟩ (.slice ao q.2.1.length co)).cell? ⟨w.heap.size, 0, none⟩ = some (.slice ao q.2.1.length co) := run_cell (setCell_self _ hr4) rfl
  have HN : Hid (NodesO w.heap.size (.slice ao q.2.1.length co) q.2.1 (w4.setCell ⟨w.heap.size, 0, none⟩ (.slice ao q.2.1.length co))) := nodesO_fr h1.nd (fr_set (ts := [71]) _ hr4 (by simp) (Nat.le_refl _)) (by decide) (by decide)
  have HRd : Hid (RdB p lv ov q.1 (w4.setCell ⟨w.heap.size, 0, none⟩ (.slice ao q.2.1.length co))) := by
    rw [Hid, RdB, setCell_other _ (by omega)]
    exact h1.rd
  have HF : Hid (FrR B w (w4.setCell ⟨w.heap.size, 0, none⟩ (.slice ao q.2.1.length co))) := by
    refine ⟨((bal.out.mono hBw).trans h2.fr.bel).setCell hBw _, fun k c t fr hk ht => ?_⟩
    have hlt := (Array.getElem?_eq_some_iff.1 hk).1
    rw [setCell_other _ (by omega)]
    exact h2.old k c t fr hlt ((bal.out.block k hlt).trans hk) (by simpa using ht)
  clear h1 h2 hr4 HC
  go_wp2
  refine bodyPost_ret (by simp [results, Try.results70, go_sem, f1]; try rfl) rfl ?_
  rw [HW.out ()]
  exact ⟨_, rfl, HRd.out, HN.out, HF.out⟩

end Go.Proofs.Ytmacbobobaohgaa

namespace Go.Proofs.Ytmacbobobaohgaa
open Go.RowKit
set_option linter.unusedVariables false

def ExV (B : Nat) (w : World) (vs : List Value) (e : List NodeD) : Prop := ∃ nv : Value, vs = [nv] ∧ NodesO B nv e w
def ArgsO (B : Nat) (v : Value) (es : List (List NodeD)) (w : World) : Prop := RowO 1 71 (ExV B) B v es w
/-- The same, where no row of kids lies in one of the blocks A. -/
def NodVA (A : Nat → Prop) (B : Nat) (w : World) (vs : List Value) (x : NodeD) : Prop := ∃ kv : Value, vs = [.int .i64 x.op, .int .i64 x.num, .string x.name, kv] ∧ OwnZ B kv x.kids w ∧ ∀ k, kv.ownBlock = some k → ¬ A k
def NodesA (A : Nat → Prop) (B : Nat) (v : Value) (ns : List NodeD) (w : World) : Prop := RowO 4 94 (NodVA A B) B v ns w
def ExVA (A : Nat → Prop) (B : Nat) (w : World) (vs : List Value) (e : List NodeD) : Prop := ∃ nv : Value, vs = [nv] ∧ NodesA A B nv e w
def ArgsA (A : Nat → Prop) (B : Nat) (v : Value) (es : List (List NodeD)) (w : World) : Prop := RowO 1 71 (ExVA A B) B v es w
/-- A node; the rows of its kids, and of its expressions' kids, lie in none of the blocks A. -/
def SnV (A : Nat → Prop) (B : Nat) (w : World) (vs : List Value) (x : SNodeD) : Prop := ∃ av kv : Value, vs = [.int .i64 x.kind, .string x.text, av, .string x.bind, kv] ∧ ArgsA A B av x.args w ∧ OwnZ B kv x.kids w ∧ ∀ k, kv.ownBlock = some k → ¬ A k
def SNodesO (A : Nat → Prop) (B : Nat) (v : Value) (xs : List SNodeD) (w : World) : Prop := RowO 5 100 (SnV A B) B v xs w
abbrev FrS (B : Nat) (w w' : World) : Prop := FrT [80, 100] B w w'
section
variable {ts : List TypeId} {A A' : Nat → Prop} {B B' : Nat} {v : Value} {w w' : World}
theorem exV_fr {vs : List Value} {e : List NodeD} (h : ExV B w vs e) (hf : FrT ts B' w w') (h1 : 3 ∉ ts) (h2 : 94 ∉ ts) : ExV B w' vs e := by
  obtain ⟨nv, e1, h⟩ := h
  exact ⟨nv, e1, nodesO_fr h hf h1 h2⟩
theorem args_fr {es : List (List NodeD)} (h : ArgsO B v es w) (hf : FrT ts B' w w') (h1 : 3 ∉ ts) (h2 : 94 ∉ ts) (h3 : 71 ∉ ts) : ArgsO B v es w' :=
  RowO.world h (fun _ _ h4 => own_frT h4 hf h3) (fun _ _ hx => exV_fr hx hf h1 h2)
theorem nodesO_base {ns : List NodeD} (h : NodesO B v ns w) (hB : B' ≤ B) : NodesO B' v ns w := by
  have := RowO.base h hB
  exact RowO.world (E := NodV B') (by
    obtain ⟨vss, a, b, c, d⟩ := this
    exact ⟨vss, a, b, c, fun i hi hi' => by
      obtain ⟨kv, e, hk⟩ := d i hi hi'
      exact ⟨kv, e, OwnZ.base hk hB⟩⟩) (fun _ _ h => h) (fun _ _ h => h)
theorem args_base {es : List (List NodeD)} (h : ArgsO B v es w) (hB : B' ≤ B) : ArgsO B' v es w := by
  obtain ⟨vss, a, b, c, d⟩ := RowO.base h hB
  exact ⟨vss, a, b, c, fun i hi hi' => by
    obtain ⟨nv, e, hk⟩ := d i hi hi'
    exact ⟨nv, e, nodesO_base hk hB⟩⟩
theorem nodVA_fr {vs : List Value} {x : NodeD} (h : NodVA A B w vs x) (hf : FrT ts B' w w') (h1 : 3 ∉ ts) : NodVA A B w' vs x := by
  obtain ⟨kv, e, hk, hA⟩ := h
  exact ⟨kv, e, ownZ_fr hk hf h1, hA⟩
theorem nodesA_fr {ns : List NodeD} (h : NodesA A B v ns w) (hf : FrT ts B' w w') (h1 : 3 ∉ ts) (h2 : 94 ∉ ts) : NodesA A B v ns w' :=
  RowO.world h (fun _ _ h4 => own_frT h4 hf h2) (fun _ _ hx => nodVA_fr hx hf h1)
theorem exVA_fr {vs : List Value} {e : List NodeD} (h : ExVA A B w vs e) (hf : FrT ts B' w w') (h1 : 3 ∉ ts) (h2 : 94 ∉ ts) : ExVA A B w' vs e := by
  obtain ⟨nv, e1, h⟩ := h
  exact ⟨nv, e1, nodesA_fr h hf h1 h2⟩
theorem argsA_fr {es : List (List NodeD)} (h : ArgsA A B v es w) (hf : FrT ts B' w w') (h1 : 3 ∉ ts) (h2 : 94 ∉ ts) (h3 : 71 ∉ ts) : ArgsA A B v es w' :=
  RowO.world h (fun _ _ h4 => own_frT h4 hf h3) (fun _ _ hx => exVA_fr hx hf h1 h2)
theorem argsA_below {es : List (List NodeD)} (h : ArgsA A B v es w) (hb : Below w.heap.size w w') : ArgsA A B v es w' :=
  argsA_fr (ts := []) h (FrT.below (B := 0) hb (Nat.zero_le _)) (by simp) (by simp) (by simp)
/-- What lies from B on lies in none of the blocks below it. -/
theorem argsA_of {es : List (List NodeD)} (h : ArgsO B v es w) (hB : B' ≤ B) (hA : ∀ b, A b → b < B) : ArgsA A B' v es w := by
  obtain ⟨vss, a, b, c, d⟩ := RowO.base h hB
  refine ⟨vss, a, b, c, fun i hi hi' => ?_⟩
  obtain ⟨nv, e, hk⟩ := d i hi hi'
  refine ⟨nv, e, ?_⟩
  obtain ⟨vss2, a2, b2, c2, d2⟩ := hk
  obtain ⟨_, _, _, c3, _⟩ := RowO.base (sz := 4) (T := 94) (E := NodV B) ⟨vss2, a2, b2, c2, d2⟩ hB
  refine ⟨vss2, a2, b2, ⟨c2.1, ?_⟩, fun k hk hk' => ?_⟩
  · rcases c2.2 with hn | ⟨g, cap, cur, e2, hg, r⟩
    · exact .inl hn
    · exact .inr ⟨g, cap, cur, e2, Nat.le_trans hB hg, r⟩
  · obtain ⟨kv, e2, hz⟩ := d2 k hk hk'
    exact ⟨kv, e2, OwnZ.base hz hB, fun q hq hAq => by
      have h1 := (World.ownsRow.lt hz q hq).1
      have h2 := hA q hAq
      omega⟩
theorem argsA_nil (A : Nat → Prop) (B : Nat) (w : World) : ArgsA A B (.slice none 0 0) [] w := RowO.nil
theorem argsA_away {es : List (List NodeD)} (h : ArgsA A B v es w) (hA : ∀ k, k < w.heap.size → A' k → A k) : ArgsA A' B v es w := by
  obtain ⟨vss, a, b, c, d⟩ := h
  refine ⟨vss, a, b, c, fun i hi hi' => ?_⟩
  obtain ⟨nv, e, vss2, a2, b2, c2, d2⟩ := d i hi hi'
  refine ⟨nv, e, vss2, a2, b2, c2, fun k hk hk' => ?_⟩
  obtain ⟨kv, e2, hz, hn⟩ := d2 k hk hk'
  exact ⟨kv, e2, hz, fun q hq hA' => hn q hq (hA q (World.ownsRow.lt hz q hq).2 hA')⟩
theorem snV_fr {vs : List Value} {x : SNodeD} (h : SnV A B w vs x) (hf : FrT ts B' w w') (h1 : 3 ∉ ts) (h2 : 94 ∉ ts) (h3 : 71 ∉ ts) : SnV A B w' vs x := by
  obtain ⟨av, kv, e, ha, hk, hA⟩ := h
  exact ⟨av, kv, e, argsA_fr ha hf h1 h2 h3, ownZ_fr hk hf h1, hA⟩
theorem sNodes_fr {xs : List SNodeD} (h : SNodesO A B v xs w) (hf : FrT ts B' w w') (h1 : 3 ∉ ts) (h2 : 94 ∉ ts) (h3 : 71 ∉ ts) (h4 : 100 ∉ ts) : SNodesO A B v xs w' :=
  RowO.world h (fun _ _ h5 => own_frT h5 hf h4) (fun _ _ hx => snV_fr hx hf h1 h2 h3)
theorem sNodes_below {xs : List SNodeD} (h : SNodesO A B v xs w) (hb : Below w.heap.size w w') : SNodesO A B v xs w' :=
  sNodes_fr (ts := []) h (FrT.below (B := 0) hb (Nat.zero_le _)) (by simp) (by simp) (by simp) (by simp)
/-- Other blocks that the kids' rows do not lie in. -/
theorem sNodes_away {xs : List SNodeD} (h : SNodesO A B v xs w) (hA : ∀ k, k < w.heap.size → A' k → A k) : SNodesO A' B v xs w := by
  obtain ⟨vss, a, b, c, d⟩ := h
  refine ⟨vss, a, b, c, fun i hi hi' => ?_⟩
  obtain ⟨av, kv, e, ha, hk, hn⟩ := d i hi hi'
  exact ⟨av, kv, e, argsA_away ha hA, hk, fun k hk2 hA' => hn k hk2 (hA k (World.ownsRow.lt hk k hk2).2 hA')⟩
theorem args_below {es : List (List NodeD)} (h : ArgsO B v es w) (hb : Below w.heap.size w w') : ArgsO B v es w' :=
  args_fr (ts := []) h (FrT.below (B := 0) hb (Nat.zero_le _)) (by simp) (by simp) (by simp)
theorem args_nil (B : Nat) (w : World) : ArgsO B (.slice none 0 0) [] w := RowO.nil
end
/-- A row of numbers that is one of A has grown. -/
theorem sNodes_grown {A : Nat → Prop} {B : Nat} {v : Value} {xs : List SNodeD} {w w' : World} {kb : Option Nat} (h : SNodesO A B v xs w) (hg : w.grownBy w' kb) (hA : ∀ b, kb = some b → A b) (hI : ∀ b, kb = some b → ∃ c fr, w.heap[b]? = some (.cells c 3 fr)) : SNodesO A B v xs w' := by
  have off : ∀ {e : TypeId} {s n : Nat} {u : Value} {cs : List Value}, w.ownsRow B e s u n cs → e ≠ 3 → w'.ownsRow B e s u n cs := fun {e s n u cs} h1 hne => by
    refine World.ownsRow.kept h1 hg ?_
    cases kb with
    | none =>
      by_cases hu : u.ownBlock = none
      · exact .inl (by rw [hu])
      · exact .inr hu
    | some b =>
      obtain ⟨c, fr, hc⟩ := hI b rfl
      exact .inr (own_offT h1 hc hne)
  have intr : ∀ {u : Value} {ks : List Int}, OwnZ B u ks w → (∀ k, u.ownBlock = some k → ¬ A k) → OwnZ B u ks w' := fun {u ks} h1 hn => by
    refine World.ownsRow.kept h1 hg ?_
    cases kb with
    | none =>
      by_cases hu : u.ownBlock = none
      · exact .inl (by rw [hu])
      · exact .inr hu
    | some b => exact .inr (fun e => hn b e (hA b rfl))
  obtain ⟨vss, a, b, c, d⟩ := h
  refine ⟨vss, a, b, off c (by decide), fun i hi hi' => ?_⟩
  obtain ⟨av, kv, e, ⟨vs2, a2, b2, c2, d2⟩, hk, hn⟩ := d i hi hi'
  refine ⟨av, kv, e, ⟨vs2, a2, b2, off c2 (by decide), fun j hj hj' => ?_⟩, intr hk hn, hn⟩
  obtain ⟨nv, e2, vs3, a3, b3, c3, d3⟩ := d2 j hj hj'
  refine ⟨nv, e2, vs3, a3, b3, off c3 (by decide), fun k hk2 hk3 => ?_⟩
  obtain ⟨kv2, e3, hz, hn2⟩ := d3 k hk2 hk3
  exact ⟨kv2, e3, intr hz hn2, hn2⟩
theorem Try.infoSNode : (Try.prog.info? 100).map (fun i => (i.zero, i.size, i.bytes)) = some (some (.agg #[.int .i64 0, .string ⟨#[]⟩, .slice none 0 0, .string ⟨#[]⟩, .slice none 0 0]), 5, 88) := by kernel_rfl
theorem five11 (a : Int) (s t : ByteArray) (o o' : Option Addr) (l c l' c' : Nat) : ∀ u ∈ [Value.int .i64 a, .string s, .slice o l c, .string t, .slice o' l' c'], u.oneCell' = true := by
  intro u hu
  simp only [List.mem_cons, List.not_mem_nil, or_false] at hu
  rcases hu with rfl | rfl | rfl | rfl | rfl <;> rfl
theorem rdb_alloc {p : Nat} {lv ov : Value} {r : RdD} {w : World} (h : RdB p lv ov r w) (o : Obj) : RdB p lv ov r (w.alloc o) := by
  rw [RdB, Below.heap_alloc _ _ _ (rdb_lt h)]; exact h
theorem rdb_grown {p : Nat} {lv ov : Value} {r : RdD} {w w' : World} {k : Option Nat} (hg : w.grownBy w' k) (h : RdB p lv ov r w) (hne : k ≠ some p) : RdB p lv ov r w' := by
  rw [RdB, hg.block p (rdb_lt h) (fun e => hne e.symm)]; exact h

end Go.Proofs.Ytmacbobobaohgaa

namespace Go.Proofs.Ytmacbobobaohgaa
open Go.RowKit
set_option linter.unusedVariables false

theorem rdb_out {B p : Nat} {lv ov ov' : Value} {r : RdD} {x : SNodeD} {w : World} (h : RdB p lv ov r w) (hB : B ≤ p) : RdB p lv ov' { r with out := r.out ++ [x] } (w.setCell ⟨p, 4, none⟩ ov') ∧ FrR B w (w.setCell ⟨p, 4, none⟩ ov') :=
  ⟨by rw [RdB, setCell_self _ h]; rfl, fr_set _ h (by simp) hB⟩

set_option maxHeartbeats 6400000 in
set_option maxRecDepth 100000 in
theorem putS_any {A : Nat → Prop} {B p : Nat} {lv ov : Value} {tk : List TokD} {r : RdD} (x : SNodeD) (av kv : Value) (w : World) (hl : r.out.length ≤ 100000) (h : RdS B p lv ov tk r w) (hn : SNodesO A B ov r.out w) (ha : ArgsA A B av x.args w) (hk : OwnZ B kv x.kids w) (hA : ∀ k, kv.ownBlock = some k → ¬ A k) :
    Calls Try.prog 48 #[.pointer (some ⟨p, 0, none⟩), .agg #[.int .i64 x.kind, .string x.text, av, .string x.bind, kv]] w fun e w' => e = .returned (.int .i64 r.out.length) ∧ (∃ ov', RdS B p lv ov' tk (putR r x) w' ∧ SNodesO A B ov' (putR r x).out w') ∧ FrS B w w' := by
  obtain ⟨i0, hi, hz0, hz1, hz2⟩ := info_parts Try.infoSNode
  obtain ⟨ak, ck, rfl⟩ := hk.row.slice
  obtain ⟨aa, ca, rfl⟩ := RowO.slice ha
  obtain ⟨ao, co, rfl⟩ := RowO.slice hn
  have hpw := rdb_lt h.rd
  have hBw := h.lt
  have hpB := h.pB
  have HR0 : Hid (RdS B p lv (.slice ao r.out.length co) tk r w) := h
  have bal : Hid (Below w.heap.size w (w.alloc (.cells #[.int .i64 x.kind, .string x.text, .slice aa x.args.length ca, .string x.bind, .slice ak x.kids.length ck] 100))) := (Below.refl _ _).alloc (Nat.le_refl _) _
  have x0 : (w.alloc (.cells #[.int .i64 x.kind, .string x.text, .slice aa x.args.length ca, .string x.bind, .slice ak x.kids.length ck] 100)).cell? ⟨w.heap.size, 0, none⟩ = some (.int .i64 x.kind) := box10 _ _ _ 0 _ rfl
  have x1 : (w.alloc (.cells #[.int .i64 x.kind, .string x.text, .slice aa x.args.length ca, .string x.bind, .slice ak x.kids.length ck] 100)).cell? ⟨w.heap.size, 1, none⟩ = some (.string x.text) := box10 _ _ _ 1 _ rfl
  have x2 : (w.alloc (.cells #[.int .i64 x.kind, .string x.text, .slice aa x.args.length ca, .string x.bind, .slice ak x.kids.length ck] 100)).cell? ⟨w.heap.size, 2, none⟩ = some (.slice aa x.args.length ca) := box10 _ _ _ 2 _ rfl
  have x3 : (w.alloc (.cells #[.int .i64 x.kind, .string x.text, .slice aa x.args.length ca, .string x.bind, .slice ak x.kids.length ck] 100)).cell? ⟨w.heap.size, 3, none⟩ = some (.string x.bind) := box10 _ _ _ 3 _ rfl
  have x4 : (w.alloc (.cells #[.int .i64 x.kind, .string x.text, .slice aa x.args.length ca, .string x.bind, .slice ak x.kids.length ck] 100)).cell? ⟨w.heap.size, 4, none⟩ = some (.slice ak x.kids.length ck) := box10 _ _ _ 4 _ rfl
  have HR : Hid (RdB p lv (.slice ao r.out.length co) r (w.alloc (.cells #[.int .i64 x.kind, .string x.text, .slice aa x.args.length ca, .string x.bind, .slice ak x.kids.length ck] 100))) := rdb_alloc h.rd _
  have HN : Hid (SNodesO A B (.slice ao r.out.length co) r.out (w.alloc (.cells #[.int .i64 x.kind, .string x.text, .slice aa x.args.length ca, .string x.bind, .slice ak x.kids.length ck] 100))) := sNodes_below hn bal.out
  have HAr : Hid (ArgsA A B (.slice aa x.args.length ca) x.args (w.alloc (.cells #[.int .i64 x.kind, .string x.text, .slice aa x.args.length ca, .string x.bind, .slice ak x.kids.length ck] 100))) := argsA_below ha bal.out
  have HK : Hid (OwnZ B (.slice ak x.kids.length ck) x.kids (w.alloc (.cells #[.int .i64 x.kind, .string x.text, .slice aa x.args.length ca, .string x.bind, .slice ak x.kids.length ck] 100))) := hk.below bal.out
  have HF0 : Hid (FrS B w (w.alloc (.cells #[.int .i64 x.kind, .string x.text, .slice aa x.args.length ca, .string x.bind, .slice ak x.kids.length ck] 100))) := FrT.below bal.out hBw
  have HAw : Hid (∀ k, (Value.slice ak x.kids.length ck).ownBlock = some k → ¬ A k) := hA
  have HP : Hid (∀ _ : Unit, putR r x = { r with out := r.out ++ [x], bad := r.bad || decide (120 < r.out.length + 1) }) := fun _ => rfl
  clear h hn ha hk bal hA
  go_enter Try.func48, Try.ntmps48
  go_wp2_with fail
  generalize hwt : w.alloc (.cells #[.int .i64 x.kind, .string x.text, .slice aa x.args.length ca, .string x.bind, .slice ak x.kids.length ck] 100) = wt at *
  have hszt : w.heap.size < wt.heap.size := by rw [← hwt]; simp
  have HWt : Hid _ := hwt
  clear hwt
  generalize w.heap.size = bx at *
  have cbo : wt.cell? ⟨p, 4, none⟩ = some (.slice ao r.out.length co) := run_cell HR.out rfl
  have fbo : wt.frozen? ⟨p, 4, none⟩ = false := run_frozen HR.out
  obtain ⟨cs, hcs, hsn⟩ := RowO.snoc HN.out
  have HC : Hid (wt.ownsRow B 100 5 (.slice ao r.out.length co) r.out.length cs) := hcs
  have HSn : Hid _ := hsn
  have HNe : Hid ((Value.slice ao r.out.length co).ownBlock ≠ some p) := own_offT hcs HR.out (by decide)
  have cbo2 : (wt.alloc (.cells #[.int .i64 x.kind, .string x.text, .slice aa x.args.length ca, .string x.bind, .slice ak x.kids.length ck] 100)).cell? ⟨p, 4, none⟩ = some (.slice ao r.out.length co) := run_cell (rdb_alloc HR.out _) rfl
  have i9 : IntKind.i64.wrap (((r.out.length : Int) + 1) - 1) = (r.out.length : Int) := by rw [IntKind.wrap_i64]; omega
  clear hcs hsn
  go_region_law ((refine step_append_lies _ (by rfl) _ _ _ (by rfl) B 100 i0 _ 5 88 Try.underlying52 hi hz0 hz1 hz2 rfl (by omega) _ _ _ (by rfl) (World.ownsRow.alloc HC.out _) ⟨wt.heap.size, 0, none⟩ 1 1 [.int .i64 x.kind, .string x.text, .slice aa x.args.length ca, .string x.bind, .slice ak x.kids.length ck] (by rfl) (by rfl) (World.news_of_block (cs := #[.int .i64 x.kind, .string x.text, .slice aa x.args.length ca, .string x.bind, .slice ak x.kids.length ck]) (t := 100) (fr := (0, 0)) (heap_alloc_new wt _)) (five11 _ _ _ _ _ _ _ _ _) (by omega) (by unfold maxLen; omega) (by omega) (by simp; omega) (wt.heap.size + 1) (by simp) ?_; intro gg cap w3 hown3 hgrow hat hlt3; have hb3 := rdb_grown hgrow (rdb_alloc HR.out _) HNe.out; have c3 := run_cell (j := 4) hb3 rfl; have f3 := run_frozen (j := 4) hb3))
  all_goals
    have hg2 : (wt.alloc (.cells #[.int .i64 x.kind, .string x.text, .slice aa x.args.length ca, .string x.bind, .slice ak x.kids.length ck] 100)).grownBy w3 (Value.slice ao r.out.length co).ownBlock := ⟨hgrow.os, hgrow.tape, hgrow.output, hgrow.size, hgrow.block⟩
    have F3 : FrT [100] B wt w3 := (FrT.below ((Below.refl _ _).alloc (Nat.le_refl _) _) (by omega)).trans (fr_grown (World.ownsRow.alloc HC.out _) hg2 (by simp) (by simp; omega))
    have R3 : SNodesO A B (.slice (some ⟨gg, 0, none⟩) (r.out.length + 1) cap) (r.out ++ [x]) w3 := HSn.out _ w3 _ x rfl hown3 (fun vs y hy => snV_fr hy F3 (by decide) (by decide) (by decide)) ⟨_, _, rfl, argsA_fr HAr.out F3 (by decide) (by decide) (by decide), ownZ_fr HK.out F3 (by decide), HAw.out⟩
    have R := rdb_out (B := B) (x := x) (ov' := .slice (some ⟨gg, 0, none⟩) (r.out.length + 1) cap) hb3 hpB
    have R4 : Hid (SNodesO A B (.slice (some ⟨gg, 0, none⟩) (r.out.length + 1) cap) (r.out ++ [x]) (w3.setCell ⟨p, 4, none⟩ (.slice (some ⟨gg, 0, none⟩) (r.out.length + 1) cap))) := sNodes_fr R3 R.2 (by decide) (by decide) (by decide) (by decide)
    have X4 : Hid (RdB p lv (.slice (some ⟨gg, 0, none⟩) (r.out.length + 1) cap) { r with out := r.out ++ [x] } (w3.setCell ⟨p, 4, none⟩ (.slice (some ⟨gg, 0, none⟩) (r.out.length + 1) cap))) := R.1
    have F4 : Hid (FrS B w (w3.setCell ⟨p, 4, none⟩ (.slice (some ⟨gg, 0, none⟩) (r.out.length + 1) cap))) := HF0.out.trans ((FrT.wide F3 (by simp)).trans (FrT.wide R.2 (by simp)))
    have c4 : (w3.setCell ⟨p, 4, none⟩ (.slice (some ⟨gg, 0, none⟩) (r.out.length + 1) cap)).cell? ⟨p, 4, none⟩ = some (.slice (some ⟨gg, 0, none⟩) (r.out.length + 1) cap) := run_cell X4.out rfl
    clear hg2 F3 R3 R hown3 hgrow hat hlt3 hb3 c3 f3
    generalize w3.setCell ⟨p, 4, none⟩ (.slice (some ⟨gg, 0, none⟩) (r.out.length + 1) cap) = w4 at *
    have e3 : w4.cell? ⟨p, 3, none⟩ = some (.bool r.bad) := run_cell X4.out rfl
    have z3 : w4.frozen? ⟨p, 3, none⟩ = false := run_frozen X4.out
    by_cases hbig : 120 < r.out.length + 1
    · have i20 : (120 : Int) < (r.out.length : Int) + 1 := by omega
      have Q := rdb_set (B := B) (j := 3) (u := .bool true) (r' := { r with out := r.out ++ [x], bad := true }) X4.out hpB rfl
      have Q1 : Hid (RdB p lv (.slice (some ⟨gg, 0, none⟩) (r.out.length + 1) cap) { r with out := r.out ++ [x], bad := true } (w4.setCell ⟨p, 3, none⟩ (.bool true))) := Q.1
      have Q2 : Hid (FrR B w4 (w4.setCell ⟨p, 3, none⟩ (.bool true))) := Q.2
      have c5 : (w4.setCell ⟨p, 3, none⟩ (.bool true)).cell? ⟨p, 4, none⟩ = some (.slice (some ⟨gg, 0, none⟩) (r.out.length + 1) cap) := run_cell Q1.out rfl
      have HPv : Hid (putR r x = { r with out := r.out ++ [x], bad := true }) := by rw [Hid, HP.out (), decide_eq_true hbig, Bool.or_true]
      clear Q hbig
      go_wp2
      go_ret
      rw [HPv.out]
      exact ⟨rfl, ⟨_, HR0.out.next (ts := [80, 100]) Q1.out (F4.out.trans (FrT.wide Q2.out (by simp))), sNodes_fr R4.out Q2.out (by decide) (by decide) (by decide) (by decide)⟩, F4.out.trans (FrT.wide Q2.out (by simp))⟩
    · have i20 : ¬ (120 : Int) < (r.out.length : Int) + 1 := by omega
      have HPv : Hid (putR r x = { r with out := r.out ++ [x] }) := by rw [Hid, HP.out (), decide_eq_false hbig, Bool.or_false]
      clear hbig
      go_wp2
      go_ret
      rw [HPv.out]
      exact ⟨rfl, ⟨_, HR0.out.next (ts := [80, 100]) X4.out F4.out, R4.out⟩, F4.out⟩

end Go.Proofs.Ytmacbobobaohgaa

namespace Go.Proofs.Ytmacbobobaohgaa
open Go.RowKit

/-- A reader went on to another: how deep it is, where, whether it is wrong, and how many nodes more there are at most. -/
structure GoI (tk : List TokD) (r r' : RdD) (n : Nat) : Prop where
  deep : r'.deep = r.deep
  at1 : r.at_ ≤ r'.at_
  at2 : r'.at_ ≤ max r.at_ tk.length
  bad : r.bad = true → r'.bad = true
  out : r.out.length ≤ r'.out.length
  siz : r'.out.length ≤ r.out.length + 2 * (r'.at_ - r.at_) + n
theorem GoI.refl (tk : List TokD) (r : RdD) : GoI tk r r 0 := ⟨rfl, Nat.le_refl _, by omega, fun h => h, Nat.le_refl _, by omega⟩
theorem GoI.trans {tk : List TokD} {r r1 r2 : RdD} {m n : Nat} (h : GoI tk r r1 m) (k : GoI tk r1 r2 n) : GoI tk r r2 (m + n) := by
  obtain ⟨a, b, c, d, e, f⟩ := h
  obtain ⟨a', b', c', d', e', f'⟩ := k
  exact ⟨a'.trans a, by omega, by omega, fun x => d' (d x), by omega, by omega⟩
theorem GoI.mono {tk : List TokD} {r r1 : RdD} {m n : Nat} (h : GoI tk r r1 m) (hn : m ≤ n) : GoI tk r r1 n := ⟨h.deep, h.at1, h.at2, h.bad, h.out, Nat.le_trans h.siz (by omega)⟩
theorem goI_put (tk : List TokD) (r : RdD) (x : SNodeD) : GoI tk r (putR r x) 1 :=
  ⟨rfl, Nat.le_refl _, by show r.at_ ≤ _; omega, fun h => by show (r.bad || _) = true; rw [h]; rfl, by show _ ≤ (r.out ++ [x]).length; simp, by show (r.out ++ [x]).length ≤ _; simp only [List.length_append, List.length_singleton]; omega⟩
theorem goI_on {tk : List TokD} {r : RdD} (h : r.at_ < tk.length) : GoI tk r (onR r) 0 :=
  ⟨rfl, Nat.le_succ _, by show r.at_ + 1 ≤ _; omega, fun h => h, Nat.le_refl _, by show r.out.length ≤ _; omega⟩
theorem goI_bad (tk : List TokD) (r : RdD) : GoI tk r (badR r) 0 := ⟨rfl, Nat.le_refl _, by show r.at_ ≤ _; omega, fun _ => rfl, Nat.le_refl _, by show r.out.length ≤ _; omega⟩
theorem goI_want (tk : List TokD) (r : RdD) (s : ByteArray) : GoI tk r (wantR tk r s) 0 := by
  obtain ⟨a, b, c, d, e⟩ := wantR_I tk r s
  exact ⟨a, b, c, d, by rw [e]; exact Nat.le_refl _, by rw [e]; omega⟩
theorem wholeR_out (tk : List TokD) (r : RdD) : (wholeR tk r).1.out = r.out := (exF_I tk fuelE .expr r [] 0).out
theorem goI_whole (tk : List TokD) (r : RdD) : GoI tk r (wholeR tk r).1 0 := by
  have h := exF_I tk fuelE .expr r [] 0
  have e : (wholeR tk r).1 = (exF tk fuelE .expr r [] 0).1 := rfl
  have o := h.out
  rw [e]
  exact ⟨h.deep, h.at1, h.at2, h.bad, by rw [o]; exact Nat.le_refl _, by rw [o]; omega⟩
/-- The nodes stay the same. -/
theorem argsR_out (tk : List TokD) : ∀ (f : Nat) (r : RdD) (es : List (List NodeD)), (argsR tk f r es).1.out = r.out
  | 0, _, _ => rfl
  | f + 1, r, es => by
    rw [argsR]
    split
    · rw [argsR_out tk f, wholeR_out]; rfl
    · rfl
theorem goI_args (tk : List TokD) : ∀ (f : Nat) (r : RdD) (es : List (List NodeD)), GoI tk r (argsR tk f r es).1 0
  | 0, r, _ => GoI.refl tk r
  | f + 1, r, es => by
    rw [argsR]
    split
    · rename_i h
      exact ((goI_on (isT_lt h)).trans (goI_whole tk _)).trans (goI_args tk f _ _)
    · exact GoI.refl tk r
theorem callArgs_out (tk : List TokD) (r : RdD) : (callArgs tk r).1.out = r.out := by
  show (wantR tk (argsR tk 250 (wholeR tk r).1 [(wholeR tk r).2]).1 (s1 41)).out = r.out
  rw [(wantR_I tk _ _).2.2.2.2, argsR_out, wholeR_out]
theorem goI_callArgs (tk : List TokD) (r : RdD) : GoI tk r (callArgs tk r).1 0 :=
  ((goI_whole tk r).trans (goI_args tk 250 _ _)).trans (goI_want tk _ _)
theorem goI_call (tk : List TokD) (r : RdD) (name : ByteArray) (opn : Bool) : GoI tk r (callR tk r name opn) 1 := by
  unfold callR
  split
  · exact (goI_callArgs tk r).trans (goI_put tk _ _)
  · split
    · rename_i h
      have h0 := goI_on (isT_lt h)
      split
      · rename_i h1
        exact (h0.trans (goI_on (kindR_lt h1))).trans (goI_put tk _ _)
      · split
        · rename_i h1
          exact ((h0.trans (goI_on (kindR_lt h1))).trans (goI_callArgs tk _)).trans (goI_put tk _ _)
        · exact (h0.trans (goI_bad tk _)).trans (goI_put tk _ _)
    · exact goI_put tk _ _
/-- Of a call at least one node more. -/
theorem call_more (tk : List TokD) (r : RdD) (name : ByteArray) (opn : Bool) : (callR tk r name opn).out.length = r.out.length + 1 := by
  unfold callR
  split
  · show (putR (callArgs tk r).1 _).out.length = _
    show ((callArgs tk r).1.out ++ [_]).length = _
    rw [List.length_append, callArgs_out]; rfl
  · split
    · split
      · show (r.out ++ [_]).length = _
        simp
      · split
        · show ((callArgs tk (onR (onR r))).1.out ++ [_]).length = _
          rw [List.length_append, callArgs_out]; rfl
        · show (r.out ++ [_]).length = _
          simp
    · show (r.out ++ [_]).length = _
      simp

end Go.Proofs.Ytmacbobobaohgaa

namespace Go.Proofs.Ytmacbobobaohgaa
open Go.RowKit
set_option linter.unusedVariables false

theorem Try.infoExpr11 : (Try.prog.info? 71).map (fun i => (i.zero, i.size, i.bytes)) = some (some (.agg #[.slice none 0 0]), 1, 24) := by kernel_rfl
theorem one_slice (a : Option Addr) (n c : Nat) : ∀ u ∈ [Value.slice a n c], u.oneCell' = true := by
  intro u hu
  obtain rfl : u = .slice a n c := by simpa using hu
  rfl
/-- A node in a box of its own. -/
def XB (bx : Nat) (x : SNodeD) (av : Value) (w : World) : Prop := w.heap[bx]? = some (.cells #[.int .i64 x.kind, .string x.text, av, .string x.bind, .slice none 0 0] 100 (0, 0))
theorem xb_alloc {bx : Nat} {c : Array Value} {t : TypeId} {w : World} (h : w.heap[bx]? = some (.cells c t (0, 0))) (o : Obj) : (w.alloc o).heap[bx]? = some (.cells c t (0, 0)) := by
  rw [Below.heap_alloc _ _ _ (Array.getElem?_eq_some_iff.1 h).1]; exact h
theorem xb_grown {bx : Nat} {c : Array Value} {t : TypeId} {w w' : World} {k : Option Nat} (hg : w.grownBy w' k) (h : w.heap[bx]? = some (.cells c t (0, 0))) (hne : k ≠ some bx) : w'.heap[bx]? = some (.cells c t (0, 0)) := by
  rw [hg.block bx (Array.getElem?_eq_some_iff.1 h).1 (fun e => hne e.symm)]; exact h
/-- What call knows behind its first row: the reader, the node's box, its args, and that nothing else of old has turned. -/
structure CallI (B p : Nat) (lv ov : Value) (tk : List TokD) (w : World) (r : RdD) (x : SNodeD) (av : Value) (W : World) : Prop where
  rds : RdS B p lv ov tk r W
  xb : XB w.heap.size x av W
  args : ArgsO w.heap.size av x.args W
  fr : FrR B w W
  size : w.heap.size ≤ W.heap.size
  bw : B ≤ w.heap.size
section
variable {B p : Nat} {lv ov av : Value} {tk : List TokD} {w W : World} {r r' : RdD} {x : SNodeD}
theorem CallI.xb_cell (h : CallI B p lv ov tk w r x av W) {j : Nat} {v : Value} (hj : (#[.int .i64 x.kind, .string x.text, av, .string x.bind, .slice none 0 0] : Array Value)[j]? = some v) : W.cell? ⟨w.heap.size, j, none⟩ = some v := run_cell h.xb hj
/-- The reader alone has gone on. -/
theorem CallI.rdr {W' : World} (h : CallI B p lv ov tk w r x av W) (hr : RdB p lv ov r' W') (hf : FrR B W W') : CallI B p lv ov tk w r' x av W' :=
  ⟨h.rds.next hr hf, hf.typ _ _ _ _ h.xb (by decide), args_fr h.args hf (by decide) (by decide) (by decide), h.fr.trans hf, Nat.le_trans h.size hf.bel.size, h.bw⟩
theorem CallI.drew (h : CallI B p lv ov tk w r x av W) : CallI B p lv ov tk w r x av W.drew := h.rdr (rdb_drew h.rds.rd 1) (frR_drew h.rds.rd h.rds.pB 1)
/-- A text of the box written. -/
theorem CallI.text (h : CallI B p lv ov tk w r x av W) (hpw : p < w.heap.size) {j : Nat} {u : Value} {x' : SNodeD} (hc : (#[.int .i64 x.kind, .string x.text, av, .string x.bind, .slice none 0 0] : Array Value).setIfInBounds j u = #[.int .i64 x'.kind, .string x'.text, av, .string x'.bind, .slice none 0 0]) (ha : x'.args = x.args) : CallI B p lv ov tk w r x' av (W.setCell ⟨w.heap.size, j, none⟩ u) := by
  have hB := h.rds.pB
  have hf : FrT [100] w.heap.size W (W.setCell ⟨w.heap.size, j, none⟩ u) := fr_set _ h.xb (by simp) (Nat.le_refl _)
  refine ⟨h.rds.next (ts := [100]) (by rw [RdB, setCell_other _ (by omega)]; exact h.rds.rd) (hf.base (by omega)), by rw [XB, setCell_self _ h.xb, hc], ?_, h.fr.new hf.bel (by omega), Nat.le_trans h.size hf.bel.size, h.bw⟩
  rw [ha]
  exact args_fr h.args hf (by decide) (by decide) (by decide)
/-- An arg more: whole, append and the store into the box. -/
theorem CallI.arg {w5 w6 : World} {nv : Value} {e : List NodeD} {gg cap : Nat} {k : Nat} {cs : List Value} (h : CallI B p lv ov tk w r x av W) (hpw : p < w.heap.size) (hr5 : RdB p lv ov r' w5) (hn5 : NodesO k nv e w5) (hk : w.heap.size ≤ k) (hf5 : FrR B W w5) (hcs : W.ownsRow w.heap.size 71 1 av x.args.length cs)
    (hsn : ∀ (v' : Value) (w2 : World) (vs : List Value) (y : List NodeD), vs.length = 1 → w2.ownsRow w.heap.size 71 1 v' (x.args.length + 1) (cs ++ vs) → (∀ vs y, ExV w.heap.size W vs y → ExV w.heap.size w2 vs y) → ExV w.heap.size w2 vs y → RowO 1 71 (ExV w.heap.size) w.heap.size v' (x.args ++ [y]) w2)
    (hown6 : w6.ownsRow w.heap.size 71 1 (.slice (some ⟨gg, 0, none⟩) (x.args.length + 1) cap) (x.args.length + 1) (cs ++ [nv])) (hg : (w5.alloc (.cells #[nv] 71)).grownBy w6 av.ownBlock) :
    CallI B p lv ov tk w r' { x with args := x.args ++ [e] } (.slice (some ⟨gg, 0, none⟩) (x.args.length + 1) cap) (w6.setCell ⟨w.heap.size, 2, none⟩ (.slice (some ⟨gg, 0, none⟩) (x.args.length + 1) cap)) := by
  have hB := h.rds.pB
  have hw5 : w.heap.size ≤ w5.heap.size := Nat.le_trans h.size hf5.bel.size
  have Z5 := own_frT hcs hf5 (by decide)
  have F6 : FrT [71] w.heap.size w5 w6 := (FrT.below ((Below.refl _ _).alloc (Nat.le_refl _) _) hw5).trans (fr_grown (World.ownsRow.alloc Z5 _) hg (by simp) (by simp; omega))
  have X6 : w6.heap[w.heap.size]? = some (.cells #[.int .i64 x.kind, .string x.text, av, .string x.bind, .slice none 0 0] 100 (0, 0)) := F6.typ _ _ _ _ (hf5.typ _ _ _ _ h.xb (by decide)) (by decide)
  have F7 : FrT [100] w.heap.size w6 (w6.setCell ⟨w.heap.size, 2, none⟩ (.slice (some ⟨gg, 0, none⟩) (x.args.length + 1) cap)) := fr_set _ X6 (by simp) (Nat.le_refl _)
  have hb7 : Below w.heap.size w5 (w6.setCell ⟨w.heap.size, 2, none⟩ (.slice (some ⟨gg, 0, none⟩) (x.args.length + 1) cap)) := F6.bel.trans F7.bel
  have R6 : RdB p lv ov r' w6 := F6.typ _ _ _ _ hr5 (by decide)
  refine ⟨h.rds.go (by rw [RdB, setCell_other _ (by omega)]; exact R6) (hf5.bel.trans (hb7.mono (by omega))), by rw [XB, setCell_self _ X6]; rfl, ?_, (h.fr.trans hf5).new hb7 (by omega), Nat.le_trans hw5 hb7.size, h.bw⟩
  have A6 : ArgsO w.heap.size (.slice (some ⟨gg, 0, none⟩) (x.args.length + 1) cap) (x.args ++ [e]) w6 := hsn _ w6 [nv] e rfl hown6 (fun vs y hy => exV_fr (exV_fr hy hf5 (by decide) (by decide)) F6 (by decide) (by decide)) ⟨nv, rfl, nodesO_fr (nodesO_base hn5 hk) F6 (by decide) (by decide)⟩
  exact args_fr A6 F7 (by decide) (by decide) (by decide)
theorem nodes_form {k : Nat} {nv : Value} {e : List NodeD} {W : World} (h : NodesO k nv e W) : ∃ an ln cn, nv = .slice an ln cn := by
  obtain ⟨a, c, rfl⟩ := RowO.slice h
  exact ⟨a, _, c, rfl⟩
/-- The node is put. -/
theorem call_put {A : Nat → Prop} {ro : List SNodeD} (h : CallI B p lv ov tk w r x av W) (ho : r.out = ro) (hx : x.kids = []) (hl : ro.length ≤ 90000) (hA : ∀ b, A b → b < w.heap.size) (hn : SNodesO A B ov ro w) :
    Calls Try.prog 48 #[.pointer (some ⟨p, 0, none⟩), .agg #[.int .i64 x.kind, .string x.text, av, .string x.bind, .slice none 0 0]] W fun e w' => e = .returned (.int .i64 ro.length) ∧ (∃ ov', RdS B p lv ov' tk (putR r x) w' ∧ SNodesO A B ov' (putR r x).out w') ∧ FrS B w w' := by
  subst ho
  have hBw : B ≤ w.heap.size := by
    exact h.bw
  refine (putS_any (A := A) x av (.slice none 0 0) W (by omega) h.rds (sNodes_fr hn h.fr (by decide) (by decide) (by decide) (by decide)) (argsA_of h.args hBw hA) (by rw [hx]; exact ownZ_nil11 B W) (fun k hk => by cases hk)).mono ?_
  rintro e w' ⟨he, hq, hf⟩
  exact ⟨he, hq, (FrT.wide h.fr (by simp)).trans hf⟩
end
end Go.Proofs.Ytmacbobobaohgaa
