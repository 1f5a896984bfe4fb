/- Grammars whose lists lie each in a block of its own: read, kept, and to be marked. -/
import Derived.Test.YtbjkfecailnelaaRF
import Derived.Test.YtbjkfecailnelaaGTs
namespace Go.Proofs.Ytbjkfecailnelaa
open Go.RowKit
set_option linter.unusedVariables false

def NodeF (F : Nat → Prop) (w : World) (vs : List Value) (x : NodeD) : Prop := ∃ kv : Value, vs = [.int .i64 x.op, .int .i64 x.num, .string x.name, kv] ∧ OwnZ 0 kv x.kids w ∧ ∀ k, kv.ownBlock = some k → F k
def ExprF (F : Nat → Prop) (w : World) (vs : List Value) (x : List NodeD) : Prop := ∃ v : Value, vs = [v] ∧ RowF 4 51 NodeF F v x w
def SymF (F : Nat → Prop) (w : World) (vs : List Value) (x : SymD) : Prop := ∃ v : Value, vs = [.int .i64 x.kind, .string x.text, v, .string x.bind] ∧ RowF 1 47 ExprF F v x.args w
def AltF (F : Nat → Prop) (w : World) (vs : List Value) (x : List SymD) : Prop := ∃ v : Value, vs = [v] ∧ RowF 4 54 SymF F v x w
def RuleF (F : Nat → Prop) (w : World) (vs : List Value) (x : RuleD) : Prop := ∃ (v u : Value) (Fp Fa : Nat → Prop), vs = [.string x.name, v, u] ∧ OwnB 0 v x.params w ∧ (∀ k, v.ownBlock = some k → Fp k) ∧ RowF 1 58 AltF Fa u x.alts w ∧ (∀ k, Fp k → F k) ∧ (∀ k, Fa k → F k) ∧ ∀ k, Fp k → ¬ Fa k
theorem stabNode : StabF NodeF := ⟨fun F w w' vs x h ha => by
    obtain ⟨kv, e, h1, h2⟩ := h
    exact ⟨kv, e, own_ag h1 ha h2, h2⟩, fun F G w vs x h hs => by
    obtain ⟨kv, e, h1, h2⟩ := h
    exact ⟨kv, e, h1, fun k hk => hs k (h2 k hk)⟩⟩
theorem stabExpr : StabF ExprF := ⟨fun F w w' vs x h ha => by
    obtain ⟨v, e, h1⟩ := h
    exact ⟨v, e, h1.ag stabNode ha⟩, fun F G w vs x h hs => by
    obtain ⟨v, e, h1⟩ := h
    exact ⟨v, e, h1.up hs⟩⟩
theorem stabSym : StabF SymF := ⟨fun F w w' vs x h ha => by
    obtain ⟨v, e, h1⟩ := h
    exact ⟨v, e, h1.ag stabExpr ha⟩, fun F G w vs x h hs => by
    obtain ⟨v, e, h1⟩ := h
    exact ⟨v, e, h1.up hs⟩⟩
theorem stabAlt : StabF AltF := ⟨fun F w w' vs x h ha => by
    obtain ⟨v, e, h1⟩ := h
    exact ⟨v, e, h1.ag stabSym ha⟩, fun F G w vs x h hs => by
    obtain ⟨v, e, h1⟩ := h
    exact ⟨v, e, h1.up hs⟩⟩
theorem stabRule : StabF RuleF := ⟨fun F w w' vs x h ha => by
    obtain ⟨v, u, Fp, Fa, e, h1, h2, h3, h4, h5, h6⟩ := h
    exact ⟨v, u, Fp, Fa, e, own_ag h1 ha (fun k hk => h4 k (h2 k hk)), h2, h3.ag stabAlt (ha.sub h5), h4, h5, h6⟩, fun F G w vs x h hs => by
    obtain ⟨v, u, Fp, Fa, e, h1, h2, h3, h4, h5, h6⟩ := h
    exact ⟨v, u, Fp, Fa, e, h1, h2, h3, fun k hk => hs k (h4 k hk), fun k hk => hs k (h5 k hk), h6⟩⟩
/-! ### what they hold -/
theorem RowF.nRow {F : Nat → Prop} {v : Value} {ns : List NodeD} {w : World} (h : RowF 4 51 NodeF F v ns w) : NRow w v ns := by
  obtain ⟨a, cap, rfl, hcap, hh⟩ := h.rowC (E0 := fun w vs x => ∃ kv : Value, vs = [.int .i64 x.op, .int .i64 x.num, .string x.name, kv] ∧ IRow w kv x.kids) (fun F w vs x h => by
    obtain ⟨kv, e, h1, _⟩ := h
    exact ⟨kv, e, h1.row⟩)
  refine ⟨a, cap, rfl, hcap, fun h0 => ?_⟩
  obtain ⟨b, off, rfl, hb, hc⟩ := hh h0
  refine ⟨b, off, rfl, hb, fun i hi => ?_⟩
  obtain ⟨vs, _, h2, kv, rfl, hk⟩ := hc i hi
  exact ⟨kv, by simpa using h2 0 (by simp), by simpa using h2 1 (by simp), by simpa using h2 2 (by simp), by simpa using h2 3 (by simp), hk⟩
theorem ExprF.e {F : Nat → Prop} {w : World} {vs : List Value} {x : List NodeD} (h : ExprF F w vs x) : ExprE w vs x := by
  obtain ⟨v, rfl, h1⟩ := h
  exact ⟨v, rfl, h1.nRow⟩
theorem SymF.e {F : Nat → Prop} {w : World} {vs : List Value} {x : SymD} (h : SymF F w vs x) : SymE w vs x := by
  obtain ⟨v, rfl, h1⟩ := h
  exact ⟨v, rfl, h1.rowC (fun F w vs x h => h.e)⟩
theorem AltF.e {F : Nat → Prop} {w : World} {vs : List Value} {x : List SymD} (h : AltF F w vs x) : AltE w vs x := by
  obtain ⟨v, rfl, h1⟩ := h
  exact ⟨v, rfl, h1.rowC (fun F w vs x h => h.e)⟩
theorem RuleF.e {F : Nat → Prop} {w : World} {vs : List Value} {x : RuleD} (h : RuleF F w vs x) : RuleE w vs x := by
  obtain ⟨v, u, Fp, Fa, rfl, h1, h2, h3, h4, h5, h6⟩ := h
  exact ⟨v, u, rfl, h1.row, h3.rowC (fun F w vs x h => h.e)⟩
/-! ### to be marked -/
theorem hd_scalars {t : TypeId} {kd : FK} {len : Nat} {F : Nat → Prop} {v : Value} {cs : List Value} {w : World} (ht : tau t = [kd]) (h : w.ownsRow 0 t 1 v len cs) (hF : ∀ k, v.ownBlock = some k → F k) (hc : ∀ i (h : i < cs.length), Hd tau 0 kd w cs[i] 1 (fun _ => False) none) : Hd tau 1 (.row t) w v len F none := by
  have hl : cs.length = len := by have := h.1; omega
  refine ⟨len, cs, List.replicate len 1, fun _ _ => False, by rw [ht]; exact h, by simp [hl], (ones_sum len).symm, ⟨hF, fun _ _ _ h => h, fun _ _ h => h.elim, fun _ _ _ _ h => h.elim⟩, fun i hi => ⟨kd, by rw [ht]; simp [Nat.mod_one], ?_⟩⟩
  have e : (List.replicate len 1).getD i 0 = 1 := by rw [List.getD_eq_getElem?_getD, List.getElem?_replicate, if_pos (by omega)]; rfl
  rw [e]
  exact hc i hi
theorem hd_ownZ {F : Nat → Prop} {v : Value} {ks : List Int} {w : World} (h : OwnZ 0 v ks w) (hF : ∀ k, v.ownBlock = some k → F k) : Hd tau 1 (.row 3) w v ks.length F none :=
  hd_scalars (kd := .int) rfl h hF (fun i hi => by simp only [zv, List.getElem_map]; exact Hd.num)
theorem hd_ownB {F : Nat → Prop} {v : Value} {ss : List ByteArray} {w : World} (h : OwnB 0 v ss w) (hF : ∀ k, v.ownBlock = some k → F k) : Hd tau 1 (.row 9) w v ss.length F none :=
  hd_scalars (kd := .str) rfl h hF (fun i hi => by simp only [sb, List.getElem_map]; exact Hd.text)
theorem cellsNode (F : Nat → Prop) (w : World) (vs : List Value) (x : NodeD) (h : NodeF F w vs x) : CellsF tau 51 1 F w vs (3 + x.kids.length) := by
  obtain ⟨kv, rfl, h1, h2⟩ := h
  refine ⟨[1, 1, 1, x.kids.length], fun r k => r = 3 ∧ F k, rfl, by simp only [List.sum_cons, List.sum_nil]; omega, fun r k h => h.2, fun r q k hne h h' => hne (h.1.trans h'.1.symm), fun r hr => ?_⟩
  match r, hr with
  | 0, _ => exact ⟨_, rfl, Hd.num⟩
  | 1, _ => exact ⟨_, rfl, Hd.num⟩
  | 2, _ => exact ⟨_, rfl, Hd.text⟩
  | 3, _ => exact ⟨_, rfl, hd_ownZ h1 (fun k hk => ⟨rfl, h2 k hk⟩)⟩
theorem cellsOne {t T : TypeId} {n m c : Nat} {F : Nat → Prop} {w : World} {v : Value} (ht : tau T = [.row t]) (hc : c ≤ m) (h : Hd tau n (.row t) w v c F none) : CellsF tau T n F w [v] m :=
  ⟨[c], fun r k => r = 0 ∧ F k, rfl, by simpa using hc, fun r k h => h.2, fun r q k hne h h' => hne (h.1.trans h'.1.symm), fun r hr => match r, hr with
    | 0, _ => ⟨_, by rw [ht]; rfl, Hd.mono _ _ _ _ _ h (fun k hk => ⟨rfl, hk⟩)⟩⟩
theorem cellsExpr (F : Nat → Prop) (w : World) (vs : List Value) (x : List NodeD) (h : ExprF F w vs x) : CellsF tau 47 2 F w vs (cntExpr x) := by
  obtain ⟨v, rfl, h1⟩ := h
  obtain ⟨c, hc, h2⟩ := h1.hd (cnt := fun y : NodeD => 3 + y.kids.length) (τ := tau) (n := 1) rfl (by decide) cellsNode
  exact cellsOne rfl hc h2
theorem cellsSym (F : Nat → Prop) (w : World) (vs : List Value) (x : SymD) (h : SymF F w vs x) : CellsF tau 54 3 F w vs (cntSym x) := by
  obtain ⟨v, rfl, h1⟩ := h
  obtain ⟨c, hc, h2⟩ := h1.hd (cnt := cntExpr) (τ := tau) (n := 2) rfl (by decide) cellsExpr
  refine ⟨[1, 1, c, 1], fun r k => r = 2 ∧ F k, rfl, by unfold cntSym; simp only [List.sum_cons, List.sum_nil]; omega, fun r k h => h.2, fun r q k hne h h' => hne (h.1.trans h'.1.symm), fun r hr => ?_⟩
  match r, hr with
  | 0, _ => exact ⟨_, rfl, Hd.num⟩
  | 1, _ => exact ⟨_, rfl, Hd.text⟩
  | 2, _ => exact ⟨_, rfl, Hd.mono _ _ _ _ _ h2 (fun k hk => ⟨rfl, hk⟩)⟩
  | 3, _ => exact ⟨_, rfl, Hd.text⟩
theorem cellsAlt (F : Nat → Prop) (w : World) (vs : List Value) (x : List SymD) (h : AltF F w vs x) : CellsF tau 58 4 F w vs (cntAlt x) := by
  obtain ⟨v, rfl, h1⟩ := h
  obtain ⟨c, hc, h2⟩ := h1.hd (cnt := cntSym) (τ := tau) (n := 3) rfl (by decide) cellsSym
  exact cellsOne rfl hc h2
theorem cellsRule (F : Nat → Prop) (w : World) (vs : List Value) (x : RuleD) (h : RuleF F w vs x) : CellsF tau 43 5 F w vs (cntRule x) := by
  obtain ⟨v, u, Fp, Fa, rfl, h1, h2, h3, h4, h5, h6⟩ := h
  obtain ⟨c, hc, h7⟩ := h3.hd (cnt := cntAlt) (τ := tau) (n := 4) rfl (by decide) cellsAlt
  have h8 := Hd.fuel 1 5 (by decide) _ _ _ _ _ (hd_ownB h1 h2)
  refine ⟨[1, x.params.length, c], fun r k => r = 1 ∧ Fp k ∨ r = 2 ∧ Fa k, rfl, by unfold cntRule; simp only [List.sum_cons, List.sum_nil]; omega, fun r k h => ?_, fun r q k hne h h' => ?_, fun r hr => ?_⟩
  · rcases h with ⟨_, h⟩ | ⟨_, h⟩
    · exact h4 k h
    · exact h5 k h
  · rcases h with ⟨e, h⟩ | ⟨e, h⟩ <;> rcases h' with ⟨e', h'⟩ | ⟨e', h'⟩
    · exact hne (e.trans e'.symm)
    · exact h6 k h h'
    · exact h6 k h' h
    · exact hne (e.trans e'.symm)
  · match r, hr with
    | 0, _ => exact ⟨_, rfl, Hd.text⟩
    | 1, _ => exact ⟨_, rfl, Hd.mono _ _ _ _ _ h8 (fun k hk => .inl ⟨rfl, hk⟩)⟩
    | 2, _ => exact ⟨_, rfl, Hd.mono _ _ _ _ _ h7 (fun k hk => .inr ⟨rfl, hk⟩)⟩
/-- A grammar's rules: what they hold in every world that has their blocks, and their marks. -/
theorem gram_hd {B H : Nat} {v : Value} {g : List RuleD} {w : World} (h : RowF 3 43 RuleF (Nw B H) v g w) : (Fresh B w fun W => RowC 3 RuleE W v g) ∧ ∃ c, c ≤ (g.map cntRule).sum ∧ Hd tau 6 (.row 43) w v c (Nw B H) none :=
  ⟨h.fresh stabRule (fun F w vs x h => h.e), h.hd (cnt := cntRule) (τ := tau) (n := 5) rfl (by decide) cellsRule⟩

end Go.Proofs.Ytbjkfecailnelaa
