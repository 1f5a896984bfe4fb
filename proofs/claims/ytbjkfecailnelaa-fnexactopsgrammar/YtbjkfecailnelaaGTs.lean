/- The laws' to-functions on grammars: what they answer, with its shape (printed by mk/gts.py). -/
import Derived.Test.YtbjkfecailnelaaGTo
import Derived.Test.YtbjkfecailnelaaOShR
import Derived.Test.YtbjkfecailnelaaMK
namespace Go.Proofs.Ytbjkfecailnelaa
open Go.RowKit
set_option linter.unusedVariables false

def cntExpr (x : List NodeD) : Nat := (x.map fun y => 3 + y.kids.length).sum
def cntSym (x : SymD) : Nat := 3 + (x.args.map cntExpr).sum
def cntAlt (x : List SymD) : Nat := (x.map cntSym).sum
def cntRule (x : RuleD) : Nat := 1 + x.params.length + (x.alts.map cntAlt).sum
theorem cntExpr_le (x : List NodeD) : cntExpr x ≤ 3 * exprTot x := by
  have : ∀ l : List NodeD, (l.map fun y => 3 + y.kids.length).sum ≤ 3 * (l.length + (l.map fun y => y.name.size + y.kids.length).sum) := by
    intro l
    induction l with
    | nil => simp
    | cons y l ih => simp only [List.map_cons, List.sum_cons, List.length_cons]; omega
  exact this x
theorem cnt_le_of {α : Type} {f g : α → Nat} (h : ∀ x, f x ≤ 3 * (g x + 1)) (xs : List α) : (xs.map f).sum ≤ 3 * rowTot g xs := by
  unfold rowTot
  induction xs with
  | nil => simp
  | cons x xs ih => have := h x; simp only [List.map_cons, List.sum_cons, List.length_cons] at *; omega
theorem cntArgs_le (xs : List (List NodeD)) : (xs.map cntExpr).sum ≤ 3 * rowTot exprTot xs := cnt_le_of (fun x => by have := cntExpr_le x; omega) xs
theorem cntSym_le (x : SymD) : cntSym x ≤ 3 * (symTot x + 1) := by
  have := cntArgs_le x.args
  have e : symTot x = x.text.size + rowTot exprTot x.args + x.bind.size := rfl
  unfold cntSym
  omega
theorem cntAlt_le (x : List SymD) : cntAlt x ≤ 3 * altTot x := cnt_le_of cntSym_le x
theorem cntAlts_le (xs : List (List SymD)) : (xs.map cntAlt).sum ≤ 3 * rowTot altTot xs := cnt_le_of (fun x => by have := cntAlt_le x; omega) xs
theorem cntRule_le (x : RuleD) : cntRule x ≤ 3 * (ruleTot x + 1) := by
  have h1 := cntAlts_le x.alts
  have h2 := rowTot_len ByteArray.size x.params
  have e : ruleTot x = x.name.size + rowTot ByteArray.size x.params + rowTot altTot x.alts := rfl
  unfold cntRule
  omega
theorem cntGram_le (g : List RuleD) : (g.map cntRule).sum ≤ 3 * grammarTot g := cnt_le_of cntRule_le g
theorem ShK.low {τ : TypeId → List FK} {B B' : Nat} {k : FK} {w : World} {v : Value} {m : Nat} (h : ShK τ B k w v m) (hB : B' ≤ B) : ShK τ B' k w v m := by
  obtain ⟨H, n, c, h1, h2⟩ := h
  exact ⟨H, n, c, h1, shp_mono hB (Nat.le_refl _) n n (Nat.le_refl _) _ _ _ h2⟩
theorem ones_sum (n : Nat) : (List.replicate n 1).sum = n := by
  induction n with
  | zero => rfl
  | succ n ih => rw [List.replicate_succ, List.sum_cons, ih]; omega
theorem shK_ownB {B : Nat} {v : Value} {ss : List ByteArray} {w : World} (h : OwnB B v ss w) : ShK tau B (.row 9) w v ss.length := by
  have e : ss.length = (List.replicate ss.length 1).sum := (ones_sum _).symm
  rw [e]
  refine ShK.row (len := ss.length) (cs := sb ss) h (by simp [sb]) (fun i hi hi' => ⟨.str, by show [FK.str][i % 1]? = _; rw [Nat.mod_one]; rfl, ?_⟩)
  simp only [sb, List.getElem_map, List.getElem_replicate]
  exact ShK.str _
theorem shK_ownZ {B : Nat} {v : Value} {ks : List Int} {w : World} (h : OwnZ B v ks w) : ShK tau B (.row 3) w v ks.length := by
  have e : ks.length = (List.replicate ks.length 1).sum := (ones_sum _).symm
  rw [e]
  refine ShK.row (len := ks.length) (cs := zv ks) h (by simp [zv]) (fun i hi hi' => ⟨.int, by show [FK.int][i % 1]? = _; rw [Nat.mod_one]; rfl, ?_⟩)
  simp only [zv, List.getElem_map, List.getElem_replicate]
  exact ShK.int _
theorem shK_ownN {B : Nat} {v : Value} {ns : List NodeD} {w : World} (h : OwnN B v ns w) : ShK tau B (.row 51) w v (cntExpr ns) := by
  obtain ⟨qs, rfl, h, hk⟩ := h
  have hs : (qs.map fun q => [1, 1, 1, q.1.kids.length]).flatten.sum ≤ cntExpr (qs.map (·.1)) := by
    clear h hk
    unfold cntExpr
    induction qs with
    | nil => simp
    | cons q qs ih => simp only [List.map_cons, List.flatten_cons, List.sum_append, List.sum_cons, List.sum_nil] at *; omega
  refine (ShK.row (len := qs.length) (cs := nv qs) (ms := (qs.map fun q => [1, 1, 1, q.1.kids.length]).flatten) h ?_ (fun i hi hi' => ?_)).more hs
  · clear h hk hs
    induction qs with
    | nil => rfl
    | cons q qs ih =>
      have e : nv (q :: qs) = [.int .i64 q.1.op, .int .i64 q.1.num, .string q.1.name, q.2] ++ nv qs := rfl
      simp only [e, List.map_cons, List.flatten_cons, List.length_append, List.length_cons, List.length_nil, ih]
  · have en : ∀ l : List (NodeD × Value), nv l = (l.map fun q => [Value.int .i64 q.1.op, .int .i64 q.1.num, .string q.1.name, q.2]).flatten := by
      intro l
      induction l with
      | nil => rfl
      | cons q l ih => show [Value.int .i64 q.1.op, .int .i64 q.1.num, .string q.1.name, q.2] ++ nv l = _; rw [ih]; rfl
    have key := flat_shapes (sz := 4) (fun r v m => ∃ k, (tau 51)[r]? = some k ∧ ShK tau B k w v m) (qs.map fun q => [Value.int .i64 q.1.op, .int .i64 q.1.num, .string q.1.name, q.2]) (qs.map fun q => [1, 1, 1, q.1.kids.length]) (by simp) (fun vs hv => by obtain ⟨q, _, rfl⟩ := List.mem_map.1 hv; rfl) (fun ms hm => by obtain ⟨q, _, rfl⟩ := List.mem_map.1 hm; rfl) (fun q h1 h2 r h3 h4 => by
      have hq : q < qs.length := by simpa using h1
      simp only [List.getElem_map, List.length_cons, List.length_nil] at h3 h4 ⊢
      have hz := hk qs[q] (List.getElem_mem hq)
      match r, h3 with
      | 0, _ => exact ⟨.int, rfl, ShK.int _⟩
      | 1, _ => exact ⟨.int, rfl, ShK.int _⟩
      | 2, _ => exact ⟨.str, rfl, ShK.str _⟩
      | 3, _ => exact ⟨.row 3, rfl, shK_ownZ hz⟩) i (by rw [← en]; exact hi) hi'
    have e4 : (tau 51).length = 4 := rfl
    rw [e4]
    simp only [en qs]
    exact key
theorem withExpr {Bx : Nat} {W : World} {v : Value} {x : List NodeD} (h : NRow W v x) (hs : ShK tau Bx (.row 51) W v (cntExpr x)) : WithS tau Bx 47 ExprE cntExpr W [v] x :=
  ⟨⟨_, rfl, h⟩, [cntExpr x], rfl, by simp, fun r h1 h2 => match r, h1 with | 0, _ => ⟨_, rfl, hs⟩⟩
theorem withSym {Bx : Nat} {W : World} {v : Value} {x : SymD} (h : RowC 1 ExprE W v x.args) (hs : ShK tau Bx (.row 47) W v ((x.args.map cntExpr).sum)) : WithS tau Bx 54 SymE cntSym W [.int .i64 x.kind, .string x.text, v, .string x.bind] x :=
  ⟨⟨_, rfl, h⟩, [1, 1, (x.args.map cntExpr).sum, 1], rfl, by unfold cntSym; simp only [List.sum_cons, List.sum_nil]; omega, fun r h1 h2 => match r, h1 with | 0, _ => ⟨_, rfl, ShK.int _⟩ | 1, _ => ⟨_, rfl, ShK.str _⟩ | 2, _ => ⟨_, rfl, hs⟩ | 3, _ => ⟨_, rfl, ShK.str _⟩⟩
theorem withAlt {Bx : Nat} {W : World} {v : Value} {x : List SymD} (h : RowC 4 SymE W v x) (hs : ShK tau Bx (.row 54) W v ((x.map cntSym).sum)) : WithS tau Bx 58 AltE cntAlt W [v] x :=
  ⟨⟨_, rfl, h⟩, [(x.map cntSym).sum], rfl, by unfold cntAlt; simp, fun r h1 h2 => match r, h1 with | 0, _ => ⟨_, rfl, hs⟩⟩
theorem withRule {Bx : Nat} {W : World} {v u : Value} {x : RuleD} (h : SRow W v x.params) (hs : ShK tau Bx (.row 9) W v x.params.length) (h1 : RowC 1 AltE W u x.alts) (hs1 : ShK tau Bx (.row 58) W u ((x.alts.map cntAlt).sum)) : WithS tau Bx 43 RuleE cntRule W [.string x.name, v, u] x :=
  ⟨⟨_, _, rfl, h, h1⟩, [1, x.params.length, (x.alts.map cntAlt).sum], rfl, by unfold cntRule; simp only [List.sum_cons, List.sum_nil]; omega, fun r h2 h3 => match r, h2 with | 0, _ => ⟨_, rfl, ShK.str _⟩ | 1, _ => ⟨_, rfl, hs⟩ | 2, _ => ⟨_, rfl, hs1⟩⟩










end Go.Proofs.Ytbjkfecailnelaa
