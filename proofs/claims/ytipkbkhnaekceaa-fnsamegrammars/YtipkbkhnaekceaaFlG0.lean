/- Grammars with groups: whether their form is right, and made plain: in pure terms. No program is named. -/
/- What ReadSurface knows between two rules. -/
/- Grammars with groups, as they lie in memory, to be read alone; a surface's box. -/
/- What hangs on none of some blocks; rows whose elements do. No program is named. -/
/- Rows that a call builds out of new memory alone, one element behind the other. No program is named. -/
/- The specification's l04Of, l04Var, l12Vars: names as expressions. -/
/- The specification's l04Copies: expressions, copied anew. -/
/- What a right shape of a node says. No program is named. -/
/- A plain grammar in the making (the specification's l12Make), as it lies in memory; what each step does to it. -/
/- Within the specification's l12Make.row: what is kept from thing to thing. -/
/- Within the specification's l12Make.group: what is kept from row to row. -/
import Derived.Test.YtipkbkhnaekceaaXPure
import Derived.Test.YtipkbkhnaekceaaGGram
import Derived.Test.YtipkbkhnaekceaaSuD
import Derived.Test.YtipkbkhnaekceaaS11N
import Derived.Deep.AppendLies
import Derived.Laws.AppendOwnNone
namespace Go.Proofs.Ytipkbkhnaekceaa
open Go.RowKit

def leafS (x : SNodeD) : SymD := ⟨x.kind, x.text, x.args, x.bind⟩
def parsS (name : ByteArray) : List SRuleD → Int
  | [] => -1
  | r :: rs => if r.name = name then r.params.length else parsS name rs
def nodeS (ns : List SNodeD) (i : Int) : SNodeD := ns.getD i.toNat default
def shapeS (ns : List SNodeD) (i : Nat) (x : SNodeD) : Bool :=
  if ¬ (1 ≤ x.kind ∧ x.kind ≤ 9) then false
  else if x.kind ≤ 4 then decide (x.kids.length = 0)
  else if ¬ x.text = em ∨ ¬ x.bind = em ∨ 0 < x.args.length ∨ (x.kind = 5 ∧ 8 < x.kids.length) ∨ (x.kind = 6 ∧ ¬ (1 ≤ x.kids.length ∧ x.kids.length ≤ 8)) ∨ (6 < x.kind ∧ ¬ x.kids.length = 1) then false
  else x.kids.all fun k => decide (0 ≤ k ∧ k ≤ (i : Int) - 1) && !(decide ((x.kind = 5 ∧ (nodeS ns k).kind = 5) ∨ (x.kind = 6 ∧ ¬ (nodeS ns k).kind = 5) ∨ (6 < x.kind ∧ ¬ (nodeS ns k).kind = 6)))
/-- The alternatives that a node of a row has. -/
def groupS (ns : List SNodeD) (i : Int) : Int := if (nodeS ns i).kind = 6 then i else (nodeS ns i).kids.getD 0 0
/-- Are the names of a row (true) or of alternatives (false), and below, known? By fuel. -/
def knF (ns : List SNodeD) (rs : List SRuleD) : Nat → Bool → List Int → List ByteArray → Bool
  | 0, _, _, _ => true
  | _ + 1, _, [], _ => true
  | f + 1, true, k :: ks, known =>
    if (nodeS ns k).kind ≤ 4 then
      (symB (leafS (nodeS ns k)) known (parsS (nodeS ns k).text rs)).2 && knF ns rs f true ks (symB (leafS (nodeS ns k)) known (parsS (nodeS ns k).text rs)).1
    else knF ns rs f false (nodeS ns (groupS ns k)).kids known && knF ns rs f true ks known
  | f + 1, false, k :: ks, known => knF ns rs f true (nodeS ns k).kids known && knF ns rs f false ks known
/-- How often each node is a kid, or a body. -/
def addU (us : List Int) (k : Int) : List Int := us.modify k.toNat (· + 1)
def usesN (us : List Int) (xs : List SNodeD) : List Int := xs.foldl (fun us x => x.kids.foldl addU us) us
def usesR (us : List Int) (rs : List SRuleD) : List Int := rs.foldl (fun us r => addU us r.body) us
def fuelK : Nat := 2000
def ruleS (ns : List SNodeD) (rs : List SRuleD) (i : Nat) (r : SRuleD) : Bool :=
  decide (0 ≤ r.body ∧ r.body ≤ (ns.length : Int) - 1) && decide ((nodeS ns r.body).kind = 6) && ruleNameB r.name && paramsB r.params && !(decide (i = 0 ∧ 0 < r.params.length)) && (rs.take i).all fun q => !(decide (q.name = r.name))
def formB (ns : List SNodeD) (rs : List SRuleD) : Bool :=
  decide (ns.length ≤ 120) && decide (1 ≤ rs.length ∧ rs.length ≤ 8) && ((List.range ns.length).all fun i => shapeS ns i (ns.getD i default)) && ((List.range rs.length).all fun i => ruleS ns rs i (rs.getD i default)) && ((usesR (usesN (List.replicate ns.length 0) ns) rs).all fun u => decide (u = 1)) && rs.all fun r => knF ns rs fuelK false (nodeS ns r.body).kids r.params

structure MkD where
  rules : List RuleD
  queue : List (Int × Nat × List ByteArray)
  count : Nat
def varE (s : ByteArray) : List NodeD := [⟨2, 0, s, []⟩]
def xName (n : Nat) : ByteArray := ⟨(120 :: Lib.itoa (n : Int)).toArray⟩
/-- The syms of a row. -/
def rowK (ns : List SNodeD) (m : MkD) (known : List ByteArray) (out : List SymD) : List Int → MkD × List SymD
  | [] => (m, out)
  | k :: ks =>
    if (nodeS ns k).kind ≤ 4 then rowK ns m (if (nodeS ns k).bind = em then known else putS known (nodeS ns k).bind) (out ++ [leafS (nodeS ns k)]) ks
    else rowK ns { rules := m.rules ++ [⟨xName m.count, known, []⟩], queue := m.queue ++ [(k, m.rules.length, known)], count := m.count + 1 } known (out ++ [⟨3, xName m.count, known.map varE, em⟩]) ks
/-- Rows, one behind the other. -/
def rowsK (ns : List SNodeD) (known : List ByteArray) (m : MkD) (alts : List (List SymD)) : List Int → MkD × List (List SymD)
  | [] => (m, alts)
  | k :: ks => match rowK ns m known [] (nodeS ns k).kids with | (m, syms) => rowsK ns known m (alts ++ [syms]) ks
def setAlts (rs : List RuleD) (i : Nat) (alts : List (List SymD)) : List RuleD := rs.modify i fun r => { r with alts := alts }
def groupM (ns : List SNodeD) (m : MkD) (q : Int × Nat × List ByteArray) : MkD :=
  match rowsK ns q.2.2 m [] (nodeS ns (groupS ns q.1)).kids with
  | (m, alts) =>
    let again : SymD := ⟨3, (m.rules.getD q.2.1 default).name, q.2.2.map varE, em⟩
    let more := alts.map fun s => s ++ [again]
    { m with rules := setAlts m.rules q.2.1 (if (nodeS ns q.1).kind = 9 then alts ++ [[]] else if (nodeS ns q.1).kind = 7 then [[]] ++ more else if (nodeS ns q.1).kind = 8 then alts ++ more else alts) }
def queueM (ns : List SNodeD) : Nat → Nat → MkD → MkD
  | 0, _, m => m
  | f + 1, i, m => if i < m.queue.length then queueM ns f (i + 1) (groupM ns m (m.queue.getD i default)) else m
def bodiesM (ns : List SNodeD) (m : MkD) (i : Nat) : List SRuleD → MkD
  | [] => m
  | r :: rs => match rowsK ns r.params m [] (nodeS ns r.body).kids with | (m, alts) => bodiesM ns { m with rules := setAlts m.rules i alts } (i + 1) rs
def xFig (s : ByteArray) : Bool := match s.data.toList with | a :: b :: _ => decide (a = 120) && figT b.toNat | _ => false
def flatM (ns : List SNodeD) (rs : List SRuleD) : List RuleD :=
  (queueM ns 130 0 (bodiesM ns ⟨rs.map fun r => ⟨r.name, r.params, []⟩, [], 0⟩ 0 rs)).rules
def flatB (ns : List SNodeD) (rs : List SRuleD) : Option (List RuleD) := if rs.any (fun r => xFig r.name) = true then none else if gramB (flatM ns rs) = true then some (flatM ns rs) else none
def surfOkB (ns : List SNodeD) (rs : List SRuleD) : Bool := formB ns rs && (flatB ns rs).isSome
def readB (s : ByteArray) : Option (List SNodeD × List SRuleD) := match parseB s with | some (ns, rs) => if surfOkB ns rs = true then some (ns, rs) else none | none => none

end Go.Proofs.Ytipkbkhnaekceaa

namespace Go.Proofs.Ytipkbkhnaekceaa
open Go.RowKit
set_option linter.unusedVariables false

theorem kindR_kind {tk : List TokD} {r : RdD} {k : Int} {t : ByteArray} (h : kindR tk r k = some t) : ∃ hl : r.at_ < tk.length, tk[r.at_].kind = k ∧ tk[r.at_].text = t := by
  have h1 := kindR_lt h
  have hb := kindR_nb h
  refine ⟨h1, ?_⟩
  rw [kindR, if_neg (by rw [hb]; decide), List.getElem?_eq_getElem h1] at h
  simp only at h
  split at h
  · rename_i hk
    cases h; exact ⟨hk, rfl⟩
  · cases h
abbrev NoA : Nat → Prop := fun _ => False
/-- Between two rules: the reader, the rules so far, both boxes. -/
structure RsI (p : Nat) (lv : Value) (tk : List TokD) (w : World) (r : RdD) (rs : List SRuleD) (rv : Value) (W : World) : Prop where
  su : SuS NoA p p lv tk r W
  ob : W.heap[p + 1]? = some (.cells #[.slice none 0 0, rv] 81 (0, 0))
  rul : SRulesO p rv rs W
  rc : W.heap[w.heap.size]? = some (.cells #[.slice none 0 0, .slice none 0 0] 81 (0, 0))
  bel : Below w.heap.size w W
  lo : w.heap.size < p
section
variable {p : Nat} {lv rv : Value} {tk : List TokD} {w W W' : World} {r r' : RdD} {rs : List SRuleD}
theorem RsI.step (h : RsI p lv tk w r rs rv W) (hs : SuS NoA p p lv tk r' W') (hf : FrS p W W') : RsI p lv tk w r' rs rv W' :=
  ⟨hs, hf.typ _ _ _ _ h.ob (by decide), sRules_fr h.rul hf (by decide) (by decide), hf.typ _ _ _ _ h.rc (by decide), h.bel.trans (hf.bel.mono (Nat.le_of_lt h.lo)), h.lo⟩
end
/-- Within a rule: nothing of what lay at its start has turned but the reader; the rule's box; its params. -/
structure PrI (p : Nat) (lv ov : Value) (tk : List TokD) (W0 : World) (r : RdD) (name : ByteArray) (pv : Value) (ps : List ByteArray) (W : World) : Prop where
  rds : RdS p p lv ov tk r W
  xb : W.heap[W0.heap.size]? = some (.cells #[.string name, pv, .int .i64 0] 104 (0, 0))
  par : OwnB W0.heap.size pv ps W
  fr : FrR p W0 W
  size : W0.heap.size ≤ W.heap.size
  bw : p ≤ W0.heap.size
section
variable {p : Nat} {lv ov pv : Value} {tk : List TokD} {W0 W W' : World} {r r' : RdD} {name : ByteArray} {ps : List ByteArray}
theorem PrI.rdr (h : PrI p lv ov tk W0 r name pv ps W) (hr : RdB p lv ov r' W') (hf : FrR p W W') : PrI p lv ov tk W0 r' name pv ps W' :=
  ⟨h.rds.next hr hf, hf.typ _ _ _ _ h.xb (by decide), ownB_fr h.par hf (by decide), h.fr.trans hf, Nat.le_trans h.size hf.bel.size, h.bw⟩
/-- A param more. -/
theorem PrI.more {w3 : World} {gg cap : Nat} {t : ByteArray} (h : PrI p lv ov tk W0 r name pv ps W) (hpw : p < W0.heap.size)
    (hown : w3.ownsRow W0.heap.size 9 1 (.slice (some ⟨gg, 0, none⟩) (ps.length + 1) cap) (ps.length + 1) (sb ps ++ [.string t])) (hg : (W.alloc (.cells #[.string t] 9)).grownBy w3 pv.ownBlock) :
    PrI p lv ov tk W0 r name (.slice (some ⟨gg, 0, none⟩) (ps.length + 1) cap) (ps ++ [t]) (w3.setCell ⟨W0.heap.size, 1, none⟩ (.slice (some ⟨gg, 0, none⟩) (ps.length + 1) cap)) := by
  have bal : Below W.heap.size W (W.alloc (.cells #[.string t] 9)) := (Below.refl _ _).alloc (Nat.le_refl _) _
  have hp1 : OwnB W0.heap.size pv ps (W.alloc (.cells #[.string t] 9)) := own_below h.par bal
  have F3 : FrT [9] W0.heap.size W w3 := (FrT.below bal h.size).trans (fr_grown hp1 hg (by simp) (by simp; have := h.size; omega))
  have X3 := F3.typ _ _ _ _ h.xb (by decide)
  have F4 : FrT [104] W0.heap.size w3 (w3.setCell ⟨W0.heap.size, 1, none⟩ (.slice (some ⟨gg, 0, none⟩) (ps.length + 1) cap)) := fr_set _ X3 (by simp) (Nat.le_refl _)
  have hb : Below W0.heap.size W (w3.setCell ⟨W0.heap.size, 1, none⟩ (.slice (some ⟨gg, 0, none⟩) (ps.length + 1) cap)) := F3.bel.trans F4.bel
  have R3 : RdB p lv ov r w3 := F3.typ _ _ _ _ h.rds.rd (by decide)
  refine ⟨h.rds.go (by rw [RdB, setCell_other _ (by omega)]; exact R3) (hb.mono h.bw), by rw [setCell_self _ X3]; rfl, ?_, h.fr.new hb h.bw, Nat.le_trans h.size hb.size, h.bw⟩
  have e : sb (ps ++ [t]) = sb ps ++ [.string t] := by simp [sb]
  refine ownB_fr (ts := [104]) ?_ F4 (by decide)
  rw [OwnB, List.length_append, e]
  exact hown
end

section
variable {p : Nat} {lv ov pv rv : Value} {tk : List TokD} {w W0 W : World} {r r' : RdD} {name : ByteArray} {ps : List ByteArray} {rs : List SRuleD} {k : Int}
/-- Within a rule, seen from without. -/
theorem PrI.out (h : PrI p lv ov tk W0 r' name pv ps W) (hI : RsI p lv tk w r rs rv W0) (hN : SNodesO NoA p ov r.out W0) (ho : r'.out = r.out) : RsI p lv tk w r' rs rv W :=
  hI.step ⟨ov, h.rds, by rw [ho]; exact sNodes_rd hN h.fr⟩ (FrR.toS h.fr)
/-- A rule more. -/
theorem RsI.rule {w3 : World} {gg cap : Nat} {cs : List Value} (h : RsI p lv tk w r rs rv W) (hp : OwnB p pv ps W)
    (hcs : W.ownsRow p 104 3 rv rs.length cs)
    (hsn : ∀ (v' : Value) (w2 : World) (vs : List Value) (x : SRuleD), vs.length = 3 → w2.ownsRow p 104 3 v' (rs.length + 1) (cs ++ vs) → (∀ vs y, SRuleV p W vs y → SRuleV p w2 vs y) → SRuleV p w2 vs x → RowO 3 104 (SRuleV p) p v' (rs ++ [x]) w2)
    (hown : w3.ownsRow p 104 3 (.slice (some ⟨gg, 0, none⟩) (rs.length + 1) cap) (rs.length + 1) (cs ++ [.string name, pv, .int .i64 k])) (hg : (W.alloc (.cells #[.string name, pv, .int .i64 k] 104)).grownBy w3 rv.ownBlock) :
    RsI p lv tk w r (rs ++ [⟨name, ps, k⟩]) (.slice (some ⟨gg, 0, none⟩) (rs.length + 1) cap) (w3.setCell ⟨p + 1, 1, none⟩ (.slice (some ⟨gg, 0, none⟩) (rs.length + 1) cap)) := by
  obtain ⟨ov, hR, hN⟩ := h.su
  have hpW : p ≤ W.heap.size := hR.lt
  have bal : Below W.heap.size W (W.alloc (.cells #[.string name, pv, .int .i64 k] 104)) := (Below.refl _ _).alloc (Nat.le_refl _) _
  have F3 : FrT [104] p W w3 := (FrT.below bal hpW).trans (fr_grown (World.ownsRow.alloc hcs _) hg (by simp) (by simp; omega))
  have O3 : w3.heap[p + 1]? = some (.cells #[.slice none 0 0, rv] 81 (0, 0)) := F3.typ _ _ _ _ h.ob (by decide)
  have F4 : FrT [81] p w3 (w3.setCell ⟨p + 1, 1, none⟩ (.slice (some ⟨gg, 0, none⟩) (rs.length + 1) cap)) := fr_set _ O3 (by simp) (by omega)
  have hlo := h.lo
  refine ⟨⟨ov, hR.go (F4.typ _ _ _ _ (F3.typ _ _ _ _ hR.rd (by decide)) (by decide)) (F3.bel.trans F4.bel), sNodes_fr (sNodes_fr hN F3 (by decide) (by decide) (by decide) (by decide)) F4 (by decide) (by decide) (by decide) (by decide)⟩, by rw [setCell_self _ O3]; rfl, ?_, ?_, h.bel.trans ((F3.bel.trans F4.bel).mono (Nat.le_of_lt hlo)), hlo⟩
  · refine sRules_fr ?_ F4 (by decide) (by decide)
    exact hsn _ w3 [.string name, pv, .int .i64 k] ⟨name, ps, k⟩ rfl hown (fun vs y hy => sRuleV_fr hy F3 (by decide)) ⟨pv, rfl, ownB_fr hp F3 (by decide)⟩
  · rw [setCell_other _ (by omega)]
    exact F3.typ _ _ _ _ h.rc (by decide)
end
theorem ownB_nil11 (B : Nat) (w : World) : OwnB B (.slice none 0 0) [] w := World.ownsRow_nil _ _ _ _
/-- A rule's alternatives: what is asked of the reader. -/
theorem askAlts {tk : List TokD} {r : RdD} (hT : Tk200 tk) (hat : r.at_ ≤ tk.length) (hd : r.deep = 0) (ho : r.out.length ≤ 4 * r.at_ + 8) : AskS tk fuelE .alts r := by
  have h1 := hT.len
  have hf : fuelE = 4000 := rfl
  exact ⟨hT, hat, by rw [hf]; simp only [rankS]; omega, by rw [hf, hd]; decide, by rw [hf, hd]; decide, by rw [hf]; omega⟩

/-! ### what rulesR is, case by case (by 'rfl': its own equation is not come by otherwise) -/
def nameR (F P : Nat) (tk : List TokD) (f : Nat) (r : RdD) (rs : List SRuleD) (t : ByteArray) : Option (List SNodeD × List SRuleD) :=
  if (wantR tk (onR r) arrow).bad = true then none else rulesR F P tk f (wantR tk (suF tk F .alts (wantR tk (onR r) arrow) []).1 (s1 59)) (rs ++ [⟨t, [], (suF tk F .alts (wantR tk (onR r) arrow) []).2.getD 0⟩])
def openR (F P : Nat) (tk : List TokD) (f : Nat) (r : RdD) (rs : List SRuleD) (t : ByteArray) : Option (List SNodeD × List SRuleD) :=
  if (parsR tk P (onR r) [] true).2.2 = false ∨ (wantR tk (wantR tk (parsR tk P (onR r) [] true).1 (s1 41)) arrow).bad = true then none
  else rulesR F P tk f (wantR tk (suF tk F .alts (wantR tk (wantR tk (parsR tk P (onR r) [] true).1 (s1 41)) arrow) []).1 (s1 59)) (rs ++ [⟨t, (parsR tk P (onR r) [] true).2.1, (suF tk F .alts (wantR tk (wantR tk (parsR tk P (onR r) [] true).1 (s1 41)) arrow) []).2.getD 0⟩])
theorem rulesR_eq0 (F P : Nat) (tk : List TokD) (f : Nat) (r : RdD) (rs : List SRuleD) : rulesR F P tk (f + 1) r rs = if r.bad = true then none
    else if r.at_ < tk.length then
      match kindR tk r 1 with
      | some t => match suF tk F .alts (wantR tk (onR r) arrow) [] with
        | (q, k) => if (wantR tk (onR r) arrow).bad = true then none else rulesR F P tk f (wantR tk q (s1 59)) (rs ++ [⟨t, [], k.getD 0⟩])
      | none => match kindR tk r 6 with
        | some t => match parsR tk P (onR r) [] true with
          | (q, ps, ok) => match wantR tk (wantR tk q (s1 41)) arrow with
            | q => if ok = false ∨ q.bad = true then none else match suF tk F .alts q [] with
              | (q, k) => rulesR F P tk f (wantR tk q (s1 59)) (rs ++ [⟨t, ps, k.getD 0⟩])
        | none => none
    else some (r.out, rs) := rfl
theorem nameR_eq (F P : Nat) (tk : List TokD) (f : Nat) (r : RdD) (rs : List SRuleD) (t : ByteArray) : (match suF tk F .alts (wantR tk (onR r) arrow) [] with
        | (q, k) => if (wantR tk (onR r) arrow).bad = true then none else rulesR F P tk f (wantR tk q (s1 59)) (rs ++ [⟨t, [], k.getD 0⟩])) = nameR F P tk f r rs t := by
  unfold nameR
  generalize suF tk F .alts (wantR tk (onR r) arrow) [] = q
  obtain ⟨a, b⟩ := q
  rfl
theorem openR_eq (F P : Nat) (tk : List TokD) (f : Nat) (r : RdD) (rs : List SRuleD) (t : ByteArray) : (match parsR tk P (onR r) [] true with
          | (q, ps, ok) => match wantR tk (wantR tk q (s1 41)) arrow with
            | q => if ok = false ∨ q.bad = true then none else match suF tk F .alts q [] with
              | (q, k) => rulesR F P tk f (wantR tk q (s1 59)) (rs ++ [⟨t, ps, k.getD 0⟩])) = openR F P tk f r rs t := by
  unfold openR
  generalize parsR tk P (onR r) [] true = x
  obtain ⟨a, ps, ok⟩ := x
  rfl
theorem rulesR_eq (F P : Nat) (tk : List TokD) (f : Nat) (r : RdD) (rs : List SRuleD) : rulesR F P tk (f + 1) r rs = if r.bad = true then none else if r.at_ < tk.length then
    (match kindR tk r 1 with
    | some t => nameR F P tk f r rs t
    | none => match kindR tk r 6 with
      | some t => openR F P tk f r rs t
      | none => none) else some (r.out, rs) := by
  rw [rulesR_eq0]
  by_cases h0 : r.bad = true
  · rw [if_pos h0, if_pos h0]
  rw [if_neg h0, if_neg h0]
  by_cases h1 : r.at_ < tk.length
  · rw [if_pos h1, if_pos h1]
    cases kindR tk r 1 with
    | some t => exact nameR_eq F P tk f r rs t
    | none =>
      simp only
      cases kindR tk r 6 with
      | some t => exact openR_eq F P tk f r rs t
      | none => rfl
  · rw [if_neg h1, if_neg h1]
theorem rulesR_bad {F P : Nat} {tk : List TokD} {f : Nat} {r : RdD} {rs : List SRuleD} (h : r.bad = true) : rulesR F P tk (f + 1) r rs = none := by
  rw [rulesR_eq, if_pos h]
theorem rulesR_end {F P : Nat} {tk : List TokD} {f : Nat} {r : RdD} {rs : List SRuleD} (h : r.bad = false) (ha : ¬ r.at_ < tk.length) : rulesR F P tk (f + 1) r rs = some (r.out, rs) := by
  rw [rulesR_eq, if_neg (by rw [h]; decide), if_neg ha]
theorem rulesR_name {F P : Nat} {tk : List TokD} {f : Nat} {r : RdD} {rs : List SRuleD} {t : ByteArray} (h : kindR tk r 1 = some t) : rulesR F P tk (f + 1) r rs = nameR F P tk f r rs t := by
  rw [rulesR_eq, if_neg (by rw [kindR_nb h]; decide), if_pos (kindR_lt h), h]
theorem rulesR_open {F P : Nat} {tk : List TokD} {f : Nat} {r : RdD} {rs : List SRuleD} {t : ByteArray} (h1 : kindR tk r 1 = none) (h : kindR tk r 6 = some t) : rulesR F P tk (f + 1) r rs = openR F P tk f r rs t := by
  rw [rulesR_eq, if_neg (by rw [kindR_nb h]; decide), if_pos (kindR_lt h), h1]
  simp only
  rw [h]
theorem rulesR_not {F P : Nat} {tk : List TokD} {f : Nat} {r : RdD} {rs : List SRuleD} (hb : r.bad = false) (ha : r.at_ < tk.length) (h1 : kindR tk r 1 = none) (h : kindR tk r 6 = none) : rulesR F P tk (f + 1) r rs = none := by
  rw [rulesR_eq, if_neg (by rw [hb]; decide), if_pos ha, h1]
  simp only
  rw [h]
/-- A box of a rule's written: what is of another type stays. -/
theorem RsI.boxed {p : Nat} {lv rv : Value} {tk : List TokD} {w W : World} {r : RdD} {rs : List SRuleD} {bx j : Nat} {c : Array Value} {u : Value} (h : RsI p lv tk w r rs rv W) (hb : W.heap[bx]? = some (.cells c 104 (0, 0))) (hr : rv.ownBlock ≠ some bx) (hp : p ≤ bx) : RsI p lv tk w r rs rv (W.setCell ⟨bx, j, none⟩ u) := by
  have F : FrT [104] p W (W.setCell ⟨bx, j, none⟩ u) := fr_set _ hb (by simp) hp
  obtain ⟨ov, hR, hN⟩ := h.su
  refine ⟨⟨ov, hR.go (F.typ _ _ _ _ hR.rd (by decide)) F.bel, sNodes_fr hN F (by decide) (by decide) (by decide) (by decide)⟩, F.typ _ _ _ _ h.ob (by decide), ?_, F.typ _ _ _ _ h.rc (by decide), h.bel.trans (F.bel.mono (Nat.le_of_lt h.lo)), h.lo⟩
  exact RowO.world h.rul (fun _ _ h3 => World.ownsRow.kept h3 (grown_setCell W bx j u) (.inr hr)) (fun _ _ hx => sRuleV_fr hx F (by decide))

end Go.Proofs.Ytipkbkhnaekceaa

namespace Go.Proofs.Ytipkbkhnaekceaa
open Go.RowKit
set_option linter.unusedVariables false

theorem bel_drewS {B : Nat} {a w : World} (h : Below B a w) : Below B a w.drew := ⟨h.os, h.tape, h.output, h.size, h.block⟩
theorem RowC.imp {α : Type} {sz : Nat} {E E' : World → List Value → α → Prop} {w : World} {v : Value} {xs : List α} (h : RowC sz E w v xs) (hE : ∀ vs x, E w vs x → E' w vs x) : RowC sz E' w v xs := by
  obtain ⟨a, cap, rfl, hcap, hh⟩ := h
  refine ⟨a, cap, rfl, hcap, fun h0 => ?_⟩
  obtain ⟨b, off, rfl, hlt, hc⟩ := hh h0
  refine ⟨b, off, rfl, hlt, fun i hi => ?_⟩
  obtain ⟨vs, h1, h2, h3⟩ := hc i hi
  exact ⟨vs, h1, h2, hE _ _ h3⟩
theorem nRow_ofA {A : Nat → Prop} {B : Nat} {w : World} {v : Value} {ns : List NodeD} (h : NodesA A B v ns w) : NRow w v ns := by
  obtain ⟨a, cap, rfl, hcap, hh⟩ := RowO.row h
  refine ⟨a, cap, rfl, hcap, fun h0 => ?_⟩
  obtain ⟨b, off, rfl, hlt, hc⟩ := hh h0
  refine ⟨b, off, rfl, hlt, fun i hi => ?_⟩
  obtain ⟨vs, h1, h2, kv, rfl, hz, _⟩ := hc i hi
  exact ⟨kv, h2 0 (by simp), h2 1 (by simp), h2 2 (by simp), h2 3 (by simp), hz.row⟩

/-- A node's cells. -/
def SNodeE (w : World) (vs : List Value) (x : SNodeD) : Prop := ∃ r0 r1 : Value, vs = [.int .i64 x.kind, .string x.text, r0, .string x.bind, r1] ∧ RowC 1 ExprE w r0 x.args ∧ IRow w r1 x.kids
theorem SNodeE_stable : StableE SNodeE := fun w w' vs x h hb => by
  obtain ⟨r0, r1, e, h0, h1⟩ := h
  exact ⟨r0, r1, e, RowC.below ExprE_stable h0 hb, h1.below hb⟩
/-- A rule's cells. -/
def SRuleE (w : World) (vs : List Value) (x : SRuleD) : Prop := ∃ r0 : Value, vs = [.string x.name, r0, .int .i64 x.body] ∧ SRow w r0 x.params
theorem SRuleE_stable : StableE SRuleE := fun w w' vs x h hb => by
  obtain ⟨r0, e, h0⟩ := h
  exact ⟨r0, e, h0.below hb⟩
def SNs (w : World) (v : Value) (ns : List SNodeD) : Prop := RowC 5 SNodeE w v ns
def SRs (w : World) (v : Value) (rs : List SRuleD) : Prop := RowC 3 SRuleE w v rs
theorem sNs_below {w w' : World} {v : Value} {ns : List SNodeD} (h : SNs w v ns) (hb : Below w.heap.size w w') : SNs w' v ns := RowC.below SNodeE_stable h hb
theorem sRs_below {w w' : World} {v : Value} {rs : List SRuleD} (h : SRs w v rs) (hb : Below w.heap.size w w') : SRs w' v rs := RowC.below SRuleE_stable h hb
theorem sNs_of {A : Nat → Prop} {B : Nat} {w : World} {v : Value} {ns : List SNodeD} (h : SNodesO A B v ns w) : SNs w v ns := RowC.imp (RowO.row h) fun vs x hx => by
  obtain ⟨av, kv, rfl, ha, hk, _⟩ := hx
  exact ⟨av, kv, rfl, RowC.imp (RowO.row ha) (fun vs e he => by
    obtain ⟨nv, rfl, hn⟩ := he
    exact ⟨nv, rfl, nRow_ofA hn⟩), hk.row⟩
theorem sRs_of {B : Nat} {w : World} {v : Value} {rs : List SRuleD} (h : SRulesO B v rs w) : SRs w v rs := RowC.imp (RowO.row h) fun vs x hx => by
  obtain ⟨pv, rfl, hp⟩ := hx
  exact ⟨pv, rfl, hp.row⟩

/-- A surface's box at a call's start. -/
structure SBox (ns : List SNodeD) (rs : List SRuleD) (W : World) (an ar : Option Addr) (cn cr : Nat) (W1 : World) : Prop where
  box : W1.heap[W.heap.size]? = some (.cells #[.slice an ns.length cn, .slice ar rs.length cr] 81 (0, 0))
  nod : SNs W1 (.slice an ns.length cn) ns
  rul : SRs W1 (.slice ar rs.length cr) rs
  bel : Below W.heap.size W W1
theorem sbox_of {ns : List SNodeD} {rs : List SRuleD} {W : World} {an ar : Option Addr} {cn cr : Nat} (hN : SNs W (.slice an ns.length cn) ns) (hR : SRs W (.slice ar rs.length cr) rs) :
    SBox ns rs W an ar cn cr (W.alloc (.cells #[.slice an ns.length cn, .slice ar rs.length cr] 81)) := by
  have bal : Below W.heap.size W (W.alloc (.cells #[.slice an ns.length cn, .slice ar rs.length cr] 81)) := (Below.refl _ _).alloc (Nat.le_refl _) _
  exact ⟨heap_alloc_new W _, sNs_below hN bal, sRs_below hR bal, bal⟩
theorem SBox.step {ns : List SNodeD} {rs : List SRuleD} {W : World} {an ar : Option Addr} {cn cr : Nat} {w1 w2 : World} (h : SBox ns rs W an ar cn cr w1) (hb : Below w1.heap.size w1 w2) : SBox ns rs W an ar cn cr w2 :=
  ⟨(hb.block _ (Array.getElem?_eq_some_iff.1 h.box).1).trans h.box, sNs_below h.nod hb, sRs_below h.rul hb, h.bel.trans (hb.mono h.bel.size)⟩
theorem nodeS_lt {ns : List SNodeD} {i : Nat} (h : i < ns.length) : nodeS ns (i : Int) = ns[i] := by
  rw [nodeS, Int.toNat_natCast, List.getD_eq_getElem?_getD, List.getElem?_eq_getElem h]; rfl
/-- A node, opened: its cells. -/
theorem sNs_at {w : World} {a : Option Addr} {n cap i : Nat} {ns : List SNodeD} (h : SNs w (.slice a n cap) ns) (hi : i < ns.length) :
    ∃ b off aa ca ka ck, a = some ⟨b, off, none⟩ ∧ w.cell? ⟨b, off + i * 5, none⟩ = some (.int .i64 ns[i].kind) ∧ w.cell? ⟨b, off + i * 5 + 1, none⟩ = some (.string ns[i].text) ∧ w.cell? ⟨b, off + i * 5 + 2, none⟩ = some (.slice aa ns[i].args.length ca) ∧ w.cell? ⟨b, off + i * 5 + 3, none⟩ = some (.string ns[i].bind) ∧ w.cell? ⟨b, off + i * 5 + 4, none⟩ = some (.slice ka ns[i].kids.length ck) ∧ RowC 1 ExprE w (.slice aa ns[i].args.length ca) ns[i].args ∧ IRow w (.slice ka ns[i].kids.length ck) ns[i].kids := by
  obtain ⟨b, off, vs, rfl, _, hc, r0, r1, rfl, h0, h1⟩ := RowC.at h hi
  obtain ⟨aa, ca, rfl⟩ := h0.slice
  obtain ⟨ka, ck, rfl⟩ := h1.slice
  exact ⟨b, off, aa, ca, ka, ck, rfl, hc 0 (by simp), hc 1 (by simp), hc 2 (by simp), hc 3 (by simp), hc 4 (by simp), h0, h1⟩
theorem sRs_at {w : World} {a : Option Addr} {n cap i : Nat} {rs : List SRuleD} (h : SRs w (.slice a n cap) rs) (hi : i < rs.length) :
    ∃ b off pa pc, a = some ⟨b, off, none⟩ ∧ w.cell? ⟨b, off + i * 3, none⟩ = some (.string rs[i].name) ∧ w.cell? ⟨b, off + i * 3 + 1, none⟩ = some (.slice pa rs[i].params.length pc) ∧ w.cell? ⟨b, off + i * 3 + 2, none⟩ = some (.int .i64 rs[i].body) ∧ SRow w (.slice pa rs[i].params.length pc) rs[i].params := by
  obtain ⟨b, off, vs, rfl, _, hc, r0, rfl, h0⟩ := RowC.at h hi
  obtain ⟨pa, pc, rfl⟩ := h0.slice
  exact ⟨b, off, pa, pc, rfl, hc 0 (by simp), hc 1 (by simp), hc 2 (by simp), h0⟩

end Go.Proofs.Ytipkbkhnaekceaa

namespace Go.Proofs.Ytipkbkhnaekceaa
open Go.RowKit
set_option linter.unusedVariables false
variable {α : Type}

/-- What is told of a world is told of every world that has its blocks but those of A. -/
def Held (A : Nat → Prop) (w : World) (P : World → Prop) : Prop := ∀ W : World, w.heap.size ≤ W.heap.size → (∀ k, k < w.heap.size → ¬ A k → W.heap[k]? = w.heap[k]?) → P W
/-- Of what was there only blocks of A turned. -/
structure FrA (A : Nat → Prop) (w w' : World) : Prop where
  size : w.heap.size ≤ w'.heap.size
  block : ∀ k, k < w.heap.size → ¬ A k → w'.heap[k]? = w.heap[k]?
section
variable {A A' : Nat → Prop} {B : Nat} {w w' w1 w2 : World} {P Q : World → Prop}
theorem Held.here (h : Held A w P) : P w := h w (Nat.le_refl _) (fun _ _ _ => rfl)
theorem Held.imp (h : Held A w P) (hi : ∀ W, P W → Q W) : Held A w Q := fun W h1 h2 => hi W (h W h1 h2)
theorem Held.and (h : Held A w P) (k : Held A w Q) : Held A w fun W => P W ∧ Q W := fun W h1 h2 => ⟨h W h1 h2, k W h1 h2⟩
theorem Held.away (h : Held A w P) (hA : ∀ k, k < w.heap.size → A' k → A k) : Held A' w P := fun W h1 h2 => h W h1 (fun k hk ha => h2 k hk (fun ha' => ha (hA k hk ha')))
theorem Held.fr (h : Held A w P) (hf : FrA A w w') : Held A w' P := fun W h1 h2 => h W (Nat.le_trans hf.size h1) (fun k hk ha => (h2 k (Nat.lt_of_lt_of_le hk hf.size) ha).trans (hf.block k hk ha))
/-- Behind a step by which only A turned, with other blocks to come. -/
theorem Held.go (h : Held A w P) (hf : FrA A w w') (hA : ∀ k, k < w.heap.size → A' k → A k) : Held A' w' P := fun W h1 h2 => h W (Nat.le_trans hf.size h1) (fun k hk ha => (h2 k (Nat.lt_of_lt_of_le hk hf.size) (fun ha' => ha (hA k hk ha'))).trans (hf.block k hk ha))
theorem Held.of_fresh (h : Fresh B w P) (hA : ∀ k, A k → k < B) : Held A w P := fun W h1 h2 => h W h1 (fun k hk hlt => h2 k hlt (fun ha => by have := hA k ha; omega))
theorem FrA.refl (A : Nat → Prop) (w : World) : FrA A w w := ⟨Nat.le_refl _, fun _ _ _ => rfl⟩
theorem FrA.trans (h : FrA A w w1) (k : FrA A' w1 w2) (hA : ∀ k, k < w.heap.size → A' k → A k) : FrA A w w2 :=
  ⟨Nat.le_trans h.size k.size, fun b hb ha => (k.block b (Nat.lt_of_lt_of_le hb h.size) (fun ha' => ha (hA b hb ha'))).trans (h.block b hb ha)⟩
theorem FrA.wide (h : FrA A w w') (hA : ∀ k, k < w.heap.size → A k → A' k) : FrA A' w w' := ⟨h.size, fun k hk ha => h.block k hk (fun ha' => ha (hA k hk ha'))⟩
theorem FrA.below (h : Below w.heap.size w w') : FrA A w w' := ⟨h.size, fun k hk _ => h.block k hk⟩
theorem FrA.set {p j : Nat} (u : Value) (hp : A p) : FrA A w (w.setCell ⟨p, j, none⟩ u) := ⟨by simp [World.setCell], fun k _ ha => setCell_other u (fun e => ha (e ▸ hp))⟩
theorem FrA.grown {r : Option Nat} (hg : w.grownBy w' r) (hr : ∀ k, r = some k → A k) : FrA A w w' := ⟨hg.size, fun k hk ha => hg.block k hk (fun e => ha (hr k e.symm))⟩
end

/-- An element whose reach is held. -/
def HE (A : Nat → Prop) (E : World → List Value → α → Prop) (w : World) (vs : List Value) (x : α) : Prop := Held A w fun W => E W vs x
/-- A list that the call owns, what its elements reach held. -/
abbrev RowH (sz : Nat) (T : TypeId) (E : World → List Value → α → Prop) (A : Nat → Prop) (B : Nat) (v : Value) (xs : List α) (w : World) : Prop := RowO sz T (HE A E) B v xs w
section
variable {sz : Nat} {T : TypeId} {E : World → List Value → α → Prop} {A A' : Nat → Prop} {B : Nat} {v : Value} {xs : List α} {w w' : World}
theorem RowH.rowC (h : RowH sz T E A B v xs w) : RowC sz E w v xs := by
  obtain ⟨a, cap, rfl, hcap, hh⟩ := RowO.row h
  refine ⟨a, cap, rfl, hcap, fun h0 => ?_⟩
  obtain ⟨b, off, rfl, hlt, hc⟩ := hh h0
  exact ⟨b, off, rfl, hlt, fun i hi => (hc i hi).imp fun vs h => ⟨h.1, h.2.1, h.2.2.here⟩⟩
/-- Behind a step by which only A turned, and not the row. -/
theorem RowH.go (h : RowH sz T E A B v xs w) (hf : FrA A w w') (hA : ∀ k, k < w.heap.size → A' k → A k) (hv : ∀ k, v.ownBlock = some k → w'.heap[k]? = w.heap[k]?) : RowH sz T E A' B v xs w' := by
  obtain ⟨vss, h1, h2, h3, h4⟩ := h
  refine ⟨vss, h1, h2, ⟨h3.1, ?_⟩, fun i hi hi' => Held.go (h4 i hi hi') hf hA⟩
  rcases h3.2 with hn | ⟨g, cap, cur, rfl, hB, hc, r⟩
  · exact .inl hn
  · exact .inr ⟨g, cap, cur, rfl, hB, (hv g rfl).trans hc, r⟩
theorem RowH.below (h : RowH sz T E A B v xs w) (hb : Below w.heap.size w w') : RowH sz T E A B v xs w' :=
  RowH.go h (FrA.below hb) (fun _ _ ha => ha) (fun k hk => hb.block k (RowO.lt h k hk).2)
/-- The list itself is held, if its row is none of A. -/
theorem RowH.held (h : RowH sz T E A B v xs w) (hv : ∀ k, v.ownBlock = some k → ¬ A k) : Held A w fun W => RowC sz E W v xs := by
  intro W hW hbl
  obtain ⟨vss, h1, h2, h3, h4⟩ := h
  have h3' : W.ownsRow B T sz v xs.length vss.flatten := by
    refine ⟨h3.1, ?_⟩
    rcases h3.2 with hn | ⟨g, cap, cur, rfl, hB, hc, r⟩
    · exact .inl hn
    · exact .inr ⟨g, cap, cur, rfl, hB, (hbl g (Array.getElem?_eq_some_iff.1 hc).1 (hv g rfl)).trans hc, r⟩
  exact RowO.row (sz := sz) (T := T) (E := E) (B := B) ⟨vss, h1, h2, h3', fun i hi hi' => h4 i hi hi' W hW hbl⟩
theorem RowH.nil : RowH sz T E A B (.slice none 0 0) ([] : List α) w := RowO.nil
/-- One more element, appended: out of what wpList_append_lies tells. -/
theorem RowH.snoc (h : RowH sz T E A B v xs w) : ∃ cs, w.ownsRow B T sz v xs.length cs ∧ ∀ (g cap : Nat) (w1 w2 : World) (vs : List Value) (x : α), vs.length = sz → FrA A w w1 → w2.ownsRow B T sz (.slice (some ⟨g, 0, none⟩) (xs.length + 1) cap) (xs.length + 1) (cs ++ vs) → w1.grownBy w2 v.ownBlock → (∀ k, v.ownBlock = some k → A k) → (∀ k, k < w.heap.size → A' k → A k) → Held A' w2 (fun W => E W vs x) → RowH sz T E A' B (.slice (some ⟨g, 0, none⟩) (xs ++ [x]).length cap) (xs ++ [x]) w2 := by
  obtain ⟨vss, h1, h2, h3, h4⟩ := h
  refine ⟨vss.flatten, h3, fun g cap w1 w2 vs x hl hf ho2 hg hvA hA hx => ?_⟩
  have hfr : FrA A w w2 := hf.trans (FrA.grown hg hvA) (fun _ _ ha => ha)
  have e : (xs ++ [x]).length = xs.length + 1 := by simp
  rw [e]
  refine ⟨vss ++ [vs], by simp [h1], fun u hu => ?_, by rw [e]; simpa using ho2, fun i hi hi' => ?_⟩
  · rcases List.mem_append.1 hu with hu | hu
    · exact h2 u hu
    · rw [List.mem_singleton.1 hu]; exact hl
  · by_cases hlt : i < vss.length
    · rw [List.getElem_append_left hlt, List.getElem_append_left (by omega)]
      exact Held.go (h4 i hlt (by omega)) hfr hA
    · have e : i = vss.length := by simp at hi; omega
      subst e
      rw [List.getElem_append_right (Nat.le_refl _), List.getElem_append_right (by omega)]
      simp only [Nat.sub_self, h1]
      exact hx
end

end Go.Proofs.Ytipkbkhnaekceaa

namespace Go.Proofs.Ytipkbkhnaekceaa
open Go.RowKit
set_option linter.unusedVariables false
variable {α : Type}

/-- The blocks below B, and the row's own. -/
def Own0 (B : Nat) (v : Value) : Nat → Prop := fun k => k < B ∨ v.ownBlock = some k
section
variable {sz : Nat} {T : TypeId} {E : World → List Value → α → Prop} {A A' : Nat → Prop} {B : Nat} {v : Value} {xs : List α} {w w' : World}
theorem RowH.add (h : RowH sz T E A B v xs w) (hvA : ∀ k, v.ownBlock = some k → A k) : ∃ cs, w.ownsRow B T sz v xs.length cs ∧ ∀ (g cap : Nat) (w2 : World) (vs : List Value) (x : α) (A' : Nat → Prop), vs.length = sz → Held A w (fun W => E W vs x) → w2.ownsRow B T sz (.slice (some ⟨g, 0, none⟩) (xs.length + 1) cap) (xs.length + 1) (cs ++ vs) → w.grownBy w2 v.ownBlock → (∀ k, k < w.heap.size → A' k → A k) → RowH sz T E A' B (.slice (some ⟨g, 0, none⟩) (xs.length + 1) cap) (xs ++ [x]) w2 := by
  obtain ⟨vss, h1, h2, h3, h4⟩ := h
  refine ⟨vss.flatten, h3, fun g cap w2 vs x A' hl hx ho2 hg hA => ?_⟩
  have hfr : FrA A w w2 := FrA.grown hg hvA
  have e : (xs ++ [x]).length = xs.length + 1 := by simp
  refine ⟨vss ++ [vs], by simp [h1], fun u hu => ?_, by rw [e]; simpa using ho2, fun i hi hi' => ?_⟩
  · rcases List.mem_append.1 hu with hu | hu
    · exact h2 u hu
    · rw [List.mem_singleton.1 hu]; exact hl
  · by_cases hlt : i < vss.length
    · rw [List.getElem_append_left hlt, List.getElem_append_left (by omega)]
      exact Held.go (h4 i hlt (by omega)) hfr hA
    · have e : i = vss.length := by simp at hi; omega
      subst e
      rw [List.getElem_append_right (Nat.le_refl _), List.getElem_append_right (by omega)]
      simp only [Nat.sub_self, h1]
      exact Held.go hx hfr hA
theorem own_next {g n c H B : Nat} (hat : v.ownBlock = some g ∨ g = H) (hH : w.heap.size = H) : ∀ k, k < w.heap.size → Own0 B (.slice (some ⟨g, 0, none⟩) n c) k → Own0 B v k := fun k hk h => by
  rcases h with h | h
  · exact .inl h
  · have e : g = k := Option.some.inj h
    rcases hat with h2 | h2
    · exact .inr (by rw [← e]; exact h2)
    · omega
theorem own0_lt (h : RowH sz T E A B v xs w) (hB : B ≤ w.heap.size) : ∀ k, Own0 B v k → k < w.heap.size := fun k hk => by
  rcases hk with hk | hk
  · omega
  · exact (RowO.lt h k hk).2
/-- A list that is built of new memory alone. -/
theorem RowH.fresh (h : RowH sz T E (Own0 B v) B v xs w) : Fresh B w fun W => RowC sz E W v xs := by
  have h2 : RowH sz T E (fun k => k < B) B v xs w := RowH.go h (FrA.refl _ _) (fun k _ hk => .inl hk) (fun _ _ => rfl)
  have h3 := RowH.held h2 (fun k hk hlt => by have := (RowO.lt h k hk).1; omega)
  exact fun W h4 h5 => h3 W h4 (fun k hk hn => h5 k (Nat.le_of_not_lt hn) hk)
theorem RowH.made0 (w : World) : RowH sz T E (Own0 w.heap.size (.slice (some ⟨w.heap.size, 0, none⟩) 0 0)) w.heap.size (.slice (some ⟨w.heap.size, 0, none⟩) 0 0) ([] : List α) (w.alloc (.cells #[] T)) := RowO.made (Nat.le_refl _)
end
/-- Nodes of an expression, as cells of a row. -/
def NodE (w : World) (vs : List Value) (x : NodeD) : Prop := ∃ kv : Value, vs = [.int .i64 x.op, .int .i64 x.num, .string x.name, kv] ∧ IRow w kv x.kids
theorem nRow_ofC {w : World} {v : Value} {ns : List NodeD} (h : RowC 4 NodE w v ns) : NRow w v ns := by
  obtain ⟨a, cap, rfl, hcap, hh⟩ := h
  refine ⟨a, cap, rfl, hcap, fun h0 => ?_⟩
  obtain ⟨b, off, rfl, hlt, hc⟩ := hh h0
  refine ⟨b, off, rfl, hlt, fun i hi => ?_⟩
  obtain ⟨vs, h1, h2, kv, rfl, hz⟩ := hc i hi
  exact ⟨kv, h2 0 (by simp), h2 1 (by simp), h2 2 (by simp), h2 3 (by simp), hz⟩
/-- A whole list of numbers appended to one that the call owns; nil or not. -/
theorem append_intsF {P : Program} {w : World} {ops : Array Oper} {rest : List Oper} {o : Oper} {a : Act} {Q : Exit → Act → World → Prop} (hgd : o.guard = none) (s x : Operand) (t : TypeId)
    (ho : o.op = .call { callee := .builtin .append, args := #[s, x], argTypes := #[t, t] })
    (base : Nat) (e : TypeId) (i : TypeInfo) (z : Value) (ht : P.underlying t = some (.slice e)) (hi : P.info? e = some i) (hz : i.zero = some z)
    (hsize : i.size = 1) (hby : i.bytes = 8) (hzs : z.cells.size = 1)
    (v : Value) (n : Nat) (xs : List Value) (hs : a.eval s = v) (hown : w.ownsRow base e 1 v n xs) (ps : List Int) (pa : Option Addr) (c : Nat) (hx : a.eval x = .slice pa ps.length c) (hp : IRow w (.slice pa ps.length c) ps)
    (hl : n + ps.length ≤ 4194304) (hbase : base ≤ w.heap.size)
    (h : ∀ v' w', w'.ownsRow base e 1 v' (n + ps.length) (xs ++ zv ps) → w.grownBy w' v.ownBlock → wpList P ops Q rest (a.put o.dst v') w') : wpList P ops Q (o :: rest) a w := by
  obtain ⟨pa', c', e1, hcap, hh⟩ := hp
  cases e1
  cases pa with
  | none =>
    have h0 : ps.length = 0 := by
      rcases Nat.eq_zero_or_pos ps.length with h | h
      · exact h
      · obtain ⟨_, _, e, _⟩ := hh h
        cases e
    obtain rfl : ps = [] := List.length_eq_zero_iff.1 h0
    obtain rfl := hcap rfl
    refine wpList_append_own_none hgd s x t ho base e i 1 ht hi v n xs hs hown hx (h v w ?_ (World.grownBy.refl _ _))
    simpa [zv] using hown
  | some ad =>
    refine wpList_append_own w hgd s x t ho base e i z 1 8 ht hi hz hsize hby hzs (by decide) v n xs hs hown ad ps.length c (zv ps) hx (by rw [zv_len, Nat.mul_one]) (fun j u hj => ?_) (fun u hu => ?_) (by unfold maxLen; omega) (by omega) hbase (fun v' w' h1 h2 _ => h v' w' h1 h2)
    · have hj2 : j < ps.length := by
        have := (List.getElem?_eq_some_iff.1 hj).1
        rwa [zv_len] at this
      obtain ⟨b, off, e, _, hc⟩ := hh (by omega)
      cases e
      have e2 : (zv ps)[j]? = some (.int .i64 ps[j]) := by simp [zv, hj2]
      rw [e2] at hj
      rw [← Option.some.inj hj, Addr.add_lit]
      exact hc j hj2
    · obtain ⟨s, _, rfl⟩ := List.mem_map.1 hu
      rfl
/-- A whole list of texts appended to one that the call owns; nil or not: as one step of a region that draws. -/
theorem step_append_textsF {P : Program} {w : World} {ops : Array Oper} {o : Oper} {a : Act} {K : Act → World → Prop} {Q : Exit → Act → World → Prop} {E : Prop} (hgd : o.guard = none) (s x : Operand) (t : TypeId)
    (ho : o.op = .call { callee := .builtin .append, args := #[s, x], argTypes := #[t, t] })
    (base : Nat) (e : TypeId) (i : TypeInfo) (z : Value) (ht : P.underlying t = some (.slice e)) (hi : P.info? e = some i) (hz : i.zero = some z)
    (hsize : i.size = 1) (hby : i.bytes = 16) (hzs : z.cells.size = 1)
    (v : Value) (n : Nat) (xs : List Value) (hs : a.eval s = v) (hown : w.ownsRow base e 1 v n xs) (ps : List ByteArray) (pa : Option Addr) (c : Nat) (hx : a.eval x = .slice pa ps.length c) (hp : SRow w (.slice pa ps.length c) ps)
    (hl : n + ps.length ≤ 4194304) (hbase : base ≤ w.heap.size)
    (h : ∀ v' w', w'.ownsRow base e 1 v' (n + ps.length) (xs ++ sb ps) → w.grownBy w' v.ownBlock → K (a.put o.dst v') w') : if Region.wanted o (yielded ops a.tmps) = true then Oper.wp P o a w K Q else E := by
  have hw : Region.wanted o (yielded ops a.tmps) = true := by simp [Region.wanted, hgd]
  rw [if_pos hw]
  obtain ⟨pa', c', e1, hcap, hh⟩ := hp
  cases e1
  cases pa with
  | none =>
    have h0 : ps.length = 0 := by
      rcases Nat.eq_zero_or_pos ps.length with h | h
      · exact h
      · obtain ⟨_, _, e, _⟩ := hh h
        cases e
    obtain rfl : ps = [] := List.length_eq_zero_iff.1 h0
    obtain rfl := hcap rfl
    have hrun := run_append_owned_none (P := P) (w := w) base t o.type e i 1 ht hi v n xs hown
    have hx' : a.eval x = .slice none 0 0 := hx
    unfold Oper.wp
    simp [execOp, ho, resolve, invoke, builtin, hs, hx', hrun, Result.andThen]
    exact h v w (by simpa [sb] using hown) (World.grownBy.refl _ _)
  | some ad =>
    refine wp_append_own w s x t ho base e i z 1 16 ht hi hz hsize hby hzs (by decide) v n xs hs hown ad ps.length c (sb ps) hx (by rw [sb_len, Nat.mul_one]) (fun j u hj => ?_) (fun u hu => ?_) (by unfold maxLen; omega) (by omega) hbase (fun v' w' h1 h2 _ => h v' w' h1 h2)
    · have hj2 : j < ps.length := by
        have := (List.getElem?_eq_some_iff.1 hj).1
        rwa [sb_len] at this
      obtain ⟨b, off, e, _, hc⟩ := hh (by omega)
      cases e
      rw [sb_at ps j hj2] at hj
      rw [← Option.some.inj hj, Addr.add_lit]
      exact hc j hj2
    · obtain ⟨s, _, rfl⟩ := List.mem_map.1 hu
      rfl
theorem own_fresh {B : Nat} {e : TypeId} {s n : Nat} {v : Value} {cs : List Value} {w : World} (h : w.ownsRow B e s v n cs) : Fresh B w fun V => V.ownsRow B e s v n cs := fun V h1 h2 => by
  refine ⟨h.1, ?_⟩
  rcases h.2 with hn | ⟨g, cap, cur, rfl, hB, hc, r⟩
  · exact .inl hn
  · exact .inr ⟨g, cap, cur, rfl, hB, (h2 g hB (Array.getElem?_eq_some_iff.1 hc).1).trans hc, r⟩
theorem IRow.nilv (w : World) : IRow w (.slice none 0 0) [] := ⟨none, 0, rfl, fun _ => rfl, fun h => absurd h (by simp)⟩

end Go.Proofs.Ytipkbkhnaekceaa

namespace Go.Proofs.Ytipkbkhnaekceaa
open Go.RowKit
set_option linter.unusedVariables false

set_option maxHeartbeats 800000 in
theorem of_any (o : Option Addr) (l c : Nat) (w : World) : Calls Try.prog 39 #[.slice o l c] w fun e w' => e = .returned (.agg #[.slice o l c]) ∧ Below w.heap.size w w' := by
  have bal : Hid (Below w.heap.size w (w.alloc (.cells #[.slice o l c] 55))) := (Below.refl _ _).alloc (Nat.le_refl _) _
  go_enter Try.func39, Try.ntmps39
  go_wp2
  refine bodyPost_ret (by simp [results, Try.results39, go_sem]; try rfl) rfl ?_
  exact ⟨rfl, bal.out⟩

theorem nRow_one {V : World} {b : Nat} {s : ByteArray} {t : TypeId} {fr : Nat × Nat} (h : V.heap[b]? = some (.cells #[.int .i64 2, .int .i64 0, .string s, .slice none 0 0] t fr)) : NRow V (.slice (some ⟨b, 0, none⟩) 1 1) (varE s) := by
  refine ⟨some ⟨b, 0, none⟩, 1, rfl, fun h => (by cases h), fun _ => ⟨b, 0, rfl, (Array.getElem?_eq_some_iff.1 h).1, fun i hi => ⟨.slice none 0 0, ?_⟩⟩⟩
  have e : i = 0 := by simp [varE] at hi; exact hi
  subst e
  exact ⟨run_cell (j := 0) h rfl, run_cell (j := 1) h rfl, run_cell (j := 2) h rfl, run_cell (j := 3) h rfl, IRow.nilv V⟩

set_option maxHeartbeats 1600000 in
theorem var_any (s : ByteArray) (w : World) : Calls Try.prog 24 #[.string s] w fun e w' => ∃ nv : Value, e = .returned (.agg #[nv]) ∧ Fresh w.heap.size w' (fun V => NRow V nv (varE s)) ∧ Below w.heap.size w w' := by
  have HOf : Hid (∀ (o : Option Addr) (l c : Nat) (w : World), _) := of_any
  go_enter Try.func24, Try.ntmps24
  go_wp2_with fail
  refine (HOf.out _ _ _ _).mono ?_
  rintro e w2 ⟨rfl, hb2⟩
  have X : w2.heap[w.heap.size]? = some (.cells #[.slice none 0 0] 55 (0, 0)) := (hb2.block _ (by simp; omega)).trans ((Below.heap_alloc _ _ _ (by simp)).trans (heap_alloc_new w _))
  have Y : w2.heap[w.heap.size + 1]? = some (.cells #[.int .i64 2, .int .i64 0, .string s, .slice none 0 0] 72 (0, 0)) := (hb2.block _ (by simp)).trans (by
    have h := heap_alloc_new (w.alloc (.cells #[.slice none 0 0] 55)) (.cells #[.int .i64 2, .int .i64 0, .string s, .slice none 0 0] 72)
    rwa [show (w.alloc (.cells #[.slice none 0 0] 55)).heap.size = w.heap.size + 1 by simp] at h)
  have c0 := run_cell (j := 0) X rfl
  have f0 := run_frozen (j := 0) X
  have HB : Hid (Below w.heap.size w w2) := (((Below.refl w.heap.size w).alloc (Nat.le_refl _) (.cells #[.slice none 0 0] 55)).alloc (by simp) (.cells #[.int .i64 2, .int .i64 0, .string s, .slice none 0 0] 72)).trans (hb2.mono (by simp; omega))
  have HX : Hid _ := X
  have HY : Hid _ := Y
  clear hb2 X Y
  go_wp2
  have Z := setCell_self (j := 0) (.slice (some ⟨w.heap.size + 1, 0, none⟩) 1 1) HX.out
  have z0 := run_cell (j := 0) (u := .slice (some ⟨w.heap.size + 1, 0, none⟩) 1 1) Z rfl
  refine bodyPost_ret (by simp [results, Try.results24, go_sem, z0]; try rfl) rfl ?_
  refine ⟨_, rfl, fun V h1 h2 => nRow_one (t := 72) (fr := (0, 0)) ((h2 _ (by omega) ?_).trans ((setCell_other _ (by omega)).trans HY.out)), HB.out.setCell (Nat.le_refl _) _⟩
  have := (Array.getElem?_eq_some_iff.1 HY.out).1
  simpa [World.setCell] using this

theorem Try.infoExprF : (Try.prog.info? 55).map (fun i => (i.zero, i.size, i.bytes)) = some (some (.agg #[.slice none 0 0]), 1, 24) := by kernel_rfl
theorem one_sliceF (o : Option Addr) (l c : Nat) : ∀ u ∈ [Value.slice o l c], u.oneCell' = true := by
  intro u hu
  obtain rfl : u = .slice o l c := by simpa using hu
  rfl

set_option maxHeartbeats 3200000 in
theorem vars_any (v : Value) (ss : List ByteArray) (w : World) (hl : ss.length ≤ 100000) (h : SRow w v ss) : Calls Try.prog 88 #[v] w fun e w' => ∃ o : Value, e = .returned o ∧ Fresh w.heap.size w' (fun V => RowC 1 ExprE V o (ss.map varE)) ∧ Below w.heap.size w w' := by
  obtain ⟨i0, hi, hz0, hz1, hz2⟩ := info_parts Try.infoExprF
  have HV : Hid (∀ (s : ByteArray) (w : World), _) := var_any
  have HS : Hid (SRow w v ss) := h
  obtain ⟨a, cap, rfl⟩ := h.slice
  have B0 : Hid (Below w.heap.size w (w.alloc (.cells #[] 55))) := (Below.refl _ _).alloc (Nat.le_refl _) _
  have R0 : Hid (RowH 1 55 ExprE (Own0 w.heap.size (.slice (some ⟨w.heap.size, 0, none⟩) 0 0)) w.heap.size (.slice (some ⟨w.heap.size, 0, none⟩) 0 0) ([] : List (List NodeD)) (w.alloc (.cells #[] 55))) := RowH.made0 w
  clear h
  go_enter Try.func88, Try.ntmps88
  go_wp2
  go_loopg [3, 4] ss.length (fun gg ov kv wr => ∃ k : Nat, kv = .int .i64 k ∧ gg + k = ss.length ∧ RowH 1 55 ExprE (Own0 w.heap.size ov) w.heap.size ov ((ss.take k).map varE) wr ∧ Below w.heap.size w wr)
  case atStart => exact ⟨0, rfl, by omega, R0.out, B0.out⟩
  case round =>
    obtain ⟨k, rfl, hg, hR, hB⟩ := hrel
    have HR : Hid (RowH 1 55 ExprE (Own0 w.heap.size u3) w.heap.size u3 ((ss.take k).map varE) wr) := hR
    have HB : Hid (Below w.heap.size w wr) := hB
    clear hR hB R0 B0
    obtain ⟨ao, co, rfl⟩ := RowO.slice HR.out
    by_cases hk : k < ss.length
    · have dk : decide ((k : Int) < (ss.length : Int)) = true := decide_eq_true (by omega)
      have ik : (k : Int) < (ss.length : Int) := by omega
      obtain ⟨b, off, rfl, hc⟩ := (HS.out.below HB.out).at hk
      have hsz := HB.out.size
      have HL : Hid (((ss.take k).map varE).length = k) := by rw [Hid, List.length_map, List.length_take]; omega
      have w1 : IntKind.i64.wrap ((k : Int) + 1) = ((k + 1 : Nat) : Int) := by rw [IntKind.wrap_i64]; omega
      obtain ⟨f2, rfl⟩ : ∃ f, gk = f + 1 := ⟨gk - 1, by omega⟩
      go_wp2_with fail
      refine (HV.out _ _).mono ?_
      rintro e w2 ⟨nv, rfl, hF, hb2⟩
      obtain ⟨an, cn, rfl⟩ := hF.here.slice
      have hal : Below w2.heap.size w2 (w2.alloc (.cells #[.slice an (varE ss[k]).length cn] 55)) := (Below.refl _ _).alloc (Nat.le_refl _) _
      have R3 : RowH 1 55 ExprE (Own0 w.heap.size (.slice ao ((ss.take k).map varE).length co)) w.heap.size (.slice ao ((ss.take k).map varE).length co) ((ss.take k).map varE) (w2.alloc (.cells #[.slice an (varE ss[k]).length cn] 55)) := (HR.out.below hb2).below hal
      have hlt3 := own0_lt HR.out hsz
      obtain ⟨cs, ho3, hK⟩ := RowH.add R3 (fun k hk => .inr hk)
      have HH : Hid (Held (Own0 w.heap.size (.slice ao ((ss.take k).map varE).length co)) (w2.alloc (.cells #[.slice an (varE ss[k]).length cn] 55)) (fun V => ExprE V [.slice an (varE ss[k]).length cn] (varE ss[k]))) := Held.of_fresh (Fresh.imp (hF.below hal) (fun V h => ⟨_, rfl, h⟩)) hlt3
      have HK : Hid (∀ (g cap : Nat) (w2 : World) (vs : List Value) (x : List NodeD) (A' : Nat → Prop), _) := hK
      have HB2 : Hid (Below w.heap.size w w2) := HB.out.trans (hb2.mono hsz)
      have hs2 : w.heap.size ≤ w2.heap.size := HB2.out.size
      have hk6 : k ≤ 100000 := by omega
      have HO3 : Hid _ := ho3
      clear hF hb2 hal R3 hlt3 ho3 hK
      rw [HL.out] at *
      generalize (varE ss[k]).length = ln at *
      go_wp2_with (at_builtin; refine wpList_append_lies _ rfl _ _ 49 rfl w.heap.size 55 i0 _ 1 24 Try.underlying49 hi hz0 hz1 hz2 rfl (by decide) _ _ _ rfl HO3.out ⟨w2.heap.size, 0, none⟩ 1 1 [.slice an ln cn] rfl rfl (cell_one_new _ _ _) (one_sliceF _ _ _) (by omega) (by unfold maxLen; omega) (by omega) (by simp; omega) (w2.heap.size + 1) (by simp) ?_; intro gg cap w4 hown hgrow hat hlt)
      have R4 := HK.out gg cap w4 [.slice an ln cn] (varE ss[k]) (Own0 w.heap.size (.slice (some ⟨gg, 0, none⟩) (k + 1) cap)) rfl HH.out hown hgrow (own_next hat (by simp))
      rw [show (ss.take k).map varE ++ [varE ss[k]] = (ss.take (k + 1)).map varE by rw [List.take_succ_eq_append_getElem hk, List.map_append]; rfl] at R4
      have HR4 : Hid _ := R4
      have B4 : Hid (Below w.heap.size w w4) := (HB2.out.alloc hs2 _).grown hgrow (by simp; omega) (fun k hk => (World.ownsRow.lt HO3.out k hk).1)
      clear R4 hown hgrow hat hlt HH HK HO3
      go_wp2
      go_roundg f2
      case measure => omega
      case rel => exact ⟨k + 1, by go_num, by omega, HR4.out, B4.out⟩
    · have dk : decide ((k : Int) < (ss.length : Int)) = false := decide_eq_false (by omega)
      have HF : Hid (Fresh w.heap.size wr (fun V => RowC 1 ExprE V (.slice ao ((ss.take k).map varE).length co) (ss.map varE))) := by
        have h := RowH.fresh HR.out
        rw [List.take_of_length_le (by omega)] at h ⊢
        exact h
      clear HR
      go_wp2
      go_ret
      exact ⟨_, rfl, HF.out, HB.out⟩

end Go.Proofs.Ytipkbkhnaekceaa

namespace Go.Proofs.Ytipkbkhnaekceaa
open Go.RowKit
set_option linter.unusedVariables false

theorem Try.infoNodeF : (Try.prog.info? 72).map (fun i => (i.zero, i.size, i.bytes)) = some (some (.agg #[.int .i64 0, .int .i64 0, .string ⟨#[]⟩, .slice none 0 0]), 4, 56) := by kernel_rfl
theorem four_nodeF (a b : Int) (s : ByteArray) (o : Option Addr) (l c : Nat) : ∀ u ∈ [Value.int .i64 a, .int .i64 b, .string s, .slice o l c], u.oneCell' = true := by
  intro u hu
  simp only [List.mem_cons, List.not_mem_nil, or_false] at hu
  rcases hu with rfl | rfl | rfl | rfl <;> rfl
/-- Within l04Copies: an expression's box, and its nodes so far. -/
structure CpI (wr : World) (ns : List NodeD) (k : Nat) (ev : Value) (wi : World) : Prop where
  box : wi.heap[wr.heap.size]? = some (.cells #[ev] 55 (0, 0))
  row : RowH 4 72 NodE (Own0 (wr.heap.size + 1) ev) (wr.heap.size + 1) ev (ns.take k) wi
  bel : Below wr.heap.size wr wi

/-- Behind a node's box, its kids copied, and the node laid out for the append. -/
theorem cp_step {wo wr w3 : World} {ns : List NodeD} {k : Nat} {ev kv0 kv3 : Value} (x : NodeD) (hC : CpI wo ns k ev wr) (hown3 : w3.ownsRow (wr.heap.size + 1) 3 1 kv3 (0 + x.kids.length) ([] ++ zv x.kids))
    (hgr3 : ((wr.alloc (.cells #[.int .i64 x.op, .int .i64 x.num, .string x.name, kv0] 72)).alloc (.cells #[] 3)).grownBy w3 (some (wr.heap.size + 1))) :
    RowH 4 72 NodE (Own0 (wo.heap.size + 1) ev) (wo.heap.size + 1) ev (ns.take k) ((w3.setCell ⟨wr.heap.size, 3, none⟩ kv3).alloc (.cells #[.int .i64 x.op, .int .i64 x.num, .string x.name, kv3] 72)) ∧
    Held (Own0 (wo.heap.size + 1) ev) ((w3.setCell ⟨wr.heap.size, 3, none⟩ kv3).alloc (.cells #[.int .i64 x.op, .int .i64 x.num, .string x.name, kv3] 72)) (fun V => NodE V [.int .i64 x.op, .int .i64 x.num, .string x.name, kv3] x) ∧
    ((w3.setCell ⟨wr.heap.size, 3, none⟩ kv3).alloc (.cells #[.int .i64 x.op, .int .i64 x.num, .string x.name, kv3] 72)).heap[wo.heap.size]? = some (.cells #[ev] 55 (0, 0)) ∧
    Below wr.heap.size wr ((w3.setCell ⟨wr.heap.size, 3, none⟩ kv3).alloc (.cells #[.int .i64 x.op, .int .i64 x.num, .string x.name, kv3] 72)) ∧ wo.heap.size < wr.heap.size ∧
    w3.heap.size = (w3.setCell ⟨wr.heap.size, 3, none⟩ kv3).heap.size := by
  have hso : wo.heap.size < wr.heap.size := (Array.getElem?_eq_some_iff.1 hC.box).1
  have B1 : Below wr.heap.size wr ((wr.alloc (.cells #[.int .i64 x.op, .int .i64 x.num, .string x.name, kv0] 72)).alloc (.cells #[] 3)) := ((Below.refl wr.heap.size wr).alloc (Nat.le_refl _) _).alloc (by simp) _
  have B2 : Below wr.heap.size wr w3 := B1.grown hgr3 (by simp <;> omega) (fun q hq => by cases hq; omega)
  have B3 : Below wr.heap.size wr ((w3.setCell ⟨wr.heap.size, 3, none⟩ kv3).alloc (.cells #[.int .i64 x.op, .int .i64 x.num, .string x.name, kv3] 72)) := (B2.setCell (Nat.le_refl _) kv3).alloc (by simp [World.setCell]; exact B2.size) _
  have hs : (w3.setCell ⟨wr.heap.size, 3, none⟩ kv3).heap.size = w3.heap.size := by simp [World.setCell]
  have F3 : Fresh (wr.heap.size + 1) w3 (fun V => IRow V kv3 x.kids) := Fresh.imp (own_fresh hown3) (fun V h => by
    rw [Nat.zero_add, List.nil_append] at h
    exact OwnZ.row (ks := x.kids) (B := wr.heap.size + 1) h)
  have F4 := (F3.setLow (b := wr.heap.size) (Nat.lt_succ_self _) 3 kv3).below ((Below.refl _ _).alloc (Nat.le_refl (w3.setCell ⟨wr.heap.size, 3, none⟩ kv3).heap.size) (.cells #[.int .i64 x.op, .int .i64 x.num, .string x.name, kv3] 72))
  refine ⟨hC.row.below B3, Held.of_fresh (Fresh.imp F4 (fun V h => ⟨kv3, rfl, h⟩)) (fun q hq => ?_), (B3.block _ hso).trans hC.box, B3, hso, hs.symm⟩
  have := own0_lt hC.row (by omega) q hq
  omega

set_option maxHeartbeats 6400000 in
set_option maxRecDepth 100000 in
theorem copies_any (v : Value) (es : List (List NodeD)) (w : World) (hl : es.length ≤ 1048576) (hn : ∀ e ∈ es, e.length ≤ 1048576 ∧ ∀ x ∈ e, x.kids.length ≤ 1048576) (h : RowC 1 ExprE w v es) : Calls Try.prog 25 #[v] w fun e w' => ∃ o : Value, e = .returned o ∧ Fresh w.heap.size w' (fun V => RowC 1 ExprE V o es) ∧ Below w.heap.size w w' := by
  obtain ⟨i0, hi, hz0, hz1, hz2⟩ := info_parts Try.infoExprF
  obtain ⟨j0, hj, hj0, hj1, hj2⟩ := info_parts Try.infoNodeF
  obtain ⟨z0, hz, hzz0, hzz1, hzz2⟩ := info_parts Try.infoInt5
  have HS : Hid (RowC 1 ExprE w v es) := h
  have HN : Hid (∀ e ∈ es, e.length ≤ 1048576 ∧ ∀ x ∈ e, x.kids.length ≤ 1048576) := hn
  obtain ⟨a, cap, rfl⟩ := h.slice
  have B0 : Hid (Below w.heap.size w (w.alloc (.cells #[] 55))) := (Below.refl _ _).alloc (Nat.le_refl _) _
  have R0 : Hid (RowH 1 55 ExprE (Own0 w.heap.size (.slice (some ⟨w.heap.size, 0, none⟩) 0 0)) w.heap.size (.slice (some ⟨w.heap.size, 0, none⟩) 0 0) ([] : List (List NodeD)) (w.alloc (.cells #[] 55))) := RowH.made0 w
  clear h hn
  go_enter Try.func25, Try.ntmps25
  go_wp2
  go_loopg [3, 4] es.length (fun gg ov kv wr => ∃ (i : Nat) (ao : Option Addr) (co : Nat), kv = .int .i64 i ∧ ov = .slice ao i co ∧ gg + i = es.length ∧ RowH 1 55 ExprE (Own0 w.heap.size (.slice ao i co)) w.heap.size (.slice ao i co) (es.take i) wr ∧ Below w.heap.size w wr)
  case atStart => exact ⟨0, _, _, rfl, rfl, by omega, R0.out, B0.out⟩
  case round =>
    obtain ⟨i, ao, co, rfl, rfl, hg, hR, hB⟩ := hrel
    have HR : Hid (RowH 1 55 ExprE (Own0 w.heap.size (.slice ao i co)) w.heap.size (.slice ao i co) (es.take i) wr) := hR
    have HB : Hid (Below w.heap.size w wr) := hB
    clear hR hB R0 B0
    rename World => wo
    by_cases hk : i < es.length
    · have dk : decide ((i : Int) < (es.length : Int)) = true := decide_eq_true (by omega)
      have ik : (i : Int) < (es.length : Int) := by omega
      obtain ⟨b, off, vs, rfl, _, hc, nv, rfl, hNr⟩ := RowC.at HS.out hk
      obtain ⟨an, cn, rfl⟩ := hNr.slice
      have HNr : Hid (NRow w (.slice an es[i].length cn) es[i]) := hNr
      have n0w : w.cell? ⟨b, off + i, none⟩ = some (.slice an es[i].length cn) := by have h := hc 0 (by simp); rw [Nat.mul_one] at h; exact h
      have hsz := HB.out.size
      have hel := HN.out _ (List.getElem_mem hk)
      have HEl : Hid (∀ x ∈ es[i], x.kids.length ≤ 1048576) := hel.2
      have hel1 := hel.1
      have C0 : Hid (CpI wo es[i] 0 (.slice none 0 0) (wo.alloc (.cells #[.slice none 0 0] 55))) := ⟨heap_alloc_new wo _, RowH.nil, (Below.refl _ _).alloc (Nat.le_refl _) _⟩
      obtain ⟨f1, rfl⟩ : ∃ f, gk = f + 1 := ⟨gk - 1, by omega⟩
      clear hc hNr hel
      go_wp2
      generalize wo.alloc (.cells #[.slice none 0 0] 55) = w1 at *
      go_loopg [6] es[i].length (fun gg kv wr => ∃ (k : Nat) (ae : Option Addr) (ce : Nat), kv = .int .i64 k ∧ gg + k = es[i].length ∧ CpI wo es[i] k (.slice ae k ce) wr)
      case atStart => exact ⟨0, _, _, rfl, by omega, C0.out⟩
      case round =>
        obtain ⟨k, ae, ce, rfl, hg2, hC⟩ := hrel
        have HC : Hid (CpI wo es[i] k (.slice ae k ce) wr) := hC
        have HBr : Hid (Below w.heap.size w wr) := HB.out.trans (hC.bel.mono hsz)
        have n0 := cell_keep n0w HBr.out
        clear hC C0
        by_cases hkk : k < es[i].length
        · have dkk : decide ((k : Int) < (es[i].length : Int)) = true := decide_eq_true (by omega)
          have ikk : (k : Int) < (es[i].length : Int) := by omega
          obtain ⟨nb, no, kv, rfl, m0, m1, m2, m3, hZ⟩ := (HNr.out.below HBr.out).at hkk
          obtain ⟨ka, kc, rfl⟩ := hZ.slice
          have hkl := HEl.out _ (List.getElem_mem hkk)
          have hso : wo.heap.size < wr.heap.size := (Array.getElem?_eq_some_iff.1 HC.out.box).1
          -- the node's box, and a row for its kids
          have XB : Hid (((wr.alloc (.cells #[.int .i64 es[i][k].op, .int .i64 es[i][k].num, .string es[i][k].name, .slice ka es[i][k].kids.length kc] 72)).alloc (.cells #[] 3)).heap[wr.heap.size]? = some (.cells #[.int .i64 es[i][k].op, .int .i64 es[i][k].num, .string es[i][k].name, .slice ka es[i][k].kids.length kc] 72 (0, 0))) := (Below.heap_alloc _ _ _ (by simp)).trans (heap_alloc_new wr _)
          have XE : Hid (((wr.alloc (.cells #[.int .i64 es[i][k].op, .int .i64 es[i][k].num, .string es[i][k].name, .slice ka es[i][k].kids.length kc] 72)).alloc (.cells #[] 3)).heap[wo.heap.size]? = some (.cells #[.slice ae k ce] 55 (0, 0))) := (Below.heap_alloc _ _ _ (by simp; omega)).trans ((Below.heap_alloc _ _ _ hso).trans HC.out.box)
          have BX : Hid (Below wr.heap.size wr ((wr.alloc (.cells #[.int .i64 es[i][k].op, .int .i64 es[i][k].num, .string es[i][k].name, .slice ka es[i][k].kids.length kc] 72)).alloc (.cells #[] 3))) := ((Below.refl wr.heap.size wr).alloc (Nat.le_refl _) _).alloc (by simp) _
          have KX : Hid (((wr.alloc (.cells #[.int .i64 es[i][k].op, .int .i64 es[i][k].num, .string es[i][k].name, .slice ka es[i][k].kids.length kc] 72)).alloc (.cells #[] 3)).ownsRow (wr.heap.size + 1) 3 1 (.slice (some ⟨wr.heap.size + 1, 0, none⟩) 0 0) 0 []) := by
            have h := World.ownsRow_made (wr.alloc (.cells #[.int .i64 es[i][k].op, .int .i64 es[i][k].num, .string es[i][k].name, .slice ka es[i][k].kids.length kc] 72)) (e := 3) (size := 1) (base := wr.heap.size + 1) #[] 0 (by simp) (Nat.zero_le _) (by simp)
            rwa [show (wr.alloc (.cells #[.int .i64 es[i][k].op, .int .i64 es[i][k].num, .string es[i][k].name, .slice ka es[i][k].kids.length kc] 72)).heap.size = wr.heap.size + 1 by simp] at h
          have ZX : Hid (IRow ((wr.alloc (.cells #[.int .i64 es[i][k].op, .int .i64 es[i][k].num, .string es[i][k].name, .slice ka es[i][k].kids.length kc] 72)).alloc (.cells #[] 3)) (.slice ka es[i][k].kids.length kc) es[i][k].kids) := hZ.below BX.out
          have x3 := run_cell (j := 3) XB.out rfl
          clear hZ
          go_wp2_with (first
            | (at_builtin; obtain ⟨R4, H4, E4, B4, hso4, hs4⟩ := cp_step (kv0 := .slice ka es[i][k].kids.length kc) es[i][k] HC.out hown3 hgr3; obtain ⟨cs4, ho4, hK4⟩ := RowH.add R4 (fun k hk => .inr hk); have hlk : (es[i].take k).length = k := (by rw [List.length_take]; omega); rw [hlk] at ho4 hK4; refine wpList_append_lies _ rfl _ _ 53 rfl (wo.heap.size + 1) 72 j0 _ 4 56 Try.underlying53 hj hj0 hj1 hj2 rfl (by decide) _ _ _ rfl ho4 ⟨w3.heap.size, 0, none⟩ 1 1 [.int .i64 es[i][k].op, .int .i64 es[i][k].num, .string es[i][k].name, .slice ka3 es[i][k].kids.length kc3] rfl rfl (by rw [hs4]; exact World.news_of_block (cs := #[.int .i64 es[i][k].op, .int .i64 es[i][k].num, .string es[i][k].name, .slice ka3 es[i][k].kids.length kc3]) (t := 72) (fr := (0, 0)) (heap_alloc_new _ _)) (four_nodeF _ _ _ _ _ _) (by omega) (by unfold maxLen; omega) (by omega) (Nat.le_trans hso4 B4.size) _ rfl ?_; intro gg5 cap5 w5 hown5 hgr5 hat5 hlt5; clear hs4 hlk; have E5 := xb_grown hgr5 E4 (fun e => by have h := (World.ownsRow.lt ho4 _ e).1; omega); have e5 := run_cell (j := 0) E5 rfl; have f5 := run_frozen (j := 0) E5)
            | (at_builtin; refine append_intsF rfl _ _ 70 rfl (wr.heap.size + 1) 3 z0 _ Try.underlying70 hz hzz0 hzz1 hzz2 rfl _ 0 [] rfl KX.out es[i][k].kids ka kc rfl ZX.out (by omega) (by simp <;> omega) ?_; intro kv3 w3 hown3 hgr3; obtain ⟨ka3, kc3, rfl⟩ : ∃ a c, kv3 = .slice a es[i][k].kids.length c := (by rw [Nat.zero_add] at hown3; rcases hown3.2 with ⟨rfl, h0⟩ | ⟨g, cp, cur, rfl, _⟩; exact ⟨none, 0, by rw [h0]⟩; exact ⟨_, cp, rfl⟩); have B3 := (Below.refl (wr.heap.size + 1) _).grown hgr3 (by simp <;> omega) (fun q hq => (World.ownsRow.lt KX.out q hq).1); have X3 := (B3.block _ (by omega)).trans XB.out; have y0 := run_cell (j := 0) X3 rfl; have y1 := run_cell (j := 1) X3 rfl; have y2 := run_cell (j := 2) X3 rfl; have y3 := run_cell (j := 3) X3 rfl; have f3 := run_frozen (j := 3) X3; have E3 := (B3.block _ (by omega)).trans XE.out; have e3 := run_cell (j := 0) E3 rfl))
          have R5 := hK4 gg5 cap5 w5 [.int .i64 es[i][k].op, .int .i64 es[i][k].num, .string es[i][k].name, .slice ka3 es[i][k].kids.length kc3] es[i][k] (Own0 (wo.heap.size + 1) (.slice (some ⟨gg5, 0, none⟩) (k + 1) cap5)) rfl H4 hown5 hgr5 (own_next hat5 rfl)
          have hg5 : wo.heap.size + 1 ≤ gg5 := (World.ownsRow.lt hown5 gg5 rfl).1
          rw [show es[i].take k ++ [es[i][k]] = es[i].take (k + 1) by rw [List.take_succ_eq_append_getElem hkk]] at R5
          have C5 : Hid (CpI wo es[i] (k + 1) (.slice (some ⟨gg5, 0, none⟩) (k + 1) cap5) (w5.setCell ⟨wo.heap.size, 0, none⟩ (.slice (some ⟨gg5, 0, none⟩) (k + 1) cap5))) := by
            refine ⟨(setCell_self _ E5).trans rfl, RowH.go R5 (FrA.set _ (.inl (Nat.lt_succ_self _))) (fun _ _ h => h) (fun q hq => setCell_other _ (by cases hq; show gg5 ≠ wo.heap.size; omega)), ?_⟩
            exact ((HC.out.bel.trans (B4.mono HC.out.bel.size)).grown hgr5 (Nat.le_trans HC.out.bel.size B4.size) (fun q hq => by have h := (World.ownsRow.lt ho4 q hq).1; omega)).setCell (Nat.le_refl _) _
          have w1' : IntKind.i64.wrap ((k : Int) + 1) = ((k + 1 : Nat) : Int) := by rw [IntKind.wrap_i64]; omega
          obtain ⟨f2, rfl⟩ : ∃ f, gk = f + 1 := ⟨gk - 1, by omega⟩
          clear R5 hown5 hgr5 hat5 hlt5 E5 e5 f5 R4 H4 E4 B4 ho4 hK4 hown3 hgr3 B3 X3 E3 y0 y1 y2 y3 f3 e3 XB XE BX KX ZX x3 m0 m1 m2 m3
          generalize w5.setCell ⟨wo.heap.size, 0, none⟩ (.slice (some ⟨gg5, 0, none⟩) (k + 1) cap5) = w6 at *
          go_roundg f2
          case measure => omega
          case rel => exact ⟨k + 1, _, _, by go_num, by omega, C5.out⟩
        · have dkk : decide ((k : Int) < (es[i].length : Int)) = false := decide_eq_false (by omega)
          have e0 := run_cell (j := 0) HC.out.box rfl
          obtain rfl : k = es[i].length := by omega
          have hlk : es[i].take es[i].length = es[i] := List.take_of_length_le (Nat.le_refl _)
          have hal : Below wr.heap.size wr (wr.alloc (.cells #[.slice ae es[i].length ce] 55)) := (Below.refl _ _).alloc (Nat.le_refl _) _
          have R3 : RowH 1 55 ExprE (Own0 w.heap.size (.slice ao i co)) w.heap.size (.slice ao i co) (es.take i) (wr.alloc (.cells #[.slice ae es[i].length ce] 55)) := (HR.out.below HC.out.bel).below hal
          have hlt3 := own0_lt HR.out hsz
          have HF : Fresh (wo.heap.size + 1) wr (fun V => RowC 4 NodE V (.slice ae es[i].length ce) es[i]) := by
            have h := RowH.fresh HC.out.row
            rw [hlk] at h
            exact h
          obtain ⟨cs, ho3, hK⟩ := RowH.add R3 (fun k hk => .inr hk)
          have HH : Hid (Held (Own0 w.heap.size (.slice ao i co)) (wr.alloc (.cells #[.slice ae es[i].length ce] 55)) (fun V => ExprE V [.slice ae es[i].length ce] es[i])) := Held.of_fresh (Fresh.imp (HF.below hal) (fun V h => ⟨_, rfl, nRow_ofC h⟩)) (fun q hq => Nat.lt_succ_of_lt (hlt3 q hq))
          have hli : (es.take i).length = i := by rw [List.length_take]; omega
          rw [hli] at ho3 hK
          have HK : Hid (∀ (g cap : Nat) (w2 : World) (vs : List Value) (x : List NodeD) (A' : Nat → Prop), _) := hK
          have hs2 : w.heap.size ≤ wr.heap.size := HBr.out.size
          have HO3 : Hid _ := ho3
          have w1' : IntKind.i64.wrap ((i : Int) + 1) = ((i + 1 : Nat) : Int) := by rw [IntKind.wrap_i64]; omega
          clear hal R3 hlt3 HF ho3 hK hlk hli HC
          go_wp2_with (at_builtin; refine wpList_append_lies _ rfl _ _ 49 rfl w.heap.size 55 i0 _ 1 24 Try.underlying49 hi hz0 hz1 hz2 rfl (by decide) _ _ _ rfl HO3.out ⟨wr.heap.size, 0, none⟩ 1 1 [.slice ae es[i].length ce] rfl rfl (cell_one_new _ _ _) (one_sliceF _ _ _) (by omega) (by unfold maxLen; omega) (by omega) (by simp; omega) (wr.heap.size + 1) (by simp) ?_; intro gg cap w4 hown hgrow hat hlt)
          have R4 := HK.out gg cap w4 [.slice ae es[i].length ce] es[i] (Own0 w.heap.size (.slice (some ⟨gg, 0, none⟩) (i + 1) cap)) rfl HH.out hown hgrow (own_next hat (by simp))
          rw [show es.take i ++ [es[i]] = es.take (i + 1) by rw [List.take_succ_eq_append_getElem hk]] at R4
          have HR4 : Hid _ := R4
          have B4 : Hid (Below w.heap.size w w4) := (HBr.out.alloc hs2 _).grown hgrow (by simp; omega) (fun k hk => (World.ownsRow.lt HO3.out k hk).1)
          clear R4 hown hgrow hat hlt HH HK HO3
          go_wp2
          go_roundg f1
          case measure => omega
          case rel => exact ⟨i + 1, _, _, by go_num, rfl, by omega, HR4.out, B4.out⟩
    · have dk : decide ((i : Int) < (es.length : Int)) = false := decide_eq_false (by omega)
      have HF : Hid (Fresh w.heap.size wo (fun V => RowC 1 ExprE V (.slice ao i co) es)) := by
        have h := RowH.fresh HR.out
        rw [List.take_of_length_le (by omega)] at h
        exact h
      clear HR
      go_wp2
      go_ret
      exact ⟨_, rfl, HF.out, HB.out⟩

end Go.Proofs.Ytipkbkhnaekceaa

namespace Go.Proofs.Ytipkbkhnaekceaa
open Go.RowKit
set_option linter.unusedVariables false

structure ShF (ns : List SNodeD) (i : Nat) (x : SNodeD) : Prop where
  kind : 1 ≤ x.kind ∧ x.kind ≤ 9
  leaf : x.kind ≤ 4 → x.kids = []
  row : x.kind = 5 → x.kids.length ≤ 8
  alt : x.kind = 6 → 1 ≤ x.kids.length ∧ x.kids.length ≤ 8
  one : 6 < x.kind → x.kids.length = 1
  kids : ∀ k ∈ x.kids, 0 ≤ k ∧ k ≤ (i : Int) - 1 ∧ (x.kind = 5 → ¬ (nodeS ns k).kind = 5) ∧ (x.kind = 6 → (nodeS ns k).kind = 5) ∧ (6 < x.kind → (nodeS ns k).kind = 6)
theorem shF_of {ns : List SNodeD} {i : Nat} {x : SNodeD} (h : shapeS ns i x = true) : ShF ns i x := by
  unfold shapeS at h
  split at h
  · cases h
  rename_i h1
  split at h
  · rename_i h4
    have h0 : x.kids.length = 0 := by simpa using h
    have e := List.length_eq_zero_iff.1 h0
    exact ⟨by omega, fun _ => e, fun _ => by omega, fun _ => by omega, fun _ => by omega, fun k hk => by rw [e] at hk; cases hk⟩
  · rename_i h4
    split at h
    · cases h
    rename_i h5
    obtain ⟨_, h5⟩ := not_or.1 h5
    obtain ⟨_, h5⟩ := not_or.1 h5
    obtain ⟨_, h5⟩ := not_or.1 h5
    refine ⟨by omega, fun _ => by omega, fun _ => by omega, fun _ => by omega, fun _ => by omega, fun k hk => ?_⟩
    have := List.all_eq_true.1 h k hk
    simp only [Bool.and_eq_true, decide_eq_true_eq, Bool.not_eq_true', decide_eq_false_iff_not] at this
    obtain ⟨⟨a, b⟩, c⟩ := this
    exact ⟨a, b, fun e q => c (.inl ⟨e, q⟩), fun e => Decidable.byContradiction fun q => c (.inr (.inl ⟨e, q⟩)), fun e => Decidable.byContradiction fun q => c (.inr (.inr ⟨e, q⟩))⟩
def Shaped (ns : List SNodeD) : Prop := ∀ i (h : i < ns.length), ShF ns i ns[i]
theorem nodeS_is {ns : List SNodeD} {i : Nat} (h : i < ns.length) : nodeS ns (i : Int) = ns[i] := by
  rw [nodeS, Int.toNat_natCast, List.getD_eq_getElem?_getD, List.getElem?_eq_getElem h]; rfl
/-- A kid of a node that is no leaf: its place. -/
theorem kid_lt {ns : List SNodeD} (hS : Shaped ns) {i : Nat} (hi : i < ns.length) {j : Nat} (hj : j < ns[i].kids.length) : ∃ z : Nat, ns[i].kids[j] = (z : Int) ∧ z < i ∧ ∃ hz : z < ns.length, (ns[i].kind = 5 → ¬ ns[z].kind = 5) ∧ (ns[i].kind = 6 → ns[z].kind = 5) ∧ (6 < ns[i].kind → ns[z].kind = 6) := by
  obtain ⟨a, b, c, d, e⟩ := (hS i hi).kids _ (List.getElem_mem hj)
  obtain ⟨z, hz⟩ : ∃ z : Nat, ns[i].kids[j] = (z : Int) := ⟨ns[i].kids[j].toNat, by omega⟩
  have hzl : z < ns.length := by omega
  rw [hz, nodeS_is hzl] at c d e
  exact ⟨z, hz, by omega, hzl, c, d, e⟩
theorem group_lt {ns : List SNodeD} (hS : Shaped ns) {z : Nat} (hz : z < ns.length) (h4 : ¬ ns[z].kind ≤ 4) (h5 : ¬ ns[z].kind = 5) : ∃ a : Nat, groupS ns (z : Int) = (a : Int) ∧ a ≤ z ∧ ∃ ha : a < ns.length, ns[a].kind = 6 := by
  rw [groupS, nodeS_is hz]
  by_cases h6 : ns[z].kind = 6
  · rw [if_pos h6]; exact ⟨z, rfl, Nat.le_refl _, hz, h6⟩
  · rw [if_neg h6]
    have h1 := (hS z hz).one (by omega)
    obtain ⟨a, e, hlt, ha, _, _, q⟩ := kid_lt hS hz (j := 0) (by omega)
    refine ⟨a, ?_, by omega, ha, q (by omega)⟩
    rw [List.getD_eq_getElem?_getD, List.getElem?_eq_getElem (by omega), Option.getD_some, e]
theorem kid_some {ns : List SNodeD} (hS : Shaped ns) {z : Nat} (hz : z < ns.length) (h4 : ¬ ns[z].kind ≤ 4) (h5 : ¬ ns[z].kind = 5) : ns[z].kind ≠ 6 → 0 < ns[z].kids.length := fun h6 => by
  have h1 := (hS z hz).one (by omega)
  omega
/-- Leaves within bounds. -/
def LeafsIn (ns : List SNodeD) : Prop := ∀ x ∈ ns, symTot (leafS x) ≤ 1048576 ∧ ∀ e ∈ x.args, NIn e
theorem knF_leaf (ns : List SNodeD) (rs : List SRuleD) (f : Nat) (k : Int) (ks : List Int) (kn : List ByteArray) (h : (nodeS ns k).kind ≤ 4) : knF ns rs (f + 1) true (k :: ks) kn = ((symB (leafS (nodeS ns k)) kn (parsS (nodeS ns k).text rs)).2 && knF ns rs f true ks (symB (leafS (nodeS ns k)) kn (parsS (nodeS ns k).text rs)).1) := by
  rw [knF, if_pos h]
theorem knF_group (ns : List SNodeD) (rs : List SRuleD) (f : Nat) (k : Int) (ks : List Int) (kn : List ByteArray) (h : ¬ (nodeS ns k).kind ≤ 4) : knF ns rs (f + 1) true (k :: ks) kn = (knF ns rs f false (nodeS ns (groupS ns k)).kids kn && knF ns rs f true ks kn) := by
  rw [knF, if_neg h]
theorem knF_alt (ns : List SNodeD) (rs : List SRuleD) (f : Nat) (k : Int) (ks : List Int) (kn : List ByteArray) : knF ns rs (f + 1) false (k :: ks) kn = (knF ns rs f true (nodeS ns k).kids kn && knF ns rs f false ks kn) := by
  rw [knF]
theorem knF_nil (ns : List SNodeD) (rs : List SRuleD) (f : Nat) (b : Bool) (kn : List ByteArray) : knF ns rs f b [] kn = true := by
  cases f <;> cases b <;> rfl

end Go.Proofs.Ytipkbkhnaekceaa

namespace Go.Proofs.Ytipkbkhnaekceaa
open Go.RowKit
set_option linter.unusedVariables false

/-- The blocks that turn. -/
def Mut (p : Nat) (gv qv : Value) : Nat → Prop := fun k => k = p ∨ gv.ownBlock = some k ∨ qv.ownBlock = some k
/-- The same, and those that its owner turns beside it. -/
def MutA (A : Nat → Prop) (p : Nat) (gv qv : Value) : Nat → Prop := fun k => A k ∨ Mut p gv qv k
/-- A group that waits: node, rule, names. -/
def GrpE (w : World) (vs : List Value) (q : Int × Nat × List ByteArray) : Prop := ∃ kv : Value, vs = [.int .i64 q.1, .int .i64 (q.2.1 : Int), kv] ∧ SRow w kv q.2.2
structure MkI (A : Nat → Prop) (ns : List SNodeD) (rs : List SRuleD) (an ar : Option Addr) (cn cr B p : Nat) (W0 : World) (m : MkD) (gv qv : Value) (w : World) : Prop where
  box : w.heap[p]? = some (.cells #[.slice an ns.length cn, .slice ar rs.length cr, gv, qv, .int .i64 (m.count : Int)] 128 (0, 0))
  rul : RowH 3 40 RuleE (MutA A p gv qv) B gv m.rules w
  que : RowH 3 133 GrpE (MutA A p gv qv) B qv m.queue w
  bel : Below B W0 w
  pB : B ≤ p
section
variable {A A' : Nat → Prop} {ns : List SNodeD} {rs : List SRuleD} {an ar : Option Addr} {cn cr B p : Nat} {W0 : World} {m : MkD} {gv qv gv' qv' : Value} {w w' w1 w2 : World}
theorem MkI.lt (h : MkI A ns rs an ar cn cr B p W0 m gv qv w) : B ≤ w.heap.size := Nat.le_of_lt (Nat.lt_of_le_of_lt h.pB (Array.getElem?_eq_some_iff.1 h.box).1)
theorem MkI.step (h : MkI A ns rs an ar cn cr B p W0 m gv qv w) (hb : Below w.heap.size w w') : MkI A ns rs an ar cn cr B p W0 m gv qv w' :=
  ⟨(hb.block _ (Array.getElem?_eq_some_iff.1 h.box).1).trans h.box, h.rul.below hb, h.que.below hb, h.bel.trans (hb.mono h.lt), h.pB⟩
theorem MkI.off (h : MkI A ns rs an ar cn cr B p W0 m gv qv w) {k : Nat} {c : Array Value} {t : TypeId} {fr : Nat × Nat} (hk : w.heap[k]? = some (.cells c t fr)) (h1 : t ≠ 128) (h2 : t ≠ 40) (h3 : t ≠ 133) : ¬ Mut p gv qv k := by
  rintro (rfl | h4 | h4)
  · rw [h.box] at hk
    cases hk
    exact h1 rfl
  · obtain ⟨cur, hc⟩ := RowO.type h.rul h4
    rw [hc] at hk
    cases hk
    exact h2 rfl
  · obtain ⟨cur, hc⟩ := RowO.type h.que h4
    rw [hc] at hk
    cases hk
    exact h3 rfl
theorem MkI.ge (h : MkI A ns rs an ar cn cr B p W0 m gv qv w) : ∀ k, Mut p gv qv k → B ≤ k ∧ k < w.heap.size := by
  rintro k (rfl | h4 | h4)
  · exact ⟨h.pB, (Array.getElem?_eq_some_iff.1 h.box).1⟩
  · exact RowO.lt h.rul k h4
  · exact RowO.lt h.que k h4
theorem MkI.offs (h : MkI A ns rs an ar cn cr B p W0 m gv qv w) : (∀ k, gv.ownBlock = some k → k ≠ p ∧ qv.ownBlock ≠ some k) ∧ (∀ k, qv.ownBlock = some k → k ≠ p) := by
  refine ⟨fun k hk => ⟨fun e => ?_, fun e => ?_⟩, fun k hk e => ?_⟩
  · obtain ⟨cur, hc⟩ := RowO.type h.rul hk
    rw [e, h.box] at hc
    cases hc
  · obtain ⟨cur, hc⟩ := RowO.type h.rul hk
    obtain ⟨cur', hc'⟩ := RowO.type h.que e
    rw [hc] at hc'
    cases hc'
  · obtain ⟨cur, hc⟩ := RowO.type h.que hk
    rw [e, h.box] at hc
    cases hc
/-- The count turned. -/
theorem MkI.count (h : MkI A ns rs an ar cn cr B p W0 m gv qv w) (n : Nat) : MkI A ns rs an ar cn cr B p W0 { m with count := n } gv qv (w.setCell ⟨p, 4, none⟩ (.int .i64 (n : Int))) ∧ FrA (Mut p gv qv) w (w.setCell ⟨p, 4, none⟩ (.int .i64 (n : Int))) := by
  have hf : FrA (Mut p gv qv) w (w.setCell ⟨p, 4, none⟩ (.int .i64 (n : Int))) := FrA.set _ (.inl rfl)
  exact ⟨⟨(setCell_self _ h.box).trans rfl, h.rul.go (hf.wide (fun k _ a => .inr a)) (fun _ _ a => a) (fun k hk => setCell_other _ (h.offs.1 k hk).1), h.que.go (hf.wide (fun k _ a => .inr a)) (fun _ _ a => a) (fun k hk => setCell_other _ (h.offs.2 k hk)), h.bel.setCell h.pB _, h.pB⟩, hf⟩
/-- A rule more, appended; then the box turned. -/
theorem MkI.rule (h : MkI A ns rs an ar cn cr B p W0 m gv qv w) : ∃ cs, w.ownsRow B 40 3 gv m.rules.length cs ∧ ∀ (g cap : Nat) (w2 : World) (vs : List Value) (r : RuleD), vs.length = 3 → Held (MutA A p gv qv) w (fun V => RuleE V vs r) → w2.ownsRow B 40 3 (.slice (some ⟨g, 0, none⟩) (m.rules.length + 1) cap) (m.rules.length + 1) (cs ++ vs) → w.grownBy w2 gv.ownBlock → (gv.ownBlock = some g ∨ g = w.heap.size) →
    w2.heap[p]? = some (.cells #[.slice an ns.length cn, .slice ar rs.length cr, gv, qv, .int .i64 (m.count : Int)] 128 (0, 0)) ∧
    MkI A ns rs an ar cn cr B p W0 { m with rules := m.rules ++ [r] } (.slice (some ⟨g, 0, none⟩) (m.rules.length + 1) cap) qv (w2.setCell ⟨p, 2, none⟩ (.slice (some ⟨g, 0, none⟩) (m.rules.length + 1) cap)) ∧
    FrA (Mut p gv qv) w (w2.setCell ⟨p, 2, none⟩ (.slice (some ⟨g, 0, none⟩) (m.rules.length + 1) cap)) ∧ (∀ k, k < w.heap.size → Mut p (.slice (some ⟨g, 0, none⟩) (m.rules.length + 1) cap) qv k → Mut p gv qv k) := by
  obtain ⟨cs, ho, hK⟩ := RowH.add h.rul (fun k hk => .inr (.inr (.inl hk)))
  refine ⟨cs, ho, fun g cap w2 vs r hl hx ho2 hg hat => ?_⟩
  have lk : ∀ k, k < w.heap.size → Mut p (.slice (some ⟨g, 0, none⟩) (m.rules.length + 1) cap) qv k → Mut p gv qv k := fun k hk hm => by
    rcases hm with hm | hm | hm
    · exact .inl hm
    · have e : g = k := Option.some.inj hm
      rcases hat with h2 | h2
      · exact .inr (.inl (by rw [← e]; exact h2))
      · omega
    · exact .inr (.inr hm)
  have hpl := (Array.getElem?_eq_some_iff.1 h.box).1
  have hne : gv.ownBlock ≠ some p := fun e => (h.offs.1 p e).1 rfl
  have hb2 : w2.heap[p]? = some (.cells #[.slice an ns.length cn, .slice ar rs.length cr, gv, qv, .int .i64 (m.count : Int)] 128 (0, 0)) := (hg.block p hpl (fun e => hne e.symm)).trans h.box
  have R := hK g cap w2 vs r (MutA A p (.slice (some ⟨g, 0, none⟩) (m.rules.length + 1) cap) qv) hl hx ho2 hg (fun k hk a => a.imp id (lk k hk))
  have f1 : FrA (Mut p gv qv) w w2 := FrA.grown hg (fun k hk => .inr (.inl hk))
  have hgp : g ≠ p := fun e => by
    rcases hat with h2 | h2
    · exact hne (by rw [h2, e])
    · omega
  have f2 : FrA (Mut p (.slice (some ⟨g, 0, none⟩) (m.rules.length + 1) cap) qv) w2 (w2.setCell ⟨p, 2, none⟩ (.slice (some ⟨g, 0, none⟩) (m.rules.length + 1) cap)) := FrA.set _ (.inl rfl)
  refine ⟨hb2, ⟨(setCell_self _ hb2).trans rfl, R.go (f2.wide (fun k _ a => .inr a)) (fun _ _ a => a) (fun k hk => setCell_other _ (by cases hk; exact hgp)), ?_, (h.bel.grown hg h.lt (fun k hk => (RowO.lt h.rul k hk).1)).setCell h.pB _, h.pB⟩, f1.trans f2 lk, lk⟩
  refine (h.que.go (f1.wide (fun k _ a => .inr a)) (fun k hk a => a.imp id (lk k hk)) (fun k hk => hg.block k (RowO.lt h.que k hk).2 (fun e => (h.offs.1 k e.symm).2 hk))).go (f2.wide (fun k _ a => .inr a)) (fun _ _ a => a) (fun k hk => setCell_other _ (h.offs.2 k hk))
/-- A group more, appended; then the box turned. -/
theorem MkI.group (h : MkI A ns rs an ar cn cr B p W0 m gv qv w) : ∃ cs, w.ownsRow B 133 3 qv m.queue.length cs ∧ ∀ (g cap : Nat) (w2 : World) (vs : List Value) (q : Int × Nat × List ByteArray), vs.length = 3 → Held (MutA A p gv qv) w (fun V => GrpE V vs q) → w2.ownsRow B 133 3 (.slice (some ⟨g, 0, none⟩) (m.queue.length + 1) cap) (m.queue.length + 1) (cs ++ vs) → w.grownBy w2 qv.ownBlock → (qv.ownBlock = some g ∨ g = w.heap.size) →
    w2.heap[p]? = some (.cells #[.slice an ns.length cn, .slice ar rs.length cr, gv, qv, .int .i64 (m.count : Int)] 128 (0, 0)) ∧
    MkI A ns rs an ar cn cr B p W0 { m with queue := m.queue ++ [q] } gv (.slice (some ⟨g, 0, none⟩) (m.queue.length + 1) cap) (w2.setCell ⟨p, 3, none⟩ (.slice (some ⟨g, 0, none⟩) (m.queue.length + 1) cap)) ∧
    FrA (Mut p gv qv) w (w2.setCell ⟨p, 3, none⟩ (.slice (some ⟨g, 0, none⟩) (m.queue.length + 1) cap)) ∧ (∀ k, k < w.heap.size → Mut p gv (.slice (some ⟨g, 0, none⟩) (m.queue.length + 1) cap) k → Mut p gv qv k) := by
  obtain ⟨cs, ho, hK⟩ := RowH.add h.que (fun k hk => .inr (.inr (.inr hk)))
  refine ⟨cs, ho, fun g cap w2 vs r hl hx ho2 hg hat => ?_⟩
  have lk : ∀ k, k < w.heap.size → Mut p gv (.slice (some ⟨g, 0, none⟩) (m.queue.length + 1) cap) k → Mut p gv qv k := fun k hk hm => by
    rcases hm with hm | hm | hm
    · exact .inl hm
    · exact .inr (.inl hm)
    · have e : g = k := Option.some.inj hm
      rcases hat with h2 | h2
      · exact .inr (.inr (by rw [← e]; exact h2))
      · omega
  have hpl := (Array.getElem?_eq_some_iff.1 h.box).1
  have hne : qv.ownBlock ≠ some p := fun e => h.offs.2 p e rfl
  have hb2 : w2.heap[p]? = some (.cells #[.slice an ns.length cn, .slice ar rs.length cr, gv, qv, .int .i64 (m.count : Int)] 128 (0, 0)) := (hg.block p hpl (fun e => hne e.symm)).trans h.box
  have R := hK g cap w2 vs r (MutA A p gv (.slice (some ⟨g, 0, none⟩) (m.queue.length + 1) cap)) hl hx ho2 hg (fun k hk a => a.imp id (lk k hk))
  have f1 : FrA (Mut p gv qv) w w2 := FrA.grown hg (fun k hk => .inr (.inr hk))
  have hgp : g ≠ p := fun e => by
    rcases hat with h2 | h2
    · exact hne (by rw [h2, e])
    · omega
  have f2 : FrA (Mut p gv (.slice (some ⟨g, 0, none⟩) (m.queue.length + 1) cap)) w2 (w2.setCell ⟨p, 3, none⟩ (.slice (some ⟨g, 0, none⟩) (m.queue.length + 1) cap)) := FrA.set _ (.inl rfl)
  refine ⟨hb2, ⟨(setCell_self _ hb2).trans rfl, ?_, R.go (f2.wide (fun k _ a => .inr a)) (fun _ _ a => a) (fun k hk => setCell_other _ (by cases hk; exact hgp)), (h.bel.grown hg h.lt (fun k hk => (RowO.lt h.que k hk).1)).setCell h.pB _, h.pB⟩, f1.trans f2 lk, lk⟩
  refine (h.rul.go (f1.wide (fun k _ a => .inr a)) (fun k hk a => a.imp id (lk k hk)) (fun k hk => hg.block k (RowO.lt h.rul k hk).2 (fun e => (h.offs.1 k hk).2 e.symm))).go (f2.wide (fun k _ a => .inr a)) (fun _ _ a => a) (fun k hk => setCell_other _ (h.offs.1 k hk).1)
/-- Other blocks that it hangs not on. -/
theorem MkI.away (h : MkI A ns rs an ar cn cr B p W0 m gv qv w) (hA : ∀ k, k < w.heap.size → A' k → MutA A p gv qv k) : MkI A' ns rs an ar cn cr B p W0 m gv qv w :=
  ⟨h.box, h.rul.go (FrA.refl _ _) (fun k hk a => a.elim (hA k hk) .inr) (fun _ _ => rfl), h.que.go (FrA.refl _ _) (fun k hk a => a.elim (hA k hk) .inr) (fun _ _ => rfl), h.bel, h.pB⟩
/-- A step that turns none but blocks of A. -/
theorem MkI.other {C : Nat → Prop} (h : MkI A ns rs an ar cn cr B p W0 m gv qv w) (hf : FrA C w w') (hC : ∀ k, C k → A k) (hN : ∀ k, C k → ¬ Mut p gv qv k) (hb : Below B W0 w') (hA : ∀ k, k < w.heap.size → A' k → A k) : MkI A' ns rs an ar cn cr B p W0 m gv qv w' :=
  ⟨(hf.block _ (Array.getElem?_eq_some_iff.1 h.box).1 (fun a => hN _ a (.inl rfl))).trans h.box, h.rul.go (hf.wide (fun k _ a => .inl (hC k a))) (fun k hk a => a.imp (hA k hk) id) (fun k hk => hf.block k (RowO.lt h.rul k hk).2 (fun a => hN _ a (.inr (.inl hk)))), h.que.go (hf.wide (fun k _ a => .inl (hC k a))) (fun k hk a => a.imp (hA k hk) id) (fun k hk => hf.block k (RowO.lt h.que k hk).2 (fun a => hN _ a (.inr (.inr hk)))), hb, h.pB⟩
end

end Go.Proofs.Ytipkbkhnaekceaa

namespace Go.Proofs.Ytipkbkhnaekceaa
open Go.RowKit
set_option linter.unusedVariables false

/-- The blocks that the row's syms do not hang on. -/
def AR (b : Nat) (ov : Value) (p : Nat) (gv qv : Value) : Nat → Prop := fun k => k < b ∨ ov.ownBlock = some k ∨ Mut p gv qv k
def AO (A : Nat → Prop) (ov : Value) : Nat → Prop := fun k => A k ∨ ov.ownBlock = some k
structure RwI (A : Nat → Prop) (ns : List SNodeD) (rs : List SRuleD) (an ar : Option Addr) (cn cr B p : Nat) (W0 w : World) (gv0 qv0 : Value) (xs : Array Value) (m : MkD) (gv qv ov u : Value) (outl : List SymD) (kn : List ByteArray) (wr : World) : Prop where
  mki : MkI (AO A ov) ns rs an ar cn cr B p W0 m gv qv wr
  out : RowH 4 51 SymE (AR w.heap.size ov p gv qv) w.heap.size ov outl wr
  kno : Held (MutA (AO A ov) p gv qv) wr (fun V => SRow V u kn)
  xb : wr.heap[w.heap.size + 1]? = some (.cells xs 121 (0, 0))
  fr : FrA (Mut p gv0 qv0) w wr
  lk : ∀ k, k < w.heap.size → Mut p gv qv k → Mut p gv0 qv0 k
section
variable {A : Nat → Prop} {ns : List SNodeD} {rs : List SRuleD} {an ar : Option Addr} {cn cr B p : Nat} {W0 w : World} {gv0 qv0 : Value} {xs : Array Value} {m m' : MkD} {gv qv ov u gv' qv' ov' u' : Value} {outl : List SymD} {kn kn' : List ByteArray} {wr wr' : World}
theorem RwI.step (h : RwI A ns rs an ar cn cr B p W0 w gv0 qv0 xs m gv qv ov u outl kn wr) (hb : Below wr.heap.size wr wr') : RwI A ns rs an ar cn cr B p W0 w gv0 qv0 xs m gv qv ov u outl kn wr' :=
  ⟨h.mki.step hb, h.out.below hb, h.kno.fr (FrA.below hb), (hb.block _ (Array.getElem?_eq_some_iff.1 h.xb).1).trans h.xb, h.fr.trans (A' := Mut p gv0 qv0) (FrA.below hb) (fun _ _ a => a), h.lk⟩
theorem RwI.off (h : RwI A ns rs an ar cn cr B p W0 w gv0 qv0 xs m gv qv ov u outl kn wr) : (∀ k, ov.ownBlock = some k → ¬ Mut p gv qv k) ∧ ¬ Mut p gv qv (w.heap.size + 1) ∧ ov.ownBlock ≠ some (w.heap.size + 1) := by
  refine ⟨fun k hk => ?_, h.mki.off h.xb (by decide) (by decide) (by decide), fun e => ?_⟩
  · obtain ⟨cur, hc⟩ := RowO.type h.out hk
    exact h.mki.off hc (by decide) (by decide) (by decide)
  · obtain ⟨cur, hc⟩ := RowO.type h.out e
    rw [h.xb] at hc
    cases hc
theorem RwI.ar_lt (h : RwI A ns rs an ar cn cr B p W0 w gv0 qv0 xs m gv qv ov u outl kn wr) : ∀ k, AR w.heap.size ov p gv qv k → k < wr.heap.size := by
  rintro k (hk | hk | hk)
  · exact Nat.lt_of_lt_of_le hk h.fr.size
  · exact (RowO.lt h.out k hk).2
  · exact (h.mki.ge k hk).2
theorem RwI.mut_lt (h : RwI A ns rs an ar cn cr B p W0 w gv0 qv0 xs m gv qv ov u outl kn wr) (hA : ∀ k, A k → k < w.heap.size) : ∀ k, MutA (AO A ov) p gv qv k → k < wr.heap.size := by
  rintro k ((hk | hk) | hk)
  · exact Nat.lt_of_lt_of_le (hA k hk) h.fr.size
  · exact (RowO.lt h.out k hk).2
  · exact (h.mki.ge k hk).2
/-- Other names are known. -/
theorem RwI.known (h : RwI A ns rs an ar cn cr B p W0 w gv0 qv0 xs m gv qv ov u outl kn wr) (hk : Held (MutA (AO A ov) p gv qv) wr (fun V => SRow V u' kn')) : RwI A ns rs an ar cn cr B p W0 w gv0 qv0 xs m gv qv ov u' outl kn' wr := ⟨h.mki, h.out, hk, h.xb, h.fr, h.lk⟩
/-- The grammar in the making has turned. -/
theorem RwI.turn (h : RwI A ns rs an ar cn cr B p W0 w gv0 qv0 xs m gv qv ov u outl kn wr) (hM : MkI (AO A ov) ns rs an ar cn cr B p W0 m' gv' qv' wr') (hf : FrA (Mut p gv qv) wr wr') (lk : ∀ k, k < wr.heap.size → Mut p gv' qv' k → Mut p gv qv k) : RwI A ns rs an ar cn cr B p W0 w gv0 qv0 xs m' gv' qv' ov u outl kn wr' := by
  have o := h.off
  have ho : ∀ k, ov.ownBlock = some k → wr'.heap[k]? = wr.heap[k]? := fun k hk => hf.block k (RowO.lt h.out k hk).2 (o.1 k hk)
  refine ⟨hM, RowH.go h.out (hf.wide (fun k _ hk => .inr (.inr hk))) (fun k hk ha => ?_) ho, h.kno.go (hf.wide (fun k _ a => .inr a)) (fun k hk a => a.imp id (lk k hk)), (hf.block _ (Array.getElem?_eq_some_iff.1 h.xb).1 o.2.1).trans h.xb, h.fr.trans hf (fun k hk ha => h.lk k hk ha), fun k hk ha => h.lk k hk (lk k (Nat.lt_of_lt_of_le hk h.fr.size) ha)⟩
  rcases ha with ha | ha | ha
  · exact .inl ha
  · exact .inr (.inl ha)
  · exact .inr (.inr (lk k hk ha))
/-- A sym more, appended. -/
theorem RwI.sym (h : RwI A ns rs an ar cn cr B p W0 w gv0 qv0 xs m gv qv ov u outl kn wr) (hBw : B ≤ w.heap.size) : ∃ cs, wr.ownsRow w.heap.size 51 4 ov outl.length cs ∧ ∀ (g cap : Nat) (w2 : World) (vs : List Value) (s : SymD), vs.length = 4 → Held (AR w.heap.size ov p gv qv) wr (fun V => SymE V vs s) → w2.ownsRow w.heap.size 51 4 (.slice (some ⟨g, 0, none⟩) (outl.length + 1) cap) (outl.length + 1) (cs ++ vs) → wr.grownBy w2 ov.ownBlock → (ov.ownBlock = some g ∨ g = wr.heap.size) →
    RwI A ns rs an ar cn cr B p W0 w gv0 qv0 xs m gv qv (.slice (some ⟨g, 0, none⟩) (outl.length + 1) cap) u (outl ++ [s]) kn w2 := by
  obtain ⟨cs, ho, hK⟩ := RowH.add h.out (fun k hk => .inr (.inl hk))
  refine ⟨cs, ho, fun g cap w2 vs s hl hx ho2 hg hat => ?_⟩
  have lk1 : ∀ k, k < wr.heap.size → (Value.slice (some ⟨g, 0, none⟩) (outl.length + 1) cap).ownBlock = some k → ov.ownBlock = some k := fun k hk hm => by
    have e : g = k := Option.some.inj hm
    rcases hat with h2 | h2
    · rw [← e]; exact h2
    · omega
  have lk : ∀ k, k < wr.heap.size → AR w.heap.size (.slice (some ⟨g, 0, none⟩) (outl.length + 1) cap) p gv qv k → AR w.heap.size ov p gv qv k := fun k hk hm => by
    rcases hm with hm | hm | hm
    · exact .inl hm
    · exact .inr (.inl (lk1 k hk hm))
    · exact .inr (.inr hm)
  have o := h.off
  have f1 : FrA (fun k => ov.ownBlock = some k) wr w2 := FrA.grown hg (fun k hk => hk)
  have hge : ∀ k, ov.ownBlock = some k → w.heap.size ≤ k := fun k hk => (RowO.lt h.out k hk).1
  have hR := hK g cap w2 vs s (AR w.heap.size (.slice (some ⟨g, 0, none⟩) (outl.length + 1) cap) p gv qv) hl hx ho2 hg lk
  have bel : Below B W0 w2 := h.mki.bel.grown hg h.mki.lt (fun k hk => Nat.le_trans hBw (hge k hk))
  exact ⟨h.mki.other f1 (fun k hk => .inr hk) o.1 bel (fun k hk a => a.imp id (lk1 k hk)), hR, h.kno.go (f1.wide (fun k _ a => .inl (.inr a))) (fun k hk a => a.imp (fun a => a.imp id (lk1 k hk)) id), (f1.block _ (Array.getElem?_eq_some_iff.1 h.xb).1 o.2.2).trans h.xb, h.fr.trans (A' := fun k => ov.ownBlock = some k) f1 (fun k hk ha => absurd (hge k ha) (by omega)), h.lk⟩
/-- Behind a leaf's box, its args copied, and the sym laid out for the append. -/
theorem RwI.leaf {W3 w4 w6 : World} {o6 : Value} (x : SymD) (l0 l1 l2 l3 : Value) (h : RwI A ns rs an ar cn cr B p W0 w gv0 qv0 xs m gv qv ov u outl kn W3) (hb4 : Below W3.heap.size W3 w4) (hb6 : Below (w4.alloc (.cells #[l0, l1, l2, l3] 51)).heap.size (w4.alloc (.cells #[l0, l1, l2, l3] 51)) w6) (hF : Fresh (w4.alloc (.cells #[l0, l1, l2, l3] 51)).heap.size w6 (fun V => RowC 1 ExprE V o6 x.args)) :
    RwI A ns rs an ar cn cr B p W0 w gv0 qv0 xs m gv qv ov u outl kn ((w6.setCell ⟨w4.heap.size, 2, none⟩ o6).alloc (.cells #[.int .i64 x.kind, .string x.text, o6, .string x.bind] 51)) ∧
    Held (AR w.heap.size ov p gv qv) ((w6.setCell ⟨w4.heap.size, 2, none⟩ o6).alloc (.cells #[.int .i64 x.kind, .string x.text, o6, .string x.bind] 51)) (fun V => SymE V [.int .i64 x.kind, .string x.text, o6, .string x.bind] x) ∧
    Below W3.heap.size W3 ((w6.setCell ⟨w4.heap.size, 2, none⟩ o6).alloc (.cells #[.int .i64 x.kind, .string x.text, o6, .string x.bind] 51)) ∧ (w6.setCell ⟨w4.heap.size, 2, none⟩ o6).heap.size = w6.heap.size := by
  have hs5 : w4.heap.size < (w4.alloc (.cells #[l0, l1, l2, l3] 51)).heap.size := by simp
  have B5 : Below W3.heap.size W3 (w4.alloc (.cells #[l0, l1, l2, l3] 51)) := hb4.alloc hb4.size _
  have B6 : Below W3.heap.size W3 w6 := B5.trans (hb6.mono B5.size)
  have B7 : Below W3.heap.size W3 ((w6.setCell ⟨w4.heap.size, 2, none⟩ o6).alloc (.cells #[.int .i64 x.kind, .string x.text, o6, .string x.bind] 51)) := (B6.setCell hb4.size o6).alloc (by simp [World.setCell]; exact B6.size) _
  have F7 := (hF.setLow hs5 2 o6).below ((Below.refl _ _).alloc (Nat.le_refl (w6.setCell ⟨w4.heap.size, 2, none⟩ o6).heap.size) (.cells #[.int .i64 x.kind, .string x.text, o6, .string x.bind] 51))
  exact ⟨h.step B7, Held.of_fresh (Fresh.imp F7 (fun V hv => ⟨o6, rfl, hv⟩)) (fun k hk => Nat.lt_of_lt_of_le (h.ar_lt k hk) B5.size), B7, by simp [World.setCell]⟩
/-- Behind the copy of the names, and the rule laid out for the append. -/
theorem RwI.params {w5 w6 : World} {pv : Value} (nm : ByteArray) (h : RwI A ns rs an ar cn cr B p W0 w gv0 qv0 xs m gv qv ov u outl kn w5) (hA : ∀ k, A k → k < w.heap.size) (hown : w6.ownsRow w5.heap.size 9 1 pv (0 + kn.length) ([] ++ sb kn)) (hgr : (World.drew (w5.alloc (.cells #[] 9))).grownBy w6 (some w5.heap.size)) :
    RwI A ns rs an ar cn cr B p W0 w gv0 qv0 xs m gv qv ov u outl kn (w6.alloc (.cells #[.string nm, pv, .slice none 0 0] 40)) ∧
    Held (MutA (AO A ov) p gv qv) (w6.alloc (.cells #[.string nm, pv, .slice none 0 0] 40)) (fun V => RuleE V [.string nm, pv, .slice none 0 0] ⟨nm, kn, []⟩) ∧
    Below w5.heap.size w5 (w6.alloc (.cells #[.string nm, pv, .slice none 0 0] 40)) := by
  have B5 : Below w5.heap.size w5 (World.drew (w5.alloc (.cells #[] 9))) := bel_drewS ((Below.refl _ _).alloc (Nat.le_refl _) _)
  have B6 : Below w5.heap.size w5 w6 := B5.grown hgr B5.size (fun k hk => by cases hk; exact Nat.le_refl _)
  have B7 : Below w5.heap.size w5 (w6.alloc (.cells #[.string nm, pv, .slice none 0 0] 40)) := B6.alloc B6.size _
  have F6 : Fresh w5.heap.size w6 (fun V => SRow V pv kn) := Fresh.imp (own_fresh hown) (fun V hv => by
    rw [Nat.zero_add, List.nil_append] at hv
    exact OwnB.row (B := w5.heap.size) hv)
  have F7 := F6.below ((Below.refl _ _).alloc (Nat.le_refl w6.heap.size) (.cells #[.string nm, pv, .slice none 0 0] 40))
  exact ⟨h.step B7, Held.of_fresh (Fresh.imp F7 (fun V hv => ⟨pv, .slice none 0 0, rfl, hv, none, 0, rfl, fun _ => rfl, fun h0 => absurd h0 (by simp)⟩)) (h.mut_lt hA), B7⟩
end

end Go.Proofs.Ytipkbkhnaekceaa

namespace Go.Proofs.Ytipkbkhnaekceaa
open Go.RowKit
set_option linter.unusedVariables false

/-- Beside A, the two rows of alternatives. -/
def AG (A : Nat → Prop) (av mv : Value) : Nat → Prop := fun k => A k ∨ av.ownBlock = some k ∨ mv.ownBlock = some k
structure GwI (A : Nat → Prop) (ns : List SNodeD) (rs : List SRuleD) (an ar : Option Addr) (cn cr B p : Nat) (W0 w : World) (gv0 qv0 : Value) (qs xs : Array Value) (m : MkD) (gv qv av mv kv : Value) (alts more : List (List SymD)) (kn : List ByteArray) (wr : World) : Prop where
  mki : MkI (AG A av mv) ns rs an ar cn cr B p W0 m gv qv wr
  als : RowH 1 48 AltE (MutA (AG A av mv) p gv qv) w.heap.size av alts wr
  mor : RowH 1 48 AltE (MutA (AG A av mv) p gv qv) w.heap.size mv more wr
  kno : Held (MutA (AG A av mv) p gv qv) wr (fun V => SRow V kv kn)
  qb : wr.heap[w.heap.size]? = some (.cells qs 133 (0, 0))
  xb : wr.heap[w.heap.size + 1]? = some (.cells xs 121 (0, 0))
  nq : ¬ Mut p gv qv w.heap.size
  ne : ∀ k, av.ownBlock = some k → mv.ownBlock ≠ some k
  fr : FrA (Mut p gv0 qv0) w wr
  lk : ∀ k, k < w.heap.size → Mut p gv qv k → Mut p gv0 qv0 k
section
variable {A : Nat → Prop} {ns : List SNodeD} {rs : List SRuleD} {an ar : Option Addr} {cn cr B p : Nat} {W0 w : World} {gv0 qv0 : Value} {qs xs : Array Value} {m m' : MkD} {gv qv av mv kv gv' qv' : Value} {alts more : List (List SymD)} {kn : List ByteArray} {wr wr' : World}
theorem GwI.step (h : GwI A ns rs an ar cn cr B p W0 w gv0 qv0 qs xs m gv qv av mv kv alts more kn wr) (hb : Below wr.heap.size wr wr') : GwI A ns rs an ar cn cr B p W0 w gv0 qv0 qs xs m gv qv av mv kv alts more kn wr' :=
  ⟨h.mki.step hb, h.als.below hb, h.mor.below hb, h.kno.fr (FrA.below hb), (hb.block _ (Array.getElem?_eq_some_iff.1 h.qb).1).trans h.qb, (hb.block _ (Array.getElem?_eq_some_iff.1 h.xb).1).trans h.xb, h.nq, h.ne, h.fr.trans (A' := Mut p gv0 qv0) (FrA.below hb) (fun _ _ a => a), h.lk⟩
theorem alt_off {v : Value} {l : List (List SymD)} {b : Nat} {C : Nat → Prop} (h : RowH 1 48 AltE C b v l wr) (hM : MkI (AG A av mv) ns rs an ar cn cr B p W0 m gv qv wr) : ∀ k, v.ownBlock = some k → ¬ Mut p gv qv k := fun k hk => by
  obtain ⟨cur, hc⟩ := RowO.type h hk
  exact hM.off hc (by decide) (by decide) (by decide)
theorem alt_ne {v : Value} {l : List (List SymD)} {b x : Nat} {C : Nat → Prop} {cs : Array Value} {t : TypeId} (h : RowH 1 48 AltE C b v l wr) (hx : wr.heap[x]? = some (.cells cs t (0, 0))) (ht : t ≠ 48) : v.ownBlock ≠ some x := fun e => by
  obtain ⟨cur, hc⟩ := RowO.type h e
  rw [hx] at hc
  cases hc
  exact ht rfl
theorem GwI.nx (h : GwI A ns rs an ar cn cr B p W0 w gv0 qv0 qs xs m gv qv av mv kv alts more kn wr) : ¬ Mut p gv qv (w.heap.size + 1) := h.mki.off h.xb (by decide) (by decide) (by decide)
theorem GwI.ag_lt (h : GwI A ns rs an ar cn cr B p W0 w gv0 qv0 qs xs m gv qv av mv kv alts more kn wr) (hA : ∀ k, A k → k < w.heap.size) : ∀ k, AG A av mv k → k < wr.heap.size := by
  rintro k (hk | hk | hk)
  · exact Nat.lt_of_lt_of_le (hA k hk) h.fr.size
  · exact (RowO.lt h.als k hk).2
  · exact (RowO.lt h.mor k hk).2
theorem GwI.mut_lt (h : GwI A ns rs an ar cn cr B p W0 w gv0 qv0 qs xs m gv qv av mv kv alts more kn wr) (hA : ∀ k, A k → k < w.heap.size) : ∀ k, MutA (AG A av mv) p gv qv k → k < wr.heap.size := by
  rintro k (hk | hk)
  · exact h.ag_lt hA k hk
  · exact (h.mki.ge k hk).2
/-- The grammar in the making has turned. -/
theorem GwI.turn (h : GwI A ns rs an ar cn cr B p W0 w gv0 qv0 qs xs m gv qv av mv kv alts more kn wr) (hM : MkI (AG A av mv) ns rs an ar cn cr B p W0 m' gv' qv' wr') (hf : FrA (Mut p gv qv) wr wr') (lk : ∀ k, k < wr.heap.size → Mut p gv' qv' k → Mut p gv qv k) : GwI A ns rs an ar cn cr B p W0 w gv0 qv0 qs xs m' gv' qv' av mv kv alts more kn wr' := by
  have hq := (Array.getElem?_eq_some_iff.1 h.qb).1
  have hx := (Array.getElem?_eq_some_iff.1 h.xb).1
  have hfw : FrA (MutA (AG A av mv) p gv qv) wr wr' := hf.wide (fun k _ a => .inr a)
  have hlk : ∀ k, k < wr.heap.size → MutA (AG A av mv) p gv' qv' k → MutA (AG A av mv) p gv qv k := fun k hk a => a.imp id (lk k hk)
  exact ⟨hM, h.als.go hfw hlk (fun k hk => hf.block k (RowO.lt h.als k hk).2 (alt_off h.als h.mki k hk)), h.mor.go hfw hlk (fun k hk => hf.block k (RowO.lt h.mor k hk).2 (alt_off h.mor h.mki k hk)), h.kno.go hfw hlk, (hf.block _ hq h.nq).trans h.qb, (hf.block _ hx h.nx).trans h.xb, fun a => h.nq (lk _ hq a), h.ne, h.fr.trans hf (fun k hk a => h.lk k hk a), fun k hk a => h.lk k hk (lk k (Nat.lt_of_lt_of_le hk h.fr.size) a)⟩
theorem own_was {v : Value} {g n c H k : Nat} (hat : v.ownBlock = some g ∨ g = H) (hk : k < H) (h : (Value.slice (some ⟨g, 0, none⟩) n c).ownBlock = some k) : v.ownBlock = some k := by
  have e : g = k := Option.some.inj h
  rcases hat with h2 | h2
  · rw [← e]; exact h2
  · omega
/-- An alternative more. -/
theorem GwI.addA (h : GwI A ns rs an ar cn cr B p W0 w gv0 qv0 qs xs m gv qv av mv kv alts more kn wr) (hBw : B ≤ w.heap.size) : ∃ cs, wr.ownsRow w.heap.size 48 1 av alts.length cs ∧ ∀ (g cap : Nat) (w2 : World) (vs : List Value) (x : List SymD), vs.length = 1 → Held (MutA (AG A av mv) p gv qv) wr (fun V => AltE V vs x) → w2.ownsRow w.heap.size 48 1 (.slice (some ⟨g, 0, none⟩) (alts.length + 1) cap) (alts.length + 1) (cs ++ vs) → wr.grownBy w2 av.ownBlock → (av.ownBlock = some g ∨ g = wr.heap.size) →
    GwI A ns rs an ar cn cr B p W0 w gv0 qv0 qs xs m gv qv (.slice (some ⟨g, 0, none⟩) (alts.length + 1) cap) mv kv (alts ++ [x]) more kn w2 ∧ FrA (MutA (AG A av mv) p gv qv) wr w2 ∧ ∀ k, k < wr.heap.size → MutA (AG A (.slice (some ⟨g, 0, none⟩) (alts.length + 1) cap) mv) p gv qv k → MutA (AG A av mv) p gv qv k := by
  obtain ⟨cs, ho, hK⟩ := RowH.add h.als (fun k hk => .inl (.inr (.inl hk)))
  refine ⟨cs, ho, fun g cap w2 vs x hl hx ho2 hg hat => ?_⟩
  have lk1 : ∀ k, k < wr.heap.size → AG A (.slice (some ⟨g, 0, none⟩) (alts.length + 1) cap) mv k → AG A av mv k := fun k hk a => a.imp id (fun a => a.imp (own_was hat hk) id)
  have lk : ∀ k, k < wr.heap.size → MutA (AG A (.slice (some ⟨g, 0, none⟩) (alts.length + 1) cap) mv) p gv qv k → MutA (AG A av mv) p gv qv k := fun k hk a => a.imp (lk1 k hk) id
  have f1 : FrA (fun k => av.ownBlock = some k) wr w2 := FrA.grown hg (fun k hk => hk)
  have f2 : FrA (MutA (AG A av mv) p gv qv) wr w2 := f1.wide (fun k _ a => .inl (.inr (.inl a)))
  have hge : ∀ k, av.ownBlock = some k → w.heap.size ≤ k := fun k hk => (RowO.lt h.als k hk).1
  have bel : Below B W0 w2 := h.mki.bel.grown hg h.mki.lt (fun k hk => Nat.le_trans hBw (hge k hk))
  refine ⟨⟨h.mki.other f1 (fun k hk => .inr (.inl hk)) (alt_off h.als h.mki) bel lk1, hK g cap w2 vs x _ hl hx ho2 hg lk, h.mor.go f2 lk (fun k hk => f1.block k (RowO.lt h.mor k hk).2 (fun e => h.ne k e hk)), h.kno.go f2 lk, (f1.block _ (Array.getElem?_eq_some_iff.1 h.qb).1 (alt_ne h.als h.qb (by decide))).trans h.qb, (f1.block _ (Array.getElem?_eq_some_iff.1 h.xb).1 (alt_ne h.als h.xb (by decide))).trans h.xb, h.nq, fun k hk e => ?_, h.fr.trans (A' := fun k => av.ownBlock = some k) f1 (fun k hk ha => absurd (hge k ha) (by omega)), h.lk⟩, f2, lk⟩
  exact h.ne k (own_was hat (RowO.lt h.mor k e).2 hk) e
/-- One more of those that come again. -/
theorem GwI.addM (h : GwI A ns rs an ar cn cr B p W0 w gv0 qv0 qs xs m gv qv av mv kv alts more kn wr) (hBw : B ≤ w.heap.size) : ∃ cs, wr.ownsRow w.heap.size 48 1 mv more.length cs ∧ ∀ (g cap : Nat) (w2 : World) (vs : List Value) (x : List SymD), vs.length = 1 → Held (MutA (AG A av mv) p gv qv) wr (fun V => AltE V vs x) → w2.ownsRow w.heap.size 48 1 (.slice (some ⟨g, 0, none⟩) (more.length + 1) cap) (more.length + 1) (cs ++ vs) → wr.grownBy w2 mv.ownBlock → (mv.ownBlock = some g ∨ g = wr.heap.size) →
    GwI A ns rs an ar cn cr B p W0 w gv0 qv0 qs xs m gv qv av (.slice (some ⟨g, 0, none⟩) (more.length + 1) cap) kv alts (more ++ [x]) kn w2 := by
  obtain ⟨cs, ho, hK⟩ := RowH.add h.mor (fun k hk => .inl (.inr (.inr hk)))
  refine ⟨cs, ho, fun g cap w2 vs x hl hx ho2 hg hat => ?_⟩
  have lk1 : ∀ k, k < wr.heap.size → AG A av (.slice (some ⟨g, 0, none⟩) (more.length + 1) cap) k → AG A av mv k := fun k hk a => a.imp id (fun a => a.imp id (own_was hat hk))
  have lk : ∀ k, k < wr.heap.size → MutA (AG A av (.slice (some ⟨g, 0, none⟩) (more.length + 1) cap)) p gv qv k → MutA (AG A av mv) p gv qv k := fun k hk a => a.imp (lk1 k hk) id
  have f1 : FrA (fun k => mv.ownBlock = some k) wr w2 := FrA.grown hg (fun k hk => hk)
  have f2 : FrA (MutA (AG A av mv) p gv qv) wr w2 := f1.wide (fun k _ a => .inl (.inr (.inr a)))
  have hge : ∀ k, mv.ownBlock = some k → w.heap.size ≤ k := fun k hk => (RowO.lt h.mor k hk).1
  have bel : Below B W0 w2 := h.mki.bel.grown hg h.mki.lt (fun k hk => Nat.le_trans hBw (hge k hk))
  refine ⟨h.mki.other f1 (fun k hk => .inr (.inr hk)) (alt_off h.mor h.mki) bel lk1, h.als.go f2 lk (fun k hk => f1.block k (RowO.lt h.als k hk).2 (fun e => h.ne k hk e)), hK g cap w2 vs x _ hl hx ho2 hg lk, h.kno.go f2 lk, (f1.block _ (Array.getElem?_eq_some_iff.1 h.qb).1 (alt_ne h.mor h.qb (by decide))).trans h.qb, (f1.block _ (Array.getElem?_eq_some_iff.1 h.xb).1 (alt_ne h.mor h.xb (by decide))).trans h.xb, h.nq, fun k hk e => ?_, h.fr.trans (A' := fun k => mv.ownBlock = some k) f1 (fun k hk ha => absurd (hge k ha) (by omega)), h.lk⟩
  exact h.ne k hk (own_was hat (RowO.lt h.als k hk).2 e)
/-- At the end: what the rules may hold. -/
theorem GwI.done (h : GwI A ns rs an ar cn cr B p W0 w gv0 qv0 qs xs m gv qv av mv kv alts more kn wr) (hA : ∀ k, A k → k < w.heap.size) : MkI A ns rs an ar cn cr B p W0 m gv qv wr ∧ Held (MutA A p gv qv) wr (fun V => RowC 1 AltE V av alts) := by
  refine ⟨h.mki.away (fun k hk a => .inl (.inl a)), ?_⟩
  have h2 : RowH 1 48 AltE (MutA A p gv qv) w.heap.size av alts wr := h.als.go (FrA.refl _ _) (fun k hk a => a.imp .inl id) (fun _ _ => rfl)
  refine RowH.held h2 (fun k hk a => ?_)
  rcases a with a | a
  · have := hA k a
    have := (RowO.lt h.als k hk).1
    omega
  · exact alt_off h.als h.mki k hk a
end
/-- A whole row appended to one that the call owns, both held. -/
theorem RowH.addAll {α : Type} {sz : Nat} {T : TypeId} {E : World → List Value → α → Prop} {A : Nat → Prop} {B B' : Nat} {v u : Value} {xs ys : List α} {w : World} (h : RowH sz T E A B v xs w) (h' : RowH sz T E A B' u ys w) (hvA : ∀ k, v.ownBlock = some k → A k) : ∃ cs ds, w.ownsRow B T sz v xs.length cs ∧ w.ownsRow B' T sz u ys.length ds ∧ ∀ (g cap : Nat) (w2 : World) (A' : Nat → Prop), w2.ownsRow B T sz (.slice (some ⟨g, 0, none⟩) (xs.length + ys.length) cap) (xs.length + ys.length) (cs ++ ds) → w.grownBy w2 v.ownBlock → (∀ k, k < w.heap.size → A' k → A k) → RowH sz T E A' B (.slice (some ⟨g, 0, none⟩) (xs.length + ys.length) cap) (xs ++ ys) w2 := by
  obtain ⟨vss, h1, h2, h3, h4⟩ := h
  obtain ⟨uss, k1, k2, k3, k4⟩ := h'
  refine ⟨vss.flatten, uss.flatten, h3, k3, fun g cap w2 A' ho2 hg hA => ?_⟩
  have hfr : FrA A w w2 := FrA.grown hg hvA
  have e : (xs ++ ys).length = xs.length + ys.length := by simp
  refine ⟨vss ++ uss, by simp [h1, k1], fun x hx => ?_, by rw [e]; simpa using ho2, fun i hi hi' => ?_⟩
  · rcases List.mem_append.1 hx with hx | hx
    · exact h2 x hx
    · exact k2 x hx
  · by_cases hlt : i < vss.length
    · rw [List.getElem_append_left hlt, List.getElem_append_left (by omega)]
      exact Held.go (h4 i hlt (by omega)) hfr hA
    · rw [List.getElem_append_right (by omega), List.getElem_append_right (by omega)]
      have hi2 : i - vss.length < uss.length := by simp at hi; omega
      have e2 : i - xs.length = i - vss.length := by rw [h1]
      simp only [e2]
      exact Held.go (k4 (i - vss.length) hi2 (by omega)) hfr hA

end Go.Proofs.Ytipkbkhnaekceaa
