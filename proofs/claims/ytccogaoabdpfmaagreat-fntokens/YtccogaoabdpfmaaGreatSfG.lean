/- Grammars with groups: whether their form is right, and made plain: in pure terms. No program is named. -/
/- What ReadSurface knows between two rules. -/
/- The specification's SurfaceOk, out of contracts on l11Form and l12Flat. -/
/- Grammars with groups, as they lie in memory, to be read alone; a surface's box. -/
/- Small helpers of the specification's l11Form: l11InRow, l11Group, l11Params, l11Leaf. -/
import Derived.Test.YtccogaoabdpfmaaGreatXPure
import Derived.Test.YtccogaoabdpfmaaGreatGGram
import Derived.Test.YtccogaoabdpfmaaGreatSuD
namespace Go.Proofs.YtccogaoabdpfmaaGreat
open Go.RowKit
def leafS (x : SNodeD) : SymD := ⟨x.kind, x.text, x.args, x.bind⟩
def parsS (name : ByteArray) : List SRuleD → Int
 | [] => -1
 | r :: rs => if r.name = name then r.params.length else parsS name rs
def nodeS (ns : List SNodeD) (i : Int) : SNodeD := ns.getD i.toNat default
def shapeS (ns : List SNodeD) (i : Nat) (x : SNodeD) : Bool :=
 if ¬ (1 ≤ x.kind ∧ x.kind ≤ 9) then false
 else if x.kind ≤ 4 then decide (x.kids.length = 0)
 else if ¬ x.text = em ∨ ¬ x.bind = em ∨ 0 < x.args.length ∨ (x.kind = 5 ∧ 8 < x.kids.length) ∨ (x.kind = 6 ∧ ¬ (1 ≤ x.kids.length ∧ x.kids.length ≤ 8)) ∨ (6 < x.kind ∧ ¬ x.kids.length = 1) then false
 else x.kids.all fun k => decide (0 ≤ k ∧ k ≤ (i : Int) - 1) && !(decide ((x.kind = 5 ∧ (nodeS ns k).kind = 5) ∨ (x.kind = 6 ∧ ¬ (nodeS ns k).kind = 5) ∨ (6 < x.kind ∧ ¬ (nodeS ns k).kind = 6)))
def groupS (ns : List SNodeD) (i : Int) : Int := if (nodeS ns i).kind = 6 then i else (nodeS ns i).kids.getD 0 0
def knF (ns : List SNodeD) (rs : List SRuleD) : Nat → Bool → List Int → List ByteArray → Bool
 | 0, _, _, _ => true
 | _ + 1, _, [], _ => true
 | f + 1, true, k :: ks, known =>
  if (nodeS ns k).kind ≤ 4 then
   (symB (leafS (nodeS ns k)) known (parsS (nodeS ns k).text rs)).2 && knF ns rs f true ks (symB (leafS (nodeS ns k)) known (parsS (nodeS ns k).text rs)).1
  else knF ns rs f false (nodeS ns (groupS ns k)).kids known && knF ns rs f true ks known
 | f + 1, false, k :: ks, known => knF ns rs f true (nodeS ns k).kids known && knF ns rs f false ks known
def addU (us : List Int) (k : Int) : List Int := us.modify k.toNat (· + 1)
def usesN (us : List Int) (xs : List SNodeD) : List Int := xs.foldl (fun us x => x.kids.foldl addU us) us
def usesR (us : List Int) (rs : List SRuleD) : List Int := rs.foldl (fun us r => addU us r.body) us
def fuelK : Nat := 2000
def ruleS (ns : List SNodeD) (rs : List SRuleD) (i : Nat) (r : SRuleD) : Bool :=
 decide (0 ≤ r.body ∧ r.body ≤ (ns.length : Int) - 1) && decide ((nodeS ns r.body).kind = 6) && ruleNameB r.name && paramsB r.params && !(decide (i = 0 ∧ 0 < r.params.length)) && (rs.take i).all fun q => !(decide (q.name = r.name))
def formB (ns : List SNodeD) (rs : List SRuleD) : Bool :=
 decide (ns.length ≤ 120) && decide (1 ≤ rs.length ∧ rs.length ≤ 8) && ((List.range ns.length).all fun i => shapeS ns i (ns.getD i default)) && ((List.range rs.length).all fun i => ruleS ns rs i (rs.getD i default)) && ((usesR (usesN (List.replicate ns.length 0) ns) rs).all fun u => decide (u = 1)) && rs.all fun r => knF ns rs fuelK false (nodeS ns r.body).kids r.params
structure MkD where
 rules : List RuleD
 queue : List (Int × Nat × List ByteArray)
 count : Nat
def varE (s : ByteArray) : List NodeD := [⟨2, 0, s, []⟩]
def xName (n : Nat) : ByteArray := ⟨(120 :: Lib.itoa (n : Int)).toArray⟩
def rowK (ns : List SNodeD) (m : MkD) (known : List ByteArray) (out : List SymD) : List Int → MkD × List SymD
 | [] => (m, out)
 | k :: ks =>
  if (nodeS ns k).kind ≤ 4 then rowK ns m (if (nodeS ns k).bind = em then known else putS known (nodeS ns k).bind) (out ++ [leafS (nodeS ns k)]) ks
  else rowK ns { rules := m.rules ++ [⟨xName m.count, known, []⟩], queue := m.queue ++ [(k, m.rules.length, known)], count := m.count + 1 } known (out ++ [⟨3, xName m.count, known.map varE, em⟩]) ks
def rowsK (ns : List SNodeD) (known : List ByteArray) (m : MkD) (alts : List (List SymD)) : List Int → MkD × List (List SymD)
 | [] => (m, alts)
 | k :: ks => match rowK ns m known [] (nodeS ns k).kids with | (m, syms) => rowsK ns known m (alts ++ [syms]) ks
def setAlts (rs : List RuleD) (i : Nat) (alts : List (List SymD)) : List RuleD := rs.modify i fun r => { r with alts := alts }
def groupM (ns : List SNodeD) (m : MkD) (q : Int × Nat × List ByteArray) : MkD :=
 match rowsK ns q.2.2 m [] (nodeS ns (groupS ns q.1)).kids with
 | (m, alts) =>
  let again : SymD := ⟨3, (m.rules.getD q.2.1 default).name, q.2.2.map varE, em⟩
  let more := alts.map fun s => s ++ [again]
  { m with rules := setAlts m.rules q.2.1 (if (nodeS ns q.1).kind = 9 then alts ++ [[]] else if (nodeS ns q.1).kind = 7 then [[]] ++ more else if (nodeS ns q.1).kind = 8 then alts ++ more else alts) }
def queueM (ns : List SNodeD) : Nat → Nat → MkD → MkD
 | 0, _, m => m
 | f + 1, i, m => if i < m.queue.length then queueM ns f (i + 1) (groupM ns m (m.queue.getD i default)) else m
def bodiesM (ns : List SNodeD) (m : MkD) (i : Nat) : List SRuleD → MkD
 | [] => m
 | r :: rs => match rowsK ns r.params m [] (nodeS ns r.body).kids with | (m, alts) => bodiesM ns { m with rules := setAlts m.rules i alts } (i + 1) rs
def xFig (s : ByteArray) : Bool := match s.data.toList with | a :: b :: _ => decide (a = 120) && figT b.toNat | _ => false
def flatM (ns : List SNodeD) (rs : List SRuleD) : List RuleD :=
 (queueM ns 130 0 (bodiesM ns ⟨rs.map fun r => ⟨r.name, r.params, []⟩, [], 0⟩ 0 rs)).rules
def flatB (ns : List SNodeD) (rs : List SRuleD) : Option (List RuleD) := if rs.any (fun r => xFig r.name) = true then none else if gramB (flatM ns rs) = true then some (flatM ns rs) else none
def surfOkB (ns : List SNodeD) (rs : List SRuleD) : Bool := formB ns rs && (flatB ns rs).isSome
def readB (s : ByteArray) : Option (List SNodeD × List SRuleD) := match parseB s with | some (ns, rs) => if surfOkB ns rs = true then some (ns, rs) else none | none => none
end Go.Proofs.YtccogaoabdpfmaaGreat

namespace Go.Proofs.YtccogaoabdpfmaaGreat
open Go.RowKit
set_option linter.unusedVariables false
theorem kindR_kind {tk : List TokD} {r : RdD} {k : Int} {t : ByteArray} (h : kindR tk r k = some t) : ∃ hl : r.at_ < tk.length, tk[r.at_].kind = k ∧ tk[r.at_].text = t := by
 have h1 := kindR_lt h
 have hb := kindR_nb h
 refine ⟨h1, ?_⟩
 rw [kindR, if_neg (by rw [hb]; decide), List.getElem?_eq_getElem h1] at h
 simp only at h
 split at h
 ·rename_i hk
  cases h; exact ⟨hk, rfl⟩
 ·cases h
abbrev NoA : Nat → Prop := fun _ => False
structure RsI (p : Nat) (lv : Value) (tk : List TokD) (w : World) (r : RdD) (rs : List SRuleD) (rv : Value) (W : World) : Prop where
 su : SuS NoA p p lv tk r W
 ob : W.heap[p + 1]? = some (.cells #[.slice none 0 0, rv] 27 (0, 0))
 rul : SRulesO p rv rs W
 rc : W.heap[w.heap.size]? = some (.cells #[.slice none 0 0, .slice none 0 0] 27 (0, 0))
 bel : Below w.heap.size w W
 lo : w.heap.size < p
section
variable {p : Nat} {lv rv : Value} {tk : List TokD} {w W W' : World} {r r' : RdD} {rs : List SRuleD}
theorem RsI.step (h : RsI p lv tk w r rs rv W) (hs : SuS NoA p p lv tk r' W') (hf : FrS p W W') : RsI p lv tk w r' rs rv W' :=
 ⟨hs, hf.typ _ _ _ _ h.ob (by decide), sRules_fr h.rul hf (by decide) (by decide), hf.typ _ _ _ _ h.rc (by decide), h.bel.trans (hf.bel.mono (Nat.le_of_lt h.lo)), h.lo⟩
end
structure PrI (p : Nat) (lv ov : Value) (tk : List TokD) (W0 : World) (r : RdD) (name : ByteArray) (pv : Value) (ps : List ByteArray) (W : World) : Prop where
 rds : RdS p p lv ov tk r W
 xb : W.heap[W0.heap.size]? = some (.cells #[.string name, pv, .int .i64 0] 42 (0, 0))
 par : OwnB W0.heap.size pv ps W
 fr : FrR p W0 W
 size : W0.heap.size ≤ W.heap.size
 bw : p ≤ W0.heap.size
section
variable {p : Nat} {lv ov pv : Value} {tk : List TokD} {W0 W W' : World} {r r' : RdD} {name : ByteArray} {ps : List ByteArray}
theorem PrI.rdr (h : PrI p lv ov tk W0 r name pv ps W) (hr : RdB p lv ov r' W') (hf : FrR p W W') : PrI p lv ov tk W0 r' name pv ps W' :=
 ⟨h.rds.next hr hf, hf.typ _ _ _ _ h.xb (by decide), ownB_fr h.par hf (by decide), h.fr.trans hf, Nat.le_trans h.size hf.bel.size, h.bw⟩
theorem PrI.more {w3 : World} {gg cap : Nat} {t : ByteArray} (h : PrI p lv ov tk W0 r name pv ps W) (hpw : p < W0.heap.size)
  (hown : w3.ownsRow W0.heap.size 9 1 (.slice (some ⟨gg, 0, none⟩) (ps.length + 1) cap) (ps.length + 1) (sb ps ++ [.string t])) (hg : (W.alloc (.cells #[.string t] 9)).grownBy w3 pv.ownBlock) :
  PrI p lv ov tk W0 r name (.slice (some ⟨gg, 0, none⟩) (ps.length + 1) cap) (ps ++ [t]) (w3.setCell ⟨W0.heap.size, 1, none⟩ (.slice (some ⟨gg, 0, none⟩) (ps.length + 1) cap)) := by
 have bal : Below W.heap.size W (W.alloc (.cells #[.string t] 9)) := (Below.refl _ _).alloc (Nat.le_refl _) _
 have hp1 : OwnB W0.heap.size pv ps (W.alloc (.cells #[.string t] 9)) := own_below h.par bal
 have F3 : FrT [9] W0.heap.size W w3 := (FrT.below bal h.size).trans (fr_grown hp1 hg (by simp) (by simp; have := h.size; omega))
 have X3 := F3.typ _ _ _ _ h.xb (by decide)
 have F4 : FrT [42] W0.heap.size w3 (w3.setCell ⟨W0.heap.size, 1, none⟩ (.slice (some ⟨gg, 0, none⟩) (ps.length + 1) cap)) := fr_set _ X3 (by simp) (Nat.le_refl _)
 have hb : Below W0.heap.size W (w3.setCell ⟨W0.heap.size, 1, none⟩ (.slice (some ⟨gg, 0, none⟩) (ps.length + 1) cap)) := F3.bel.trans F4.bel
 have R3 : RdB p lv ov r w3 := F3.typ _ _ _ _ h.rds.rd (by decide)
 refine ⟨h.rds.go (by rw [RdB, setCell_other _ (by omega)]; exact R3) (hb.mono h.bw), by rw [setCell_self _ X3]; rfl, ?_, h.fr.new hb h.bw, Nat.le_trans h.size hb.size, h.bw⟩
 have e : sb (ps ++ [t]) = sb ps ++ [.string t] := by simp [sb]
 refine ownB_fr (ts := [42]) ?_ F4 (by decide)
 rw [OwnB, List.length_append, e]
 exact hown
end
section
variable {p : Nat} {lv ov pv rv : Value} {tk : List TokD} {w W0 W : World} {r r' : RdD} {name : ByteArray} {ps : List ByteArray} {rs : List SRuleD} {k : Int}
theorem PrI.out (h : PrI p lv ov tk W0 r' name pv ps W) (hI : RsI p lv tk w r rs rv W0) (hN : SNodesO NoA p ov r.out W0) (ho : r'.out = r.out) : RsI p lv tk w r' rs rv W :=
 hI.step ⟨ov, h.rds, by rw [ho]; exact sNodes_rd hN h.fr⟩ (FrR.toS h.fr)
theorem RsI.rule {w3 : World} {gg cap : Nat} {cs : List Value} (h : RsI p lv tk w r rs rv W) (hp : OwnB p pv ps W)
  (hcs : W.ownsRow p 42 3 rv rs.length cs)
  (hsn : ∀ (v' : Value) (w2 : World) (vs : List Value) (x : SRuleD), vs.length = 3 → w2.ownsRow p 42 3 v' (rs.length + 1) (cs ++ vs) → (∀ vs y, SRuleV p W vs y → SRuleV p w2 vs y) → SRuleV p w2 vs x → RowO 3 42 (SRuleV p) p v' (rs ++ [x]) w2)
  (hown : w3.ownsRow p 42 3 (.slice (some ⟨gg, 0, none⟩) (rs.length + 1) cap) (rs.length + 1) (cs ++ [.string name, pv, .int .i64 k])) (hg : (W.alloc (.cells #[.string name, pv, .int .i64 k] 42)).grownBy w3 rv.ownBlock) :
  RsI p lv tk w r (rs ++ [⟨name, ps, k⟩]) (.slice (some ⟨gg, 0, none⟩) (rs.length + 1) cap) (w3.setCell ⟨p + 1, 1, none⟩ (.slice (some ⟨gg, 0, none⟩) (rs.length + 1) cap)) := by
 obtain ⟨ov, hR, hN⟩ := h.su
 have hpW : p ≤ W.heap.size := hR.lt
 have bal : Below W.heap.size W (W.alloc (.cells #[.string name, pv, .int .i64 k] 42)) := (Below.refl _ _).alloc (Nat.le_refl _) _
 have F3 : FrT [42] p W w3 := (FrT.below bal hpW).trans (fr_grown (World.ownsRow.alloc hcs _) hg (by simp) (by simp; omega))
 have O3 : w3.heap[p + 1]? = some (.cells #[.slice none 0 0, rv] 27 (0, 0)) := F3.typ _ _ _ _ h.ob (by decide)
 have F4 : FrT [27] p w3 (w3.setCell ⟨p + 1, 1, none⟩ (.slice (some ⟨gg, 0, none⟩) (rs.length + 1) cap)) := fr_set _ O3 (by simp) (by omega)
 have hlo := h.lo
 refine ⟨⟨ov, hR.go (F4.typ _ _ _ _ (F3.typ _ _ _ _ hR.rd (by decide)) (by decide)) (F3.bel.trans F4.bel), sNodes_fr (sNodes_fr hN F3 (by decide) (by decide) (by decide) (by decide)) F4 (by decide) (by decide) (by decide) (by decide)⟩, by rw [setCell_self _ O3]; rfl, ?_, ?_, h.bel.trans ((F3.bel.trans F4.bel).mono (Nat.le_of_lt hlo)), hlo⟩
 ·refine sRules_fr ?_ F4 (by decide) (by decide)
  exact hsn _ w3 [.string name, pv, .int .i64 k] ⟨name, ps, k⟩ rfl hown (fun vs y hy => sRuleV_fr hy F3 (by decide)) ⟨pv, rfl, ownB_fr hp F3 (by decide)⟩
 ·rw [setCell_other _ (by omega)]
  exact F3.typ _ _ _ _ h.rc (by decide)
end
theorem ownB_nil11 (B : Nat) (w : World) : OwnB B (.slice none 0 0) [] w := World.ownsRow_nil _ _ _ _
theorem askAlts {tk : List TokD} {r : RdD} (hT : Tk200 tk) (hat : r.at_ ≤ tk.length) (hd : r.deep = 0) (ho : r.out.length ≤ 4 * r.at_ + 8) : AskS tk fuelE .alts r := by
 have h1 := hT.len
 have hf : fuelE = 4000 := rfl
 exact ⟨hT, hat, by rw [hf]; simp only [rankS]; omega, by rw [hf, hd]; decide, by rw [hf, hd]; decide, by rw [hf]; omega⟩
/-! ### what rulesR is, case by case (by 'rfl': its own equation is not come by otherwise) -/
def nameR (F P : Nat) (tk : List TokD) (f : Nat) (r : RdD) (rs : List SRuleD) (t : ByteArray) : Option (List SNodeD × List SRuleD) :=
 if (wantR tk (onR r) arrow).bad = true then none else rulesR F P tk f (wantR tk (suF tk F .alts (wantR tk (onR r) arrow) []).1 (s1 59)) (rs ++ [⟨t, [], (suF tk F .alts (wantR tk (onR r) arrow) []).2.getD 0⟩])
def openR (F P : Nat) (tk : List TokD) (f : Nat) (r : RdD) (rs : List SRuleD) (t : ByteArray) : Option (List SNodeD × List SRuleD) :=
 if (parsR tk P (onR r) [] true).2.2 = false ∨ (wantR tk (wantR tk (parsR tk P (onR r) [] true).1 (s1 41)) arrow).bad = true then none
 else rulesR F P tk f (wantR tk (suF tk F .alts (wantR tk (wantR tk (parsR tk P (onR r) [] true).1 (s1 41)) arrow) []).1 (s1 59)) (rs ++ [⟨t, (parsR tk P (onR r) [] true).2.1, (suF tk F .alts (wantR tk (wantR tk (parsR tk P (onR r) [] true).1 (s1 41)) arrow) []).2.getD 0⟩])
theorem rulesR_eq0 (F P : Nat) (tk : List TokD) (f : Nat) (r : RdD) (rs : List SRuleD) : rulesR F P tk (f + 1) r rs = if r.bad = true then none
  else if r.at_ < tk.length then
   match kindR tk r 1 with
   | some t => match suF tk F .alts (wantR tk (onR r) arrow) [] with
    | (q, k) => if (wantR tk (onR r) arrow).bad = true then none else rulesR F P tk f (wantR tk q (s1 59)) (rs ++ [⟨t, [], k.getD 0⟩])
   | none => match kindR tk r 6 with
    | some t => match parsR tk P (onR r) [] true with
     | (q, ps, ok) => match wantR tk (wantR tk q (s1 41)) arrow with
      | q => if ok = false ∨ q.bad = true then none else match suF tk F .alts q [] with
       | (q, k) => rulesR F P tk f (wantR tk q (s1 59)) (rs ++ [⟨t, ps, k.getD 0⟩])
    | none => none
  else some (r.out, rs) := rfl
theorem nameR_eq (F P : Nat) (tk : List TokD) (f : Nat) (r : RdD) (rs : List SRuleD) (t : ByteArray) : (match suF tk F .alts (wantR tk (onR r) arrow) [] with
    | (q, k) => if (wantR tk (onR r) arrow).bad = true then none else rulesR F P tk f (wantR tk q (s1 59)) (rs ++ [⟨t, [], k.getD 0⟩])) = nameR F P tk f r rs t := by
 unfold nameR
 generalize suF tk F .alts (wantR tk (onR r) arrow) [] = q
 obtain ⟨a, b⟩ := q
 rfl
theorem openR_eq (F P : Nat) (tk : List TokD) (f : Nat) (r : RdD) (rs : List SRuleD) (t : ByteArray) : (match parsR tk P (onR r) [] true with
     | (q, ps, ok) => match wantR tk (wantR tk q (s1 41)) arrow with
      | q => if ok = false ∨ q.bad = true then none else match suF tk F .alts q [] with
       | (q, k) => rulesR F P tk f (wantR tk q (s1 59)) (rs ++ [⟨t, ps, k.getD 0⟩])) = openR F P tk f r rs t := by
 unfold openR
 generalize parsR tk P (onR r) [] true = x
 obtain ⟨a, ps, ok⟩ := x
 rfl
theorem rulesR_eq (F P : Nat) (tk : List TokD) (f : Nat) (r : RdD) (rs : List SRuleD) : rulesR F P tk (f + 1) r rs = if r.bad = true then none else if r.at_ < tk.length then
  (match kindR tk r 1 with
  | some t => nameR F P tk f r rs t
  | none => match kindR tk r 6 with
   | some t => openR F P tk f r rs t
   | none => none) else some (r.out, rs) := by
 rw [rulesR_eq0]
 by_cases h0 : r.bad = true
 ·rw [if_pos h0, if_pos h0]
 rw [if_neg h0, if_neg h0]
 by_cases h1 : r.at_ < tk.length
 ·rw [if_pos h1, if_pos h1]
  cases kindR tk r 1 with
  | some t => exact nameR_eq F P tk f r rs t
  | none =>
   simp only
   cases kindR tk r 6 with
   | some t => exact openR_eq F P tk f r rs t
   | none => rfl
 ·rw [if_neg h1, if_neg h1]
theorem rulesR_bad {F P : Nat} {tk : List TokD} {f : Nat} {r : RdD} {rs : List SRuleD} (h : r.bad = true) : rulesR F P tk (f + 1) r rs = none := by
 rw [rulesR_eq, if_pos h]
theorem rulesR_end {F P : Nat} {tk : List TokD} {f : Nat} {r : RdD} {rs : List SRuleD} (h : r.bad = false) (ha : ¬ r.at_ < tk.length) : rulesR F P tk (f + 1) r rs = some (r.out, rs) := by
 rw [rulesR_eq, if_neg (by rw [h]; decide), if_neg ha]
theorem rulesR_name {F P : Nat} {tk : List TokD} {f : Nat} {r : RdD} {rs : List SRuleD} {t : ByteArray} (h : kindR tk r 1 = some t) : rulesR F P tk (f + 1) r rs = nameR F P tk f r rs t := by
 rw [rulesR_eq, if_neg (by rw [kindR_nb h]; decide), if_pos (kindR_lt h), h]
theorem rulesR_open {F P : Nat} {tk : List TokD} {f : Nat} {r : RdD} {rs : List SRuleD} {t : ByteArray} (h1 : kindR tk r 1 = none) (h : kindR tk r 6 = some t) : rulesR F P tk (f + 1) r rs = openR F P tk f r rs t := by
 rw [rulesR_eq, if_neg (by rw [kindR_nb h]; decide), if_pos (kindR_lt h), h1]
 simp only
 rw [h]
theorem rulesR_not {F P : Nat} {tk : List TokD} {f : Nat} {r : RdD} {rs : List SRuleD} (hb : r.bad = false) (ha : r.at_ < tk.length) (h1 : kindR tk r 1 = none) (h : kindR tk r 6 = none) : rulesR F P tk (f + 1) r rs = none := by
 rw [rulesR_eq, if_neg (by rw [hb]; decide), if_pos ha, h1]
 simp only
 rw [h]
theorem RsI.boxed {p : Nat} {lv rv : Value} {tk : List TokD} {w W : World} {r : RdD} {rs : List SRuleD} {bx j : Nat} {c : Array Value} {u : Value} (h : RsI p lv tk w r rs rv W) (hb : W.heap[bx]? = some (.cells c 42 (0, 0))) (hr : rv.ownBlock ≠ some bx) (hp : p ≤ bx) : RsI p lv tk w r rs rv (W.setCell ⟨bx, j, none⟩ u) := by
 have F : FrT [42] p W (W.setCell ⟨bx, j, none⟩ u) := fr_set _ hb (by simp) hp
 obtain ⟨ov, hR, hN⟩ := h.su
 refine ⟨⟨ov, hR.go (F.typ _ _ _ _ hR.rd (by decide)) F.bel, sNodes_fr hN F (by decide) (by decide) (by decide) (by decide)⟩, F.typ _ _ _ _ h.ob (by decide), ?_, F.typ _ _ _ _ h.rc (by decide), h.bel.trans (F.bel.mono (Nat.le_of_lt h.lo)), h.lo⟩
 exact RowO.world h.rul (fun _ _ h3 => World.ownsRow.kept h3 (grown_setCell W bx j u) (.inr hr)) (fun _ _ hx => sRuleV_fr hx F (by decide))
end Go.Proofs.YtccogaoabdpfmaaGreat

namespace Go.Proofs.YtccogaoabdpfmaaGreat
open Go.RowKit
set_option maxHeartbeats 3200000
set_option maxRecDepth 100000
set_option linter.unusedVariables false
def FormC (ns : List SNodeD) (rs : List SRuleD) : Prop := ∀ (B : Nat) (nv rv : Value) (W : World), SNodesO NoA B nv ns W → SRulesO B rv rs W → Calls Tryz.prog 16 #[.agg #[nv, rv]] W fun e w' => e = .returned (.bool (formB ns rs)) ∧ Below W.heap.size W w'
def FlatC (ns : List SNodeD) (rs : List SRuleD) : Prop := formB ns rs = true → ∀ (B : Nat) (nv rv : Value) (W : World), SNodesO NoA B nv ns W → SRulesO B rv rs W → Calls Tryz.prog 17 #[.agg #[nv, rv]] W fun e w' => ∃ o l c, e = .returned (.tuple #[.agg #[.slice o l c], .bool (flatB ns rs).isSome]) ∧ Below W.heap.size W w'
theorem surfaceOk_of (ns : List SNodeD) (rs : List SRuleD) (hFo : FormC ns rs) (hFl : FlatC ns rs) (B : Nat) (nv rv : Value) (W : World) (hN : SNodesO NoA B nv ns W) (hR : SRulesO B rv rs W) :
  Calls Tryz.prog 10 #[.agg #[nv, rv]] W fun e w' => e = .returned (.bool (surfOkB ns rs)) ∧ Below W.heap.size W w' := by
 obtain ⟨an, cn, rfl⟩ := RowO.slice hN
 obtain ⟨ar, cr, rfl⟩ := RowO.slice hR
 have bal : Below W.heap.size W (W.alloc (.cells #[.slice an ns.length cn, .slice ar rs.length cr] 27)) := (Below.refl _ _).alloc (Nat.le_refl _) _
 have N1 : Hid (SNodesO NoA B (.slice an ns.length cn) ns (W.alloc (.cells #[.slice an ns.length cn, .slice ar rs.length cr] 27))) := sNodes_below hN bal
 have L1 : Hid (SRulesO B (.slice ar rs.length cr) rs (W.alloc (.cells #[.slice an ns.length cn, .slice ar rs.length cr] 27))) := sRules_below hR bal
 have X1 := heap_alloc_new W (.cells #[.slice an ns.length cn, .slice ar rs.length cr] 27)
 have HX1 : Hid _ := X1
 have c0 := run_cell (j := 0) X1 rfl
 have c1 := run_cell (j := 1) X1 rfl
 have HB1 : Hid (Below W.heap.size W (W.alloc (.cells #[.slice an ns.length cn, .slice ar rs.length cr] 27))) := bal
 have HFo : Hid (FormC ns rs) := hFo
 have HFl : Hid (FlatC ns rs) := hFl
 clear bal hN hR X1 hFo hFl
 go_enter Tryz.func10, Tryz.ntmps10
 go_wp2_with fail
 generalize W.alloc (.cells #[.slice an ns.length cn, .slice ar rs.length cr] 27) = W1 at *
 refine (HFo.out B _ _ W1 N1.out L1.out).mono ?_
 rintro e w2 ⟨rfl, hb2⟩
 have X2 := (hb2.block _ (Array.getElem?_eq_some_iff.1 HX1.out).1).trans HX1.out
 have d0 := run_cell (j := 0) X2 rfl
 have d1 := run_cell (j := 1) X2 rfl
 have N2 : Hid (SNodesO NoA B (.slice an ns.length cn) ns w2) := sNodes_below N1.out hb2
 have L2 : Hid (SRulesO B (.slice ar rs.length cr) rs w2) := sRules_below L1.out hb2
 have HB2 : Hid (Below W.heap.size W w2) := HB1.out.trans (hb2.mono HB1.out.size)
 clear hb2 X2 N1 L1 HX1 HB1 c0 c1
 cases hf : formB ns rs with
 | false =>
  have HV : Hid (surfOkB ns rs = false) := by rw [Hid, surfOkB, hf]; rfl
  clear hf
  go_wp2
  (try simp only [Exit.inBlock, Exit.then])
  refine bodyPost_ret (by simp [results, Tryz.results10, go_sem]; try rfl) rfl ?_
  exact ⟨by rw [HV.out], HB2.out⟩
 | true =>
  have HV : Hid (surfOkB ns rs = (flatB ns rs).isSome) := by rw [Hid, surfOkB, hf]; rfl
  have HC : Hid (∀ _ : Unit, _) := fun _ => HFl.out hf B _ _ w2 N2.out L2.out
  clear hf
  go_wp2_with fail
  refine (HC.out ()).mono ?_
  rintro e w3 ⟨o, l, c, rfl, hb3⟩
  have HB3 : Hid (Below W.heap.size W w3) := HB2.out.trans (hb3.mono HB2.out.size)
  have HB4 : Hid (Below W.heap.size W (w3.alloc (.cells #[.slice o l c] 54))) := HB3.out.alloc HB3.out.size _
  generalize (flatB ns rs).isSome = b at *
  clear HC hb3
  go_wp2
  (try simp only [Exit.inBlock, Exit.then])
  refine bodyPost_ret (by simp [results, Tryz.results10, go_sem]; try rfl) rfl ?_
  exact ⟨by rw [HV.out], HB4.out⟩
end Go.Proofs.YtccogaoabdpfmaaGreat

namespace Go.Proofs.YtccogaoabdpfmaaGreat
open Go.RowKit
set_option linter.unusedVariables false
theorem bel_drewS {B : Nat} {a w : World} (h : Below B a w) : Below B a w.drew := ⟨h.os, h.tape, h.output, h.size, h.block⟩
theorem RowC.imp {α : Type} {sz : Nat} {E E' : World → List Value → α → Prop} {w : World} {v : Value} {xs : List α} (h : RowC sz E w v xs) (hE : ∀ vs x, E w vs x → E' w vs x) : RowC sz E' w v xs := by
 obtain ⟨a, cap, rfl, hcap, hh⟩ := h
 refine ⟨a, cap, rfl, hcap, fun h0 => ?_⟩
 obtain ⟨b, off, rfl, hlt, hc⟩ := hh h0
 refine ⟨b, off, rfl, hlt, fun i hi => ?_⟩
 obtain ⟨vs, h1, h2, h3⟩ := hc i hi
 exact ⟨vs, h1, h2, hE _ _ h3⟩
theorem nRow_ofA {A : Nat → Prop} {B : Nat} {w : World} {v : Value} {ns : List NodeD} (h : NodesA A B v ns w) : NRow w v ns := by
 obtain ⟨a, cap, rfl, hcap, hh⟩ := RowO.row h
 refine ⟨a, cap, rfl, hcap, fun h0 => ?_⟩
 obtain ⟨b, off, rfl, hlt, hc⟩ := hh h0
 refine ⟨b, off, rfl, hlt, fun i hi => ?_⟩
 obtain ⟨vs, h1, h2, kv, rfl, hz, _⟩ := hc i hi
 exact ⟨kv, h2 0 (by simp), h2 1 (by simp), h2 2 (by simp), h2 3 (by simp), hz.row⟩
def SNodeE (w : World) (vs : List Value) (x : SNodeD) : Prop := ∃ r0 r1 : Value, vs = [.int .i64 x.kind, .string x.text, r0, .string x.bind, r1] ∧ RowC 1 ExprE w r0 x.args ∧ IRow w r1 x.kids
theorem SNodeE_stable : StableE SNodeE := fun w w' vs x h hb => by
 obtain ⟨r0, r1, e, h0, h1⟩ := h
 exact ⟨r0, r1, e, RowC.below ExprE_stable h0 hb, h1.below hb⟩
def SRuleE (w : World) (vs : List Value) (x : SRuleD) : Prop := ∃ r0 : Value, vs = [.string x.name, r0, .int .i64 x.body] ∧ SRow w r0 x.params
theorem SRuleE_stable : StableE SRuleE := fun w w' vs x h hb => by
 obtain ⟨r0, e, h0⟩ := h
 exact ⟨r0, e, h0.below hb⟩
def SNs (w : World) (v : Value) (ns : List SNodeD) : Prop := RowC 5 SNodeE w v ns
def SRs (w : World) (v : Value) (rs : List SRuleD) : Prop := RowC 3 SRuleE w v rs
theorem sNs_below {w w' : World} {v : Value} {ns : List SNodeD} (h : SNs w v ns) (hb : Below w.heap.size w w') : SNs w' v ns := RowC.below SNodeE_stable h hb
theorem sRs_below {w w' : World} {v : Value} {rs : List SRuleD} (h : SRs w v rs) (hb : Below w.heap.size w w') : SRs w' v rs := RowC.below SRuleE_stable h hb
theorem sNs_of {A : Nat → Prop} {B : Nat} {w : World} {v : Value} {ns : List SNodeD} (h : SNodesO A B v ns w) : SNs w v ns := RowC.imp (RowO.row h) fun vs x hx => by
 obtain ⟨av, kv, rfl, ha, hk, _⟩ := hx
 exact ⟨av, kv, rfl, RowC.imp (RowO.row ha) (fun vs e he => by
  obtain ⟨nv, rfl, hn⟩ := he
  exact ⟨nv, rfl, nRow_ofA hn⟩), hk.row⟩
theorem sRs_of {B : Nat} {w : World} {v : Value} {rs : List SRuleD} (h : SRulesO B v rs w) : SRs w v rs := RowC.imp (RowO.row h) fun vs x hx => by
 obtain ⟨pv, rfl, hp⟩ := hx
 exact ⟨pv, rfl, hp.row⟩
structure SBox (ns : List SNodeD) (rs : List SRuleD) (W : World) (an ar : Option Addr) (cn cr : Nat) (W1 : World) : Prop where
 box : W1.heap[W.heap.size]? = some (.cells #[.slice an ns.length cn, .slice ar rs.length cr] 27 (0, 0))
 nod : SNs W1 (.slice an ns.length cn) ns
 rul : SRs W1 (.slice ar rs.length cr) rs
 bel : Below W.heap.size W W1
theorem sbox_of {ns : List SNodeD} {rs : List SRuleD} {W : World} {an ar : Option Addr} {cn cr : Nat} (hN : SNs W (.slice an ns.length cn) ns) (hR : SRs W (.slice ar rs.length cr) rs) :
  SBox ns rs W an ar cn cr (W.alloc (.cells #[.slice an ns.length cn, .slice ar rs.length cr] 27)) := by
 have bal : Below W.heap.size W (W.alloc (.cells #[.slice an ns.length cn, .slice ar rs.length cr] 27)) := (Below.refl _ _).alloc (Nat.le_refl _) _
 exact ⟨heap_alloc_new W _, sNs_below hN bal, sRs_below hR bal, bal⟩
theorem SBox.step {ns : List SNodeD} {rs : List SRuleD} {W : World} {an ar : Option Addr} {cn cr : Nat} {w1 w2 : World} (h : SBox ns rs W an ar cn cr w1) (hb : Below w1.heap.size w1 w2) : SBox ns rs W an ar cn cr w2 :=
 ⟨(hb.block _ (Array.getElem?_eq_some_iff.1 h.box).1).trans h.box, sNs_below h.nod hb, sRs_below h.rul hb, h.bel.trans (hb.mono h.bel.size)⟩
theorem nodeS_lt {ns : List SNodeD} {i : Nat} (h : i < ns.length) : nodeS ns (i : Int) = ns[i] := by
 rw [nodeS, Int.toNat_natCast, List.getD_eq_getElem?_getD, List.getElem?_eq_getElem h]; rfl
theorem sNs_at {w : World} {a : Option Addr} {n cap i : Nat} {ns : List SNodeD} (h : SNs w (.slice a n cap) ns) (hi : i < ns.length) :
  ∃ b off aa ca ka ck, a = some ⟨b, off, none⟩ ∧ w.cell? ⟨b, off + i * 5, none⟩ = some (.int .i64 ns[i].kind) ∧ w.cell? ⟨b, off + i * 5 + 1, none⟩ = some (.string ns[i].text) ∧ w.cell? ⟨b, off + i * 5 + 2, none⟩ = some (.slice aa ns[i].args.length ca) ∧ w.cell? ⟨b, off + i * 5 + 3, none⟩ = some (.string ns[i].bind) ∧ w.cell? ⟨b, off + i * 5 + 4, none⟩ = some (.slice ka ns[i].kids.length ck) ∧ RowC 1 ExprE w (.slice aa ns[i].args.length ca) ns[i].args ∧ IRow w (.slice ka ns[i].kids.length ck) ns[i].kids := by
 obtain ⟨b, off, vs, rfl, _, hc, r0, r1, rfl, h0, h1⟩ := RowC.at h hi
 obtain ⟨aa, ca, rfl⟩ := h0.slice
 obtain ⟨ka, ck, rfl⟩ := h1.slice
 exact ⟨b, off, aa, ca, ka, ck, rfl, hc 0 (by simp), hc 1 (by simp), hc 2 (by simp), hc 3 (by simp), hc 4 (by simp), h0, h1⟩
theorem sRs_at {w : World} {a : Option Addr} {n cap i : Nat} {rs : List SRuleD} (h : SRs w (.slice a n cap) rs) (hi : i < rs.length) :
  ∃ b off pa pc, a = some ⟨b, off, none⟩ ∧ w.cell? ⟨b, off + i * 3, none⟩ = some (.string rs[i].name) ∧ w.cell? ⟨b, off + i * 3 + 1, none⟩ = some (.slice pa rs[i].params.length pc) ∧ w.cell? ⟨b, off + i * 3 + 2, none⟩ = some (.int .i64 rs[i].body) ∧ SRow w (.slice pa rs[i].params.length pc) rs[i].params := by
 obtain ⟨b, off, vs, rfl, _, hc, r0, rfl, h0⟩ := RowC.at h hi
 obtain ⟨pa, pc, rfl⟩ := h0.slice
 exact ⟨b, off, pa, pc, rfl, hc 0 (by simp), hc 1 (by simp), hc 2 (by simp), h0⟩
end Go.Proofs.YtccogaoabdpfmaaGreat

namespace Go.Proofs.YtccogaoabdpfmaaGreat
open Go.RowKit
set_option maxHeartbeats 3200000
set_option maxRecDepth 100000
set_option linter.unusedVariables false
theorem inRow_any (k : Int) (w : World) : Calls Tryz.prog 60 #[.int .i64 k] w fun e w' => e = .returned (.bool (!(decide (k = 5)))) ∧ w' = w := by
 by_cases h : k = 5
 ·have q : (k != 5) = false := by simp [h]
  have HV : Hid (decide (k = 5) = true) := decide_eq_true h
  clear h
  go_enter Tryz.func60, Tryz.ntmps60
  go_wp2
  go_ret
  rw [HV.out]
  exact ⟨by first | rfl | (rw [q]; rfl), rfl⟩
 ·have q : (k != 5) = true := by simp [h]
  have HV : Hid (decide (k = 5) = false) := decide_eq_false h
  clear h
  go_enter Tryz.func60, Tryz.ntmps60
  go_wp2
  go_ret
  rw [HV.out]
  exact ⟨by first | rfl | (rw [q]; rfl), rfl⟩
theorem group_any (ns : List SNodeD) (rs : List SRuleD) (nv rv : Value) (W : World) (i : Nat) (hN : SNs W nv ns) (hR : SRs W rv rs) (hi : i < ns.length) (hk : ns[i].kind ≠ 6 → 0 < ns[i].kids.length) :
  Calls Tryz.prog 68 #[.agg #[nv, rv], .int .i64 i] W fun e w' => e = .returned (.int .i64 (groupS ns i)) ∧ Below W.heap.size W w' := by
 obtain ⟨an, cn, rfl⟩ := RowC.slice hN
 obtain ⟨ar, cr, rfl⟩ := RowC.slice hR
 have S1 : Hid (SBox ns rs W an ar cn cr (W.alloc (.cells #[.slice an ns.length cn, .slice ar rs.length cr] 27))) := sbox_of hN hR
 clear hN hR
 obtain ⟨b, off, aa, ca, ka, ck, rfl, n0, _, _, _, n4, _, hZ⟩ := sNs_at S1.out.nod hi
 have HG : Hid (groupS ns i = if ns[i].kind = 6 then (i : Int) else ns[i].kids.getD 0 0) := by rw [Hid, groupS, nodeS_lt hi]
 have c0 := run_cell (j := 0) S1.out.box rfl
 have i1 : (i : Int) < (ns.length : Int) := by omega
 have HB1 : Hid (Below W.heap.size W (W.alloc (.cells #[.slice (some ⟨b, off, none⟩) ns.length cn, .slice ar rs.length cr] 27))) := S1.out.bel
 by_cases h6 : ns[i].kind = 6
 ·rw [if_pos h6] at HG
  rw [h6] at n0
  clear h6 hk hZ S1
  go_enter Tryz.func68, Tryz.ntmps68
  go_wp2
  go_ret
  rw [HG.out]
  exact ⟨rfl, HB1.out⟩
 ·have h0 : 0 < ns[i].kids.length := hk h6
  obtain ⟨kb, ko, rfl, hkc⟩ := hZ.at h0
  rw [if_neg h6] at HG
  have q6 : (ns[i].kind == 6) = false := by rw [beq_eq_false_iff_ne]; exact h6
  have HG0 : Hid (groupS ns i = ns[i].kids[0]) := by rw [Hid, HG.out, List.getD_eq_getElem?_getD, List.getElem?_eq_getElem h0]; rfl
  have i2 : (0 : Int) < (ns[i].kids.length : Int) := by omega
  have hkc2 := hkc
  (try simp only [Nat.add_zero] at hkc2)
  clear h6 hk hZ S1 HG
  generalize ns[i].kind = kd at *
  go_enter Tryz.func68, Tryz.ntmps68
  go_wp2
  go_ret
  rw [HG0.out]
  exact ⟨by first | rfl | simp, HB1.out⟩
theorem params_any (ns : List SNodeD) (rs : List SRuleD) (nv rv : Value) (W : World) (name : ByteArray) (hN : SNs W nv ns) (hR : SRs W rv rs) (hl : rs.length ≤ 100000) :
  Calls Tryz.prog 85 #[.agg #[nv, rv], .string name] W fun e w' => e = .returned (.int .i64 (parsS name rs)) ∧ Below W.heap.size W w' := by
 obtain ⟨an, cn, rfl⟩ := RowC.slice hN
 obtain ⟨ar, cr, rfl⟩ := RowC.slice hR
 have S1 : Hid (SBox ns rs W an ar cn cr (W.alloc (.cells #[.slice an ns.length cn, .slice ar rs.length cr] 27))) := sbox_of hN hR
 clear hN hR
 have c1 := run_cell (j := 1) S1.out.box rfl
 go_enter Tryz.func85, Tryz.ntmps85
 go_wp2
 generalize W.alloc (.cells #[.slice an ns.length cn, .slice ar rs.length cr] 27) = W1 at *
 go_loopg [5] rs.length (fun gg kv wr => ∃ i : Nat, kv = .int .i64 i ∧ gg + i = rs.length ∧ parsS name (rs.drop i) = parsS name rs ∧ wr = W1)
 case atStart => exact ⟨0, rfl, by omega, rfl, rfl⟩
 case round =>
  obtain ⟨i, rfl, hg, hE, rfl⟩ := hrel
  have HE : Hid (parsS name (rs.drop i) = parsS name rs) := hE
  clear hE
  by_cases hi : i < rs.length
  ·have i1 : (i : Int) < (rs.length : Int) := by omega
   have d1 : decide ((i : Int) < (rs.length : Int)) = true := decide_eq_true i1
   obtain ⟨g, off, pa, pc, rfl, n0, n1, _, _⟩ := sRs_at S1.out.rul hi
   have HD : Hid (parsS name (rs.drop i) = if rs[i].name = name then (rs[i].params.length : Int) else parsS name (rs.drop (i + 1))) := by rw [Hid, List.drop_eq_getElem_cons hi, parsS]
   by_cases hn : rs[i].name = name
   ·have qs := beq_yes hn
    rw [HE.out, if_pos hn] at HD
    clear hn
    go_wp2
    go_ret
    rw [HD.out]
    exact ⟨rfl, S1.out.bel⟩
   ·have qs := beq_no hn
    rw [HE.out, if_neg hn] at HD
    clear hn
    have w1 : IntKind.i64.wrap ((i : Int) + 1) = ((i + 1 : Nat) : Int) := by rw [IntKind.wrap_i64]; omega
    obtain ⟨f, rfl⟩ : ∃ f, gk = f + 1 := ⟨gk - 1, by omega⟩
    go_wp2
    go_roundg f
    case measure => omega
    case rel => exact ⟨i + 1, by go_num, by omega, HD.out.symm, rfl⟩
  ·have d1 : decide ((i : Int) < (rs.length : Int)) = false := decide_eq_false (by omega)
   have HV : Hid (parsS name rs = -1) := by rw [Hid, ← HE.out, List.drop_of_length_le (by omega)]; rfl
   clear HE
   go_wp2
   go_ret
   rw [HV.out]
   exact ⟨rfl, S1.out.bel⟩
theorem leaf_any (k : Int) (t b : ByteArray) (aa : Option Addr) (la ca : Nat) (ka : Option Addr) (lk ck : Nat) (W : World) :
  Calls Tryz.prog 63 #[.agg #[.int .i64 k, .string t, .slice aa la ca, .string b, .slice ka lk ck]] W fun e w' => e = .returned (.agg #[.int .i64 k, .string t, .slice aa la ca, .string b]) ∧ Below W.heap.size W w' := by
 have bal : Below W.heap.size W (W.alloc (.cells #[.int .i64 k, .string t, .slice aa la ca, .string b, .slice ka lk ck] 60)) := (Below.refl _ _).alloc (Nat.le_refl _) _
 have X1 := heap_alloc_new W (.cells #[.int .i64 k, .string t, .slice aa la ca, .string b, .slice ka lk ck] 60)
 have bal2 : Hid (Below W.heap.size W ((W.alloc (.cells #[.int .i64 k, .string t, .slice aa la ca, .string b, .slice ka lk ck] 60)).alloc (.cells #[.int .i64 0, .string ⟨#[]⟩, .slice none 0 0, .string ⟨#[]⟩] 108))) := bal.alloc (by simp) _
 have X2 := xb_alloc X1 (.cells #[.int .i64 0, .string ⟨#[]⟩, .slice none 0 0, .string ⟨#[]⟩] 108)
 have Y2 := heap_alloc_new (W.alloc (.cells #[.int .i64 k, .string t, .slice aa la ca, .string b, .slice ka lk ck] 60)) (.cells #[.int .i64 0, .string ⟨#[]⟩, .slice none 0 0, .string ⟨#[]⟩] 108)
 rw [show (W.alloc (.cells #[.int .i64 k, .string t, .slice aa la ca, .string b, .slice ka lk ck] 60)).heap.size = W.heap.size + 1 by simp] at Y2
 have c0 := run_cell (j := 0) X2 rfl
 have c1 := run_cell (j := 1) X2 rfl
 have c2 := run_cell (j := 2) X2 rfl
 have c3 := run_cell (j := 3) X2 rfl
 have y0 := run_cell (j := 0) Y2 rfl
 have y1 := run_cell (j := 1) Y2 rfl
 have y2 := run_cell (j := 2) Y2 rfl
 have y3 := run_cell (j := 3) Y2 rfl
 have HBr : Hid (Below W.heap.size W ((W.alloc (.cells #[.int .i64 k, .string t, .slice aa la ca, .string b, .slice ka lk ck] 60)).alloc (.cells #[.int .i64 k, .string t, .slice aa la ca, .string b] 108))) := bal.alloc (by simp) _
 clear X1 X2 Y2 bal bal2
 go_enter Tryz.func63, Tryz.ntmps63
 go_wp2
 refine bodyPost_ret (by simp [results, Tryz.results63, go_sem]; try rfl) rfl ?_
 exact ⟨rfl, HBr.out⟩
end Go.Proofs.YtccogaoabdpfmaaGreat
