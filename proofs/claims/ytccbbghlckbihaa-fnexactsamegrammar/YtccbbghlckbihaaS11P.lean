/- Grammars with groups, read: in pure terms, by fuel. No program is named. -/
import Derived.Test.YtccbbghlckbihaaS10P
import Derived.Test.YtccbbghlckbihaaGData
import Derived.Test.YtccbbghlckbihaaBNP
namespace Go.Proofs.Ytccbbghlckbihaa
open Go.RowKit

structure SNodeD where
  kind : Int
  text : ByteArray
  args : List (List NodeD)
  bind : ByteArray
  kids : List Int
instance : Inhabited SNodeD := ⟨⟨0, ⟨#[]⟩, [], ⟨#[]⟩, []⟩⟩
structure SRuleD where
  name : ByteArray
  params : List ByteArray
  body : Int
instance : Inhabited SRuleD := ⟨⟨⟨#[]⟩, [], 0⟩⟩
/-- A reader: its place, how deep it is, whether it went wrong, the nodes. -/
structure RdD where
  at_ : Nat
  deep : Int
  bad : Bool
  out : List SNodeD
def em : ByteArray := ⟨#[]⟩
def isT (tk : List TokD) (r : RdD) (s : ByteArray) : Bool := !r.bad && match tk[r.at_]? with | some t => decide (t.kind = 5) && decide (t.text = s) | none => false
def onR (r : RdD) : RdD := { r with at_ := r.at_ + 1 }
def badR (r : RdD) : RdD := { r with bad := true }
def wantR (tk : List TokD) (r : RdD) (s : ByteArray) : RdD := if isT tk r s = true then onR r else badR r
def kindR (tk : List TokD) (r : RdD) (k : Int) : Option ByteArray := if r.bad = true then none else match tk[r.at_]? with | some t => if t.kind = k then some t.text else none | none => none
def downR (r : RdD) : RdD := { r with deep := r.deep + 1, bad := r.bad || decide (20 < r.deep + 1) }
def upR (r : RdD) : RdD := { r with deep := r.deep - 1 }
def putR (r : RdD) (x : SNodeD) : RdD := { r with out := r.out ++ [x], bad := r.bad || decide (120 < r.out.length + 1) }

inductive Md where
  | simple | one | product | prodL | sum | sumL | cmp | expr | exprL
def s1 (b : UInt8) : ByteArray := ⟨#[b]⟩
def two (op : Int) (a b : Int) : NodeD := ⟨op, 0, em, [a, b]⟩
/-- An expression's readers, by fuel: what is left of the reader, the nodes, the place. -/
def exF (tk : List TokD) : Nat → Md → RdD → List NodeD → Int → RdD × List NodeD × Int
  | 0, m, r, ns, k => (match m with | .exprL => upR r | _ => r, ns, k)
  | f + 1, .simple, r, ns, _ => match exF tk f .one (downR r) ns 0 with | (r, ns, k) => (upR r, ns, k)
  | f + 1, .one, r, ns, _ =>
    if isT tk r (s1 33) = true then match exF tk f .simple (onR r) ns 0 with | (r, ns, k) => (r, ns ++ [⟨11, 0, em, [k]⟩], ns.length)
    else if isT tk r (s1 64) = true then (onR r, ns ++ [⟨3, 0, em, []⟩], ns.length)
    else if isT tk r (s1 40) = true then match exF tk f .expr (onR r) ns 0 with | (r, ns, k) => (wantR tk r (s1 41), ns, k)
    else match kindR tk r 2 with
      | some t => (onR r, ns ++ [⟨1, numI 0 t.data.toList, em, []⟩], ns.length)
      | none => match kindR tk r 1 with
        | some t => (onR r, ns ++ [⟨2, 0, t, []⟩], ns.length)
        | none => (badR r, ns ++ [⟨2, 0, em, []⟩], ns.length)
  | f + 1, .product, r, ns, _ => match exF tk f .simple r ns 0 with | (r, ns, k) => exF tk f .prodL r ns k
  | f + 1, .prodL, r, ns, k =>
    if isT tk r (s1 42) = true then match exF tk f .simple (onR r) ns 0 with | (r, ns, b) => exF tk f .prodL r (ns ++ [two 6 k b]) ns.length
    else if isT tk r (s1 47) = true then match exF tk f .simple (onR r) ns 0 with | (r, ns, b) => exF tk f .prodL r (ns ++ [two 7 k b]) ns.length
    else (r, ns, k)
  | f + 1, .sum, r, ns, _ => match exF tk f .product r ns 0 with | (r, ns, k) => exF tk f .sumL r ns k
  | f + 1, .sumL, r, ns, k =>
    if isT tk r (s1 43) = true then match exF tk f .product (onR r) ns 0 with | (r, ns, b) => exF tk f .sumL r (ns ++ [two 4 k b]) ns.length
    else if isT tk r (s1 45) = true then match exF tk f .product (onR r) ns 0 with | (r, ns, b) => exF tk f .sumL r (ns ++ [two 5 k b]) ns.length
    else (r, ns, k)
  | f + 1, .cmp, r, ns, _ => match exF tk f .sum r ns 0 with
    | (r, ns, k) =>
      if isT tk r (s1 60) = true then match exF tk f .sum (onR r) ns 0 with | (r, ns, b) => (r, ns ++ [two 8 k b], ns.length)
      else if isT tk r (s1 61) = true then match exF tk f .sum (onR r) ns 0 with | (r, ns, b) => (r, ns ++ [two 9 k b], ns.length)
      else (r, ns, k)
  | f + 1, .expr, r, ns, _ => match exF tk f .cmp (downR r) ns 0 with | (r, ns, k) => exF tk f .exprL r ns k
  | f + 1, .exprL, r, ns, k =>
    if isT tk r (s1 38) = true then match exF tk f .cmp (onR r) ns 0 with | (r, ns, b) => exF tk f .exprL r (ns ++ [two 10 k b]) ns.length
    else (upR r, ns, k)
def fuelE : Nat := 4000
def wholeR (tk : List TokD) (r : RdD) : RdD × List NodeD := match exF tk fuelE .expr r [] 0 with | (r, ns, _) => (r, ns)
def argsR (tk : List TokD) : Nat → RdD → List (List NodeD) → RdD × List (List NodeD)
  | 0, r, es => (r, es)
  | f + 1, r, es => if isT tk r (s1 44) = true then argsR tk f (wholeR tk (onR r)).1 (es ++ [(wholeR tk (onR r)).2]) else (r, es)
def callArgs (tk : List TokD) (r : RdD) : RdD × List (List NodeD) :=
  match argsR tk 250 (wholeR tk r).1 [(wholeR tk r).2] with | (r, es) => (wantR tk r (s1 41), es)
def callR (tk : List TokD) (r : RdD) (name : ByteArray) (opn : Bool) : RdD :=
  if opn = true then match callArgs tk r with | (r, es) => putR r ⟨3, name, es, em, []⟩
  else if isT tk r (s1 58) = true then
    match kindR tk (onR r) 1 with
    | some t => putR (onR (onR r)) ⟨3, t, [], name, []⟩
    | none => match kindR tk (onR r) 6 with
      | some t => match callArgs tk (onR (onR r)) with | (r, es) => putR r ⟨3, t, es, name, []⟩
      | none => putR (badR (onR r)) ⟨3, em, [], name, []⟩
  else putR r ⟨3, name, [], em, []⟩
inductive Ms where
  | thing | row | alts | altsL
/-- Things, rows and alternatives: the reader, and (of a thing) the place, if there is one; kids: what was read of a row, or of alternatives. -/
def suF (tk : List TokD) : Nat → Ms → RdD → List Int → RdD × Option Int
  | 0, _, r, _ => (r, none)
  | f + 1, .thing, r, _ => match kindR tk r 3 with
    | some t => (putR (onR r) ⟨1, t, [], em, []⟩, some r.out.length)
    | none => match kindR tk r 4 with
      | some t => (putR (onR r) ⟨2, t, [], em, []⟩, some r.out.length)
      | none => match kindR tk r 1 with
        | some t => (callR tk (onR r) t false, some (((callR tk (onR r) t false).out.length : Int) - 1))
        | none => match kindR tk r 6 with
          | some t => (callR tk (onR r) t true, some (((callR tk (onR r) t true).out.length : Int) - 1))
          | none =>
            if isT tk r (s1 123) = true then match wholeR tk (onR r) with | (r, e) => (putR (wantR tk r (s1 125)) ⟨4, em, [e], em, []⟩, some r.out.length)
            else if isT tk r (s1 40) = true then
              match suF tk f .alts (onR r) [] with
              | (r, k) => match wantR tk r (s1 41) with
                | r => if isT tk r (s1 42) = true then (putR (onR r) ⟨7, em, [], em, [k.getD 0]⟩, some r.out.length)
                  else if isT tk r (s1 43) = true then (putR (onR r) ⟨8, em, [], em, [k.getD 0]⟩, some r.out.length)
                  else if isT tk r (s1 63) = true then (putR (onR r) ⟨9, em, [], em, [k.getD 0]⟩, some r.out.length)
                  else (r, k)
            else (r, none)
  | f + 1, .row, r, kids =>
    if r.bad = true then (putR r ⟨5, em, [], em, kids⟩, some r.out.length)
    else match suF tk f .thing r [] with
      | (r, some k) => suF tk f .row r (kids ++ [k])
      | (r, none) => (putR r ⟨5, em, [], em, kids⟩, some r.out.length)
  | f + 1, .alts, r, _ => match suF tk f .row (downR r) [] with | (r, k) => suF tk f .altsL r [k.getD 0]
  | f + 1, .altsL, r, kids =>
    if isT tk r (s1 124) = true then match suF tk f .row (onR r) [] with | (r, k) => suF tk f .altsL r (kids ++ [k.getD 0])
    else (putR (upR r) ⟨6, em, [], em, kids⟩, some r.out.length)
/-- Params of a rule: names with commas between; false: one is none. -/
def parsR (tk : List TokD) : Nat → RdD → List ByteArray → Bool → RdD × List ByteArray × Bool
  | 0, r, ps, ok => (r, ps, ok)
  | f + 1, r, ps, ok => match kindR tk r 1 with
    | some t => if isT tk (onR r) (s1 44) = true then parsR tk f (onR (onR r)) (ps ++ [t]) ok else (onR r, ps ++ [t], ok)
    | none => if isT tk r (s1 44) = true then parsR tk f (onR r) (ps ++ [em]) false else (r, ps ++ [em], false)
def arrow : ByteArray := ⟨#[45, 62]⟩
/-- The rules, by fuel; none: it is none. -/
def rulesR (F P : Nat) (tk : List TokD) : Nat → RdD → List SRuleD → Option (List SNodeD × List SRuleD)
  | 0, _, _ => none
  | f + 1, r, rs =>
    if r.bad = true then none
    else if r.at_ < tk.length then
      match kindR tk r 1 with
      | some t => match suF tk F .alts (wantR tk (onR r) arrow) [] with
        | (q, k) => if (wantR tk (onR r) arrow).bad = true then none else rulesR F P tk f (wantR tk q (s1 59)) (rs ++ [⟨t, [], k.getD 0⟩])
      | none => match kindR tk r 6 with
        | some t => match parsR tk P (onR r) [] true with
          | (q, ps, ok) => match wantR tk (wantR tk q (s1 41)) arrow with
            | q => if ok = false ∨ q.bad = true then none else match suF tk F .alts q [] with
              | (q, k) => rulesR F P tk f (wantR tk q (s1 59)) (rs ++ [⟨t, ps, k.getD 0⟩])
        | none => none
    else some (r.out, rs)
/-- What is read, but for whether it is right. -/
def parseB (s : ByteArray) : Option (List SNodeD × List SRuleD) := if (tokensB s).2 = 0 then rulesR fuelE 250 (tokensB s).1 250 ⟨0, 0, false, []⟩ [] else none

end Go.Proofs.Ytccbbghlckbihaa
