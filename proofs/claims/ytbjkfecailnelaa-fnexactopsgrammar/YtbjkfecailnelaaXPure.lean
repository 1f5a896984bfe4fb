/- Expressions: the plain mathematics: which are right, what they are worth. -/
import Derived.Test.YtbjkfecailnelaaXRow
import Derived.Test.YtbjkfecailnelaaEnvOk
namespace Go.Proofs.Ytbjkfecailnelaa
open Go.RowKit

def inI (n lo hi : Int) : Bool := decide (lo ≤ n ∧ n ≤ hi)
/-- How many kids an Op has. -/
def kidsN (op : Int) : Int := if op = 1 ∨ op = 2 ∨ op = 3 then 0 else if op = 11 then 1 else 2
/-- Num and Name are as the Op wants them. -/
def fieldsB (x : NodeD) : Bool := (if x.op = 1 then inI x.num 0 99 else decide (x.num = 0)) && (if x.op = 2 then nameB x.name else decide (x.name = ⟨#[]⟩))
def kidsB (i : Nat) (ks : List Int) : Bool := ks.all (fun k => inI k 0 ((i : Int) - 1))
def nodeB (i : Nat) (x : NodeD) : Bool := inI x.op 1 11 && decide ((x.kids.length : Int) = kidsN x.op) && fieldsB x && kidsB i x.kids
def nodesF : Nat → List NodeD → Bool
  | _, [] => true
  | i, x :: xs => nodeB i x && nodesF (i + 1) xs
/-- A right expression. -/
def exprB (ns : List NodeD) : Bool := nodesF 0 ns && inI (ns.length : Int) 1 20

theorem nodesF_app (l m : List NodeD) : ∀ i, nodesF i (l ++ m) = (nodesF i l && nodesF (i + l.length) m) := by
  induction l with
  | nil => intro i; simp [nodesF]
  | cons x l ih => intro i; rw [List.cons_append, nodesF, nodesF, ih, List.length_cons, Bool.and_assoc, show i + 1 + l.length = i + (l.length + 1) by omega]
theorem nodesF_next (ns : List NodeD) (k : Nat) (h : k < ns.length) : nodesF 0 (ns.take (k + 1)) = (nodesF 0 (ns.take k) && nodeB k ns[k]) := by
  rw [List.take_succ_eq_append_getElem h, nodesF_app]
  simp [nodesF, Nat.min_eq_left (Nat.le_of_lt h)]
theorem exprB_no {ns : List NodeD} {k : Nat} (h : k < ns.length) (hn : nodeB k ns[k] = false) : exprB ns = false := by
  have : nodesF 0 ns = false := by
    rw [← List.take_append_drop (k + 1) ns, nodesF_app, nodesF_next ns k h, hn]
    simp
  rw [exprB, this, Bool.false_and]
theorem nodesF_at : ∀ (ns : List NodeD) (i : Nat), nodesF i ns = true → ∀ k (h : k < ns.length), nodeB (i + k) ns[k] = true
  | [], _, _, _, h => by simp at h
  | x :: xs, i, hn, k, h => by
    rw [nodesF, Bool.and_eq_true] at hn
    cases k with
    | zero => exact hn.1
    | succ k =>
      have := nodesF_at xs (i + 1) hn.2 k (by simpa using h)
      rw [show i + (k + 1) = i + 1 + k by omega]
      simpa using this
/-- What a right expression's nodes are. -/
theorem exprB_at {ns : List NodeD} (h : exprB ns = true) : (1 ≤ ns.length ∧ ns.length ≤ 20) ∧ ∀ k (hk : k < ns.length), nodeB k ns[k] = true := by
  rw [exprB, Bool.and_eq_true, inI, decide_eq_true_eq] at h
  refine ⟨by omega, fun k hk => ?_⟩
  have := nodesF_at ns 0 h.1 k hk
  rwa [Nat.zero_add] at this
theorem node_parts {i : Nat} {x : NodeD} (h : nodeB i x = true) : (1 ≤ x.op ∧ x.op ≤ 11) ∧ (x.kids.length : Int) = kidsN x.op ∧ fieldsB x = true ∧ ∀ k ∈ x.kids, 0 ≤ k ∧ k < i := by
  rw [nodeB, Bool.and_eq_true, Bool.and_eq_true, Bool.and_eq_true, inI, decide_eq_true_eq, decide_eq_true_eq, kidsB, List.all_eq_true] at h
  refine ⟨h.1.1.1, h.1.1.2, h.1.2, fun k hk => ?_⟩
  have := h.2 k hk
  rw [inI, decide_eq_true_eq] at this
  omega

def flagI (b : Bool) : Int := if b = true then 1 else 0
/-- What is reckoned of two numbers, where it can be. -/
def twoB (op a b : Int) : Option Int :=
  if op = 4 then some (a + b) else if op = 5 then some (a - b) else if op = 6 then some (a * b) else if op = 7 then (if b = 0 then none else some (a.tdiv b))
  else if op = 8 then some (flagI (decide (a < b))) else if op = 9 then some (flagI (decide (a = b))) else some (flagI (decide (a ≠ 0) && decide (b ≠ 0)))
/-- A number that is not beyond. -/
def capB (o : Option Int) : Option Int := o.bind fun n => if inI n (-9999) 9999 = true then some n else none
/-- What a node is worth, its kids being worth so much. -/
def nodeV (env : ByteArray → Option Int) (here : Int) (x : NodeD) (vs : List Int) : Option Int :=
  if x.op = 1 then some x.num else if x.op = 2 then env x.name else if x.op = 3 then some here
  else if x.op = 11 then some (flagI (decide (vs.getD 0 0 = 0))) else twoB x.op (vs.getD 0 0) (vs.getD 1 0)
/-- All of them, or none. -/
def allV : List (Option Int) → Option (List Int)
  | [] => some []
  | none :: _ => none
  | some v :: os => (allV os).map (v :: ·)
/-- What the node at a place is worth: its kids lie ahead of it. -/
def evalN (ns : List NodeD) (env : ByteArray → Option Int) (here : Int) : Nat → Nat → Option Int
  | 0, _ => none
  | f + 1, i => match ns[i]? with
    | none => none
    | some x => match allV (x.kids.map fun k => evalN ns env here f k.toNat) with
      | none => none
      | some vs => capB (nodeV env here x vs)
/-- What the whole is worth. -/
def evalB (ns : List NodeD) (env : ByteArray → Option Int) (here : Int) : Option Int :=
  if exprB ns = true then evalN ns env here ns.length (ns.length - 1) else none

theorem evalN_succ (ns : List NodeD) (env : ByteArray → Option Int) (here : Int) (f i : Nat) (h : i < ns.length) : evalN ns env here (f + 1) i = match allV (ns[i].kids.map fun k => evalN ns env here f k.toNat) with
      | none => none
      | some vs => capB (nodeV env here ns[i] vs) := by
  rw [evalN, List.getElem?_eq_getElem h]
/-- More fuel than the place asks changes nothing. -/
theorem evalN_fuel {ns : List NodeD} (hn : ∀ k (hk : k < ns.length), nodeB k ns[k] = true) (env : ByteArray → Option Int) (here : Int) : ∀ (i f : Nat), i < ns.length → i < f → evalN ns env here f i = evalN ns env here (i + 1) i := by
  intro i
  induction i using Nat.strongRecOn with
  | ind i ih =>
    intro f hi hf
    obtain ⟨g, rfl⟩ : ∃ g, f = g + 1 := ⟨f - 1, by omega⟩
    rw [evalN_succ _ _ _ _ _ hi, evalN_succ _ _ _ _ _ hi]
    have e : (ns[i].kids.map fun k => evalN ns env here g k.toNat) = ns[i].kids.map fun k => evalN ns env here i k.toNat := by
      apply List.map_congr_left
      intro k hk
      have := (node_parts (hn i hi)).2.2.2 k hk
      rw [ih k.toNat (by omega) g (by omega) (by omega), ih k.toNat (by omega) i (by omega) (by omega)]
    rw [e]
/-- A node's worth, in its own words. -/
def valN (ns : List NodeD) (env : ByteArray → Option Int) (here : Int) (i : Nat) : Option Int := evalN ns env here (i + 1) i
theorem valN_eq {ns : List NodeD} (hn : ∀ k (hk : k < ns.length), nodeB k ns[k] = true) (env : ByteArray → Option Int) (here : Int) (i : Nat) (hi : i < ns.length) :
    valN ns env here i = match allV (ns[i].kids.map fun k => valN ns env here k.toNat) with
      | none => none
      | some vs => capB (nodeV env here ns[i] vs) := by
  rw [valN, evalN_succ _ _ _ _ _ hi]
  have e : (ns[i].kids.map fun k => evalN ns env here i k.toNat) = ns[i].kids.map fun k => valN ns env here k.toNat := by
    apply List.map_congr_left
    intro k hk
    have := (node_parts (hn i hi)).2.2.2 k hk
    rw [valN, evalN_fuel hn env here k.toNat i (by omega) (by omega)]
  rw [e]
theorem evalB_val {ns : List NodeD} (h : exprB ns = true) (env : ByteArray → Option Int) (here : Int) : evalB ns env here = valN ns env here (ns.length - 1) := by
  obtain ⟨hl, hn⟩ := exprB_at h
  rw [evalB, if_pos h, valN, evalN_fuel hn env here (ns.length - 1) ns.length (by omega) (by omega)]

theorem allV_none {os : List (Option Int)} (h : none ∈ os) : allV os = none := by
  induction os with
  | nil => cases h
  | cons o os ih =>
    cases o with
    | none => rfl
    | some v =>
      have : none ∈ os := by simpa using h
      rw [allV, ih this]
      rfl
theorem allV_map {α : Type} (ks : List α) (f : α → Option Int) (g : α → Int) (h : ∀ k ∈ ks, f k = some (g k)) : allV (ks.map f) = some (ks.map g) := by
  induction ks with
  | nil => rfl
  | cons k ks ih =>
    rw [List.map_cons, h k (List.mem_cons_self ..), allV, ih (fun j hj => h j (List.mem_cons_of_mem _ hj))]
    rfl

/-- The nodes below the whole: the whole is one; the kids of one are; each other one is a kid of one. -/
def Marks (ns : List NodeD) (m : List Bool) : Prop :=
  m.length = ns.length ∧ m[ns.length - 1]? = some true ∧
    (∀ i (hi : i < ns.length), m[i]? = some true → ∀ k ∈ ns[i].kids, m[k.toNat]? = some true) ∧
    (∀ i, i < ns.length - 1 → m[i]? = some true → ∃ p, ∃ hp : p < ns.length, i < p ∧ m[p]? = some true ∧ (i : Int) ∈ ns[p].kids)
/-- Where one below the whole is worth nothing, the whole is. -/
theorem marks_none {ns : List NodeD} {m : List Bool} (h : exprB ns = true) (hm : Marks ns m) (env : ByteArray → Option Int) (here : Int) : ∀ (d i : Nat), i + d = ns.length - 1 → m[i]? = some true → valN ns env here i = none → evalB ns env here = none := by
  obtain ⟨hl, hn⟩ := exprB_at h
  intro d
  induction d using Nat.strongRecOn with
  | ind d ih =>
    intro i hd hi hv
    by_cases h0 : d = 0
    · subst h0
      obtain rfl : i = ns.length - 1 := by omega
      rw [evalB_val h, hv]
    · obtain ⟨p, hp, hip, hpm, hk⟩ := hm.2.2.2 i (by omega) hi
      refine ih (ns.length - 1 - p) (by omega) p (by omega) hpm ?_
      rw [valN_eq hn env here p hp, allV_none]
      exact List.mem_map.2 ⟨(i : Int), hk, by simpa using hv⟩

end Go.Proofs.Ytbjkfecailnelaa
