/- Grammars as they lie in memory, and opened as arguments (printed by mk/gkit.py). -/
import Derived.Test.YtbjkfecailnelaaGRow
import Derived.Test.YtbjkfecailnelaaSKit
namespace Go.Proofs.Ytbjkfecailnelaa
open Go.RowKit

def rowTot {α : Type} (f : α → Nat) (xs : List α) : Nat := xs.length + (xs.map f).sum
theorem rowTot_next {α : Type} (f : α → Nat) (xs : List α) (k : Nat) (h : k < xs.length) : ((xs.take (k + 1)).map f).sum = ((xs.take k).map f).sum + f xs[k] := by
  rw [List.take_succ_eq_append_getElem h, List.map_append, List.sum_append, List.map_cons, List.map_nil, List.sum_cons, List.sum_nil, Nat.add_zero]
theorem rowTot_len {α : Type} (f : α → Nat) (xs : List α) : xs.length ≤ rowTot f xs := Nat.le_add_right _ _
theorem sum_mem {α : Type} (f : α → Nat) {xs : List α} {x : α} (h : x ∈ xs) : f x ≤ (xs.map f).sum := by
  induction xs with
  | nil => cases h
  | cons y xs ih =>
    rw [List.map_cons, List.sum_cons]
    rcases List.mem_cons.1 h with rfl | h
    · omega
    · have := ih h; omega
theorem rowTot_mem {α : Type} (f : α → Nat) {xs : List α} {x : α} (h : x ∈ xs) : f x ≤ rowTot f xs := Nat.le_trans (sum_mem f h) (Nat.le_add_left _ _)
def RowInn {α : Type} (P : α → Prop) (xs : List α) : Prop := xs.length ≤ maxLen ∧ ∀ x ∈ xs, P x
def StrIn (s : ByteArray) : Prop := s.size ≤ maxLen
theorem box_at (w : World) (vs : Array Value) (t : TypeId) (j : Nat) (u : Value) (h : vs[j]? = some u) : (w.alloc (.cells vs t)).cell? ⟨w.heap.size, j, none⟩ = some u := by
  have hb : (w.alloc (.cells vs t)).heap[w.heap.size]? = some (.cells vs t) := heap_alloc_new w _
  rw [cell_of_row _ _ j _ _ _ hb]
  exact h
theorem box_two (w : World) (vs us : Array Value) (t t' : TypeId) (j : Nat) (u : Value) (h : vs[j]? = some u) : ((w.alloc (.cells vs t)).alloc (.cells us t')).cell? ⟨w.heap.size, j, none⟩ = some u := by
  have hb : ((w.alloc (.cells vs t)).alloc (.cells us t')).heap[w.heap.size]? = some (.cells vs t) := by
    rw [Below.heap_alloc _ _ _ (by simp)]
    exact heap_alloc_new w _
  rw [cell_of_row _ _ j _ _ _ hb]
  exact h
theorem box_two' (w : World) (vs us : Array Value) (t t' : TypeId) (j : Nat) (u : Value) (h : us[j]? = some u) : ((w.alloc (.cells vs t)).alloc (.cells us t')).cell? ⟨w.heap.size + 1, j, none⟩ = some u := by
  have hb : ((w.alloc (.cells vs t)).alloc (.cells us t')).heap[w.heap.size + 1]? = some (.cells us t') := by
    have := heap_alloc_new (w.alloc (.cells vs t)) (.cells us t')
    rwa [show (w.alloc (.cells vs t)).heap.size = w.heap.size + 1 by simp] at this
  rw [cell_of_row _ _ j _ _ _ hb]
  exact h
def nodesTot (ns : List NodeD) : Nat := ns.length + (ns.map fun x => x.name.size + x.kids.length).sum

structure SymD where
  kind : Int
  text : ByteArray
  args : List (List NodeD)
  bind : ByteArray
structure RuleD where
  name : ByteArray
  params : List ByteArray
  alts : List (List SymD)
instance : Inhabited SymD := ⟨⟨0, ⟨#[]⟩, [], ⟨#[]⟩⟩⟩
instance : Inhabited RuleD := ⟨⟨⟨#[]⟩, [], []⟩⟩

/-- Expr: its cells. -/
def ExprE (w : World) (vs : List Value) (x : List NodeD) : Prop := ∃ r0 : Value, vs = [r0] ∧ NRow w r0 x
def ExprIn (x : List NodeD) : Prop := RowInn NodeIn x
def exprTot (x : List NodeD) : Nat := nodesTot x
theorem ExprE_stable : StableE ExprE := fun w w' vs x h hb => by
  obtain ⟨r0, e, h0⟩ := h
  exact ⟨r0, e, h0.below hb⟩

/-- Sym: its cells. -/
def SymE (w : World) (vs : List Value) (x : SymD) : Prop := ∃ r0 : Value, vs = [.int .i64 x.kind, .string x.text, r0, .string x.bind] ∧ RowC 1 ExprE w r0 x.args
def SymIn (x : SymD) : Prop := i64 x.kind ∧ StrIn x.text ∧ RowInn ExprIn x.args ∧ StrIn x.bind
def symTot (x : SymD) : Nat := x.text.size + rowTot exprTot x.args + x.bind.size
theorem SymE_stable : StableE SymE := fun w w' vs x h hb => by
  obtain ⟨r0, e, h0⟩ := h
  exact ⟨r0, e, RowC.below ExprE_stable h0 hb⟩

/-- Alt: its cells. -/
def AltE (w : World) (vs : List Value) (x : List SymD) : Prop := ∃ r0 : Value, vs = [r0] ∧ RowC 4 SymE w r0 x
def AltIn (x : List SymD) : Prop := RowInn SymIn x
def altTot (x : List SymD) : Nat := rowTot symTot x
theorem AltE_stable : StableE AltE := fun w w' vs x h hb => by
  obtain ⟨r0, e, h0⟩ := h
  exact ⟨r0, e, RowC.below SymE_stable h0 hb⟩

/-- Rule: its cells. -/
def RuleE (w : World) (vs : List Value) (x : RuleD) : Prop := ∃ r0 r1 : Value, vs = [.string x.name, r0, r1] ∧ SRow w r0 x.params ∧ RowC 1 AltE w r1 x.alts
def RuleIn (x : RuleD) : Prop := StrIn x.name ∧ RowInn StrIn x.params ∧ RowInn AltIn x.alts
def ruleTot (x : RuleD) : Nat := x.name.size + rowTot ByteArray.size x.params + rowTot altTot x.alts
theorem RuleE_stable : StableE RuleE := fun w w' vs x h hb => by
  obtain ⟨r0, r1, e, h0, h1⟩ := h
  exact ⟨r0, r1, e, h0.below hb, RowC.below AltE_stable h1 hb⟩

/-- Grammar: its cells. -/
def GrammarE (w : World) (vs : List Value) (x : List RuleD) : Prop := ∃ r0 : Value, vs = [r0] ∧ RowC 3 RuleE w r0 x
def GrammarIn (x : List RuleD) : Prop := RowInn RuleIn x
def grammarTot (x : List RuleD) : Nat := rowTot ruleTot x
theorem GrammarE_stable : StableE GrammarE := fun w w' vs x h hb => by
  obtain ⟨r0, e, h0⟩ := h
  exact ⟨r0, e, RowC.below RuleE_stable h0 hb⟩

end Go.Proofs.Ytbjkfecailnelaa
