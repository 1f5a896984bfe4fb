/- EnvSet of the specification. -/
import Derived.Test.YtbpfapjchmignaaDoorVKit
import Derived.Laws.AppendOwnNone
namespace Go.Proofs.YtbpfapjchmignaaDoor
open Go.RowKit

def ltS (a b : ByteArray) : Bool := Op.bytesLess a.toList b.toList
/-- Greater, as the program asks it. -/
def gtS (a b : ByteArray) : Bool := !(Op.bytesLess a.toList b.toList || a.toList == b.toList)
/-- With this number, in its place. -/
def putB (xs : List VarD) (name : ByteArray) (num : Int) : List VarD := xs.filter (fun x => ltS x.1 name) ++ [(name, num)] ++ xs.filter (fun x => gtS x.1 name)

/-- What EnvSet leaves, and whether it is right. -/
def setOk (xs : List VarD) (name : ByteArray) (num : Int) : Bool := envB (putB xs name num)
def setL (xs : List VarD) (name : ByteArray) (num : Int) : List VarD := if envB (putB xs name num) = true then putB xs name num else xs
theorem setL_yes {xs : List VarD} {name : ByteArray} {num : Int} (h : envB (putB xs name num) = true) : setL xs name num = putB xs name num := if_pos h
theorem setL_no {xs : List VarD} {name : ByteArray} {num : Int} (h : envB (putB xs name num) = false) : setL xs name num = xs := if_neg (by simp [h])

theorem two_at (w : World) (x y : Value) (t : TypeId) : ∀ j u, [x, y][j]? = some u → (w.alloc (.cells #[x, y] t)).cell? ((⟨w.heap.size, 0, none⟩ : Addr).add j) = some u := by
  intro j u h
  have hb : (w.alloc (.cells #[x, y] t)).heap[w.heap.size]? = some (.cells #[x, y] t) := heap_alloc_new w _
  rw [Addr.add_lit, Nat.zero_add, cell_of_row _ _ j _ _ _ hb]
  simpa using h
theorem two_cell (s : ByteArray) (n : Int) : ∀ u ∈ [Value.string s, Value.int .i64 n], u.oneCell' = true := by
  intro u hu
  rcases List.mem_cons.1 hu with rfl | hu
  · rfl
  · rcases List.mem_cons.1 hu with rfl | hu
    · rfl
    · cases hu

theorem filt_next (p : VarD → Bool) (xs : List VarD) (k : Nat) (h : k < xs.length) : (xs.take (k + 1)).filter p = (xs.take k).filter p ++ (if p xs[k] = true then [xs[k]] else []) := by
  rw [List.take_succ_eq_append_getElem h, List.filter_append, List.filter_cons, List.filter_nil]



end Go.Proofs.YtbpfapjchmignaaDoor
