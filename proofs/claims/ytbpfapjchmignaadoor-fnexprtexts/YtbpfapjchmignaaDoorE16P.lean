/- What is written of an expression (pure). -/
import Derived.Test.YtbpfapjchmignaaDoorXPure
namespace Go.Proofs.YtbpfapjchmignaaDoor
open Go.RowKit
set_option linter.unusedVariables false

def byteW (n : Int) : UInt8 := UInt8.ofNat n.toNat
def shortW (s : ByteArray) : List UInt8 := varB s.size ++ s.data.toList
def nodeW (x : NodeD) : List UInt8 := byteW x.op :: (varB x.num.toNat ++ (shortW x.name ++ x.kids.map byteW))
def exprW (ns : List NodeD) : List UInt8 := varB ns.length ++ (ns.map nodeW).flatten

/-- What is told of an expression: nothing where it is not right. -/
def exprT (ns : List NodeD) : List UInt8 := if exprB ns = true then exprW ns else []

/-- A node that may be written: its numbers are small. -/
structure NodeS (x : NodeD) : Prop where
  op : 0 ≤ x.op ∧ x.op ≤ 127
  num : 0 ≤ x.num ∧ x.num ≤ 127
  name : x.name.size ≤ 4
  kids : x.kids.length ≤ 2
  kid : ∀ k ∈ x.kids, 0 ≤ k ∧ k ≤ 127

theorem byteW_nat {n : Int} (h : 0 ≤ n ∧ n ≤ 127) : (byteW n).toNat = n.toNat := by
  unfold byteW
  rw [UInt8.toNat_ofNat']
  omega
theorem byteW_int {n : Int} (h : 0 ≤ n ∧ n ≤ 127) : ((byteW n).toNat : Int) = n := by rw [byteW_nat h]; omega

theorem nodeS_of {i : Nat} {x : NodeD} (h : nodeB i x = true) (hi : i ≤ 20) : NodeS x := by
  obtain ⟨h1, h2, h3, h4⟩ := node_parts h
  rw [fieldsB, Bool.and_eq_true] at h3
  refine ⟨by omega, ?_, ?_, ?_, fun k hk => ?_⟩
  · have h5 := h3.1
    split at h5
    · rw [inI, decide_eq_true_eq] at h5; omega
    · rw [decide_eq_true_eq] at h5; omega
  · have h5 := h3.2
    split at h5
    · rw [nameB, Bool.and_eq_true, decide_eq_true_eq] at h5; omega
    · rw [decide_eq_true_eq] at h5; rw [h5]; decide
  · unfold kidsN at h2
    split at h2
    · omega
    · split at h2 <;> omega
  · have := h4 k hk; omega

theorem exprS_of {ns : List NodeD} (h : exprB ns = true) : (1 ≤ ns.length ∧ ns.length ≤ 20) ∧ ∀ k (hk : k < ns.length), NodeS ns[k] := by
  obtain ⟨hl, hn⟩ := exprB_at h
  exact ⟨hl, fun k hk => nodeS_of (hn k hk) (by omega)⟩

theorem varB_small {n : Nat} (h : n ≤ 127) : (varB n).length = 1 := by rw [varB_last n h]; rfl
theorem shortW_len {s : ByteArray} (h : s.size ≤ 127) : (shortW s).length = s.size + 1 := by
  rw [shortW, List.length_append, varB_small h, Nat.add_comm]; rfl
theorem nodeW_len {x : NodeD} (h : NodeS x) : 3 ≤ (nodeW x).length ∧ (nodeW x).length ≤ 9 := by
  have h1 := h.num
  have h2 := h.name
  have h3 := h.kids
  rw [nodeW, List.length_cons, List.length_append, List.length_append, varB_small (by omega), shortW_len (by omega), List.length_map]
  omega
theorem flat_len {α : Type} (f : α → List UInt8) (m : Nat) : ∀ xs : List α, (∀ x ∈ xs, (f x).length ≤ m) → ((xs.map f).flatten).length ≤ xs.length * m
  | [], _ => by simp
  | x :: xs, h => by
    have h1 := flat_len f m xs fun y hy => h y (List.mem_cons_of_mem _ hy)
    have h2 := h x (List.mem_cons_self ..)
    rw [List.map_cons, List.flatten_cons, List.length_append, List.length_cons, Nat.add_mul]
    omega
theorem exprW_len {ns : List NodeD} (h : exprB ns = true) : 4 ≤ (exprW ns).length ∧ (exprW ns).length ≤ 181 := by
  obtain ⟨⟨hl, hl'⟩, hn⟩ := exprS_of h
  have h1 := flat_len nodeW 9 ns fun x hx => by
    obtain ⟨k, hk, rfl⟩ := List.getElem_of_mem hx
    exact (nodeW_len (hn k hk)).2
  rw [exprW, List.length_append, varB_small (by omega)]
  refine ⟨?_, by omega⟩
  match ns, hl, hn with
  | x :: xs, _, hn =>
    have := (nodeW_len (hn 0 (by simp))).1
    simp only [List.getElem_cons_zero] at this
    rw [List.map_cons, List.flatten_cons, List.length_append]
    omega
theorem flat_next {α : Type} (f : α → List UInt8) (xs : List α) (k : Nat) (h : k < xs.length) : ((xs.take (k + 1)).map f).flatten = ((xs.take k).map f).flatten ++ f xs[k] := by
  rw [List.take_succ_eq_append_getElem h, List.map_append, List.flatten_append, List.map_cons, List.map_nil, List.flatten_cons, List.flatten_nil, List.append_nil]
theorem flat_take_len {α : Type} (f : α → List UInt8) (m : Nat) (xs : List α) (k : Nat) (h : ∀ x ∈ xs, (f x).length ≤ m) : (((xs.take k).map f).flatten).length ≤ xs.length * m := by
  have h1 := flat_len f m (xs.take k) fun x hx => h x (List.mem_of_mem_take hx)
  have h2 : (xs.take k).length ≤ xs.length := by rw [List.length_take]; omega
  exact Nat.le_trans h1 (Nat.mul_le_mul_right _ h2)

end Go.Proofs.YtbpfapjchmignaaDoor
