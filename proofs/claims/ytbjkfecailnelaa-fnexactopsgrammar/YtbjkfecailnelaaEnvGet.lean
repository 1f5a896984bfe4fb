/- EnvGet of the specification. -/
import Derived.Test.YtbjkfecailnelaaVRow
namespace Go.Proofs.Ytbjkfecailnelaa
open Go.RowKit

/-- The first that is so called. -/
def getB : List VarD → ByteArray → Option Int
  | [], _ => none
  | x :: xs, name => if x.1 = name then some x.2 else getB xs name
def getVal (xs : List VarD) (name : ByteArray) : Value := match getB xs name with
  | some z => .tuple #[.int .i64 z, .bool true]
  | none => .tuple #[.int .i64 0, .bool false]

theorem getB_none {xs : List VarD} {name : ByteArray} : getB xs name = none ↔ ∀ x ∈ xs, x.1 ≠ name := by
  induction xs with
  | nil => simp [getB]
  | cons x xs ih => by_cases h : x.1 = name <;> simp [getB, h, ih]

theorem getB_at {xs : List VarD} {name : ByteArray} {k : Nat} (hk : k < xs.length) (h0 : ∀ j (hj : j < xs.length), j < k → xs[j].1 ≠ name) (h1 : xs[k].1 = name) : getB xs name = some xs[k].2 := by
  induction xs generalizing k with
  | nil => simp at hk
  | cons x xs ih =>
    cases k with
    | zero => simp at h1; simp [getB, h1]
    | succ k =>
      have hx := h0 0 (by simp) (by omega)
      simp at hx
      have := ih (k := k) (by simpa using hk) (fun j hj hjk => by have := h0 (j + 1) (by simpa using hj) (by omega); simpa using this) (by simpa using h1)
      simpa [getB, hx] using this

theorem bytes_beq (a b : ByteArray) : (a.toList == b.toList) = decide (a = b) := by
  rw [Bool.eq_iff_iff]
  simp only [beq_iff_eq, decide_eq_true_eq, ByteArray.toList_eq]
  constructor
  · intro h; exact ByteArray.ext (Array.toList_inj.1 h)
  · intro h; rw [h]


end Go.Proofs.Ytbjkfecailnelaa
