/- EnvGet of the specification. -/
import Derived.Test.YtanmhbopalchoaaDoorVRow
namespace Go.Proofs.YtanmhbopalchoaaDoor
open Go.RowKit

/-- The first that is so called. -/
def getB : List VarD → ByteArray → Option Int
  | [], _ => none
  | x :: xs, name => if x.1 = name then some x.2 else getB xs name
def getVal (xs : List VarD) (name : ByteArray) : Value := match getB xs name with
  | some z => .tuple #[.int .i64 z, .bool true]
  | none => .tuple #[.int .i64 0, .bool false]

theorem getB_none {xs : List VarD} {name : ByteArray} : getB xs name = none ↔ ∀ x ∈ xs, x.1 ≠ name := by
  induction xs with
  | nil => simp [getB]
  | cons x xs ih => by_cases h : x.1 = name <;> simp [getB, h, ih]

theorem getB_at {xs : List VarD} {name : ByteArray} {k : Nat} (hk : k < xs.length) (h0 : ∀ j (hj : j < xs.length), j < k → xs[j].1 ≠ name) (h1 : xs[k].1 = name) : getB xs name = some xs[k].2 := by
  induction xs generalizing k with
  | nil => simp at hk
  | cons x xs ih =>
    cases k with
    | zero => simp at h1; simp [getB, h1]
    | succ k =>
      have hx := h0 0 (by simp) (by omega)
      simp at hx
      have := ih (k := k) (by simpa using hk) (fun j hj hjk => by have := h0 (j + 1) (by simpa using hj) (by omega); simpa using this) (by simpa using h1)
      simpa [getB, hx] using this

theorem bytes_beq (a b : ByteArray) : (a.toList == b.toList) = decide (a = b) := by
  rw [Bool.eq_iff_iff]
  simp only [beq_iff_eq, decide_eq_true_eq, ByteArray.toList_eq]
  constructor
  · intro h; exact ByteArray.ext (Array.toList_inj.1 h)
  · intro h; rw [h]

set_option maxHeartbeats 800000 in
theorem specEnvGet_any (v : Value) (xs : List VarD) (name : ByteArray) (w : World) (hn : xs.length ≤ 1048576) (h : VRow w v xs) :
    Calls Tryd.prog 15 #[v, .string name] w fun e w' => e = .returned (getVal xs name) ∧ w' = w := by
  have HR : Hid (VRow w v xs) := h
  obtain ⟨a, cap, rfl⟩ := h.slice
  clear h
  go_enter Tryd.func15, Tryd.ntmps15
  go_wp2
  go_loop [6] (fun iv => ∃ k : Nat, iv = .int .i64 k ∧ k ≤ xs.length ∧ ∀ j (hj : j < xs.length), j < k → xs[j].1 ≠ name) (fun iv => xs.length - (intOf iv).toNat)
  case atStart => exact ⟨0, rfl, Nat.zero_le _, fun _ _ h => by omega⟩
  case round =>
    obtain ⟨k, rfl, hk, hj⟩ := hrel
    have HJ : Hid (∀ j (hj : j < xs.length), j < k → xs[j].1 ≠ name) := hj
    clear hj
    by_cases hlt : k < xs.length
    · obtain ⟨b, off, rfl, hc1, hc2⟩ := HR.out.at hlt
      by_cases hnm : xs[k].1 = name
      · have ht : (xs[k].1.toList == name.toList) = true := by rw [bytes_beq]; simpa using hnm
        have HV : Hid (getVal xs name = .tuple #[.int .i64 xs[k].2, .bool true]) := by simp only [Hid, getVal, getB_at hlt HJ.out hnm]
        clear hnm
        go_wp2
        go_ret2
        exact ⟨congrArg _ HV.out.symm, rfl⟩
      · have ht : (xs[k].1.toList == name.toList) = false := by rw [bytes_beq]; simpa using hnm
        go_wp2
        go_round
        case rel =>
          refine ⟨k + 1, by go_num, by omega, fun j hj hjk => ?_⟩
          by_cases e : j = k
          · subst e; exact hnm
          · exact HJ.out j hj (by omega)
        case measure => simp [intOf]; omega
    · have HV : Hid (getVal xs name = .tuple #[.int .i64 0, .bool false]) := by
        have : getB xs name = none := getB_none.2 (fun x hx => by
          obtain ⟨j, hj, rfl⟩ := List.getElem_of_mem hx
          exact HJ.out j hj (by omega))
        simp only [Hid, getVal, this]
      go_wp2
      go_ret2
      exact ⟨congrArg _ HV.out.symm, rfl⟩

end Go.Proofs.YtanmhbopalchoaaDoor
