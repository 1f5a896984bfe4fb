/- EnvGet of the specification. -/
/- VarName and EnvOk of the specification. -/
import Derived.Test.YtofpoiccghpliaaGreatDoorVRow
import Derived.Deep.QuietTactic
import Derived.BigQuiet
import Derived.Laws.Cover1
namespace Go.Proofs.YtofpoiccghpliaaGreatDoor
open Go.RowKit

/-- The first that is so called. -/
def getB : List VarD → ByteArray → Option Int
  | [], _ => none
  | x :: xs, name => if x.1 = name then some x.2 else getB xs name
def getVal (xs : List VarD) (name : ByteArray) : Value := match getB xs name with
  | some z => .tuple #[.int .i64 z, .bool true]
  | none => .tuple #[.int .i64 0, .bool false]

theorem getB_none {xs : List VarD} {name : ByteArray} : getB xs name = none ↔ ∀ x ∈ xs, x.1 ≠ name := by
  induction xs with
  | nil => simp [getB]
  | cons x xs ih => by_cases h : x.1 = name <;> simp [getB, h, ih]

theorem getB_at {xs : List VarD} {name : ByteArray} {k : Nat} (hk : k < xs.length) (h0 : ∀ j (hj : j < xs.length), j < k → xs[j].1 ≠ name) (h1 : xs[k].1 = name) : getB xs name = some xs[k].2 := by
  induction xs generalizing k with
  | nil => simp at hk
  | cons x xs ih =>
    cases k with
    | zero => simp at h1; simp [getB, h1]
    | succ k =>
      have hx := h0 0 (by simp) (by omega)
      simp at hx
      have := ih (k := k) (by simpa using hk) (fun j hj hjk => by have := h0 (j + 1) (by simpa using hj) (by omega); simpa using this) (by simpa using h1)
      simpa [getB, hx] using this

theorem bytes_beq (a b : ByteArray) : (a.toList == b.toList) = decide (a = b) := by
  rw [Bool.eq_iff_iff]
  simp only [beq_iff_eq, decide_eq_true_eq, ByteArray.toList_eq]
  constructor
  · intro h; exact ByteArray.ext (Array.toList_inj.1 h)
  · intro h; rw [h]

end Go.Proofs.YtofpoiccghpliaaGreatDoor

namespace Go.Proofs.YtofpoiccghpliaaGreatDoor
open Go.RowKit

theorem in_any (n lo hi : Int) (w : World) :
    Calls Tryz.prog 23 #[.int .i64 n, .int .i64 lo, .int .i64 hi] w fun e w' => e = .returned (.bool (decide (lo ≤ n ∧ n ≤ hi))) ∧ w' = w := by
  by_cases h1 : lo ≤ n
  · by_cases h2 : n ≤ hi
    · have hd : decide (lo ≤ n ∧ n ≤ hi) = true := by simp [h1, h2]
      go_enter Tryz.func23, Tryz.ntmps23
      go_wp2
      go_ret
      rw [hd]
      exact ⟨rfl, rfl⟩
    · have hd : decide (lo ≤ n ∧ n ≤ hi) = false := by simp; omega
      have h3 : hi < n := by omega
      go_enter Tryz.func23, Tryz.ntmps23
      go_wp2
      go_ret
      exact ⟨congrArg (fun x => Ending.returned (Value.bool x)) (by simp; omega), rfl⟩
  · have hd : decide (lo ≤ n ∧ n ≤ hi) = false := by simp; omega
    have h3 : n < lo := by omega
    go_enter Tryz.func23, Tryz.ntmps23
    go_wp2
    go_ret
    exact ⟨congrArg (fun x => Ending.returned (Value.bool x)) (by simp), rfl⟩

/-- A name: 1 to 4 small letters. -/
def letB (b : UInt8) : Bool := decide (97 ≤ b.toNat ∧ b.toNat ≤ 122)
def nameB (s : ByteArray) : Bool := s.data.toList.all letB && decide (1 ≤ s.size ∧ s.size ≤ 4)

theorem nameB_no {s : ByteArray} {k : Nat} (hk : k < s.size) (h : letB s[k] = false) : nameB s = false := by
  have hm : s[k] ∈ s.data.toList := by
    have : s[k] = s.data[k] := rfl
    rw [this]; simp
  cases hh : nameB s with
  | false => rfl
  | true =>
    simp only [nameB, Bool.and_eq_true, List.all_eq_true] at hh
    have := hh.1 _ hm
    rw [h] at this
    cases this

theorem nameB_all {s : ByteArray} (h : ∀ j (hj : j < s.size), letB s[j] = true) : nameB s = decide ((1 : Int) ≤ (s.size : Int) ∧ (s.size : Int) ≤ 4) := by
  have h1 : s.data.toList.all letB = true := by
    rw [List.all_eq_true]
    intro x hx
    obtain ⟨j, hj, rfl⟩ := List.getElem_of_mem hx
    have hj' : j < s.size := by simpa using hj
    exact h j hj'
  rw [nameB, h1, Bool.true_and]
  congr 1
  apply propext
  omega

set_option maxHeartbeats 800000 in
theorem specVarName_any (s : ByteArray) (w : World) (hs : s.size ≤ 1048576) :
    Calls Tryz.prog 49 #[.string s] w fun e w' => e = .returned (.bool (nameB s)) ∧ w' = w := by
  go_enter Tryz.func49, Tryz.ntmps49
  go_wp2
  go_loop [3] (fun iv => ∃ k : Nat, iv = .int .i64 k ∧ k ≤ s.size ∧ ∀ j (hj : j < s.size), j < k → letB s[j] = true) (fun iv => s.size - (intOf iv).toNat)
  case atStart => exact ⟨0, rfl, Nat.zero_le _, fun _ _ h => by omega⟩
  case round =>
    obtain ⟨k, rfl, hk, hj⟩ := hrel
    have HJ : Hid (∀ j (hj : j < s.size), j < k → letB s[j] = true) := hj
    clear hj
    by_cases hlt : k < s.size
    · have hb := s[k].toNat_lt
      by_cases h1 : s[k].toNat < 97
      · have HN : Hid (nameB s = false) := nameB_no hlt (by simp [letB]; omega)
        go_wp2
        go_ret
        rw [HN.out]
        exact ⟨rfl, rfl⟩
      · by_cases h2 : 122 < s[k].toNat
        · have HN : Hid (nameB s = false) := nameB_no hlt (by simp [letB]; omega)
          go_wp2
          go_ret
          rw [HN.out]
          exact ⟨rfl, rfl⟩
        · go_wp2
          go_round
          case rel =>
            refine ⟨k + 1, by go_num, by omega, fun j hj hjk => ?_⟩
            by_cases e : j = k
            · subst e; simp [letB]; omega
            · exact HJ.out j hj (by omega)
          case measure => simp [intOf]; omega
    · have HN : Hid (_ = _) := nameB_all (s := s) (fun j hj => HJ.out j hj (by omega))
      go_wp2_with (go_at_call 23; refine (in_any _ 1 4 _).mono ?_; rintro e w1 ⟨rfl, rfl⟩)
      go_ret
      rw [HN.out]
      exact ⟨congrArg (fun x => Ending.returned (Value.bool x)) (by simp), rfl⟩

/-- Is this one right behind that name? -/
def stepOk (p : Option ByteArray) (x : VarD) : Bool :=
  nameB x.1 && decide (-9999 ≤ x.2 ∧ x.2 ≤ 9999) && (match p with | none => true | some q => Op.bytesLess q.toList x.1.toList)
def chainB : Option ByteArray → List VarD → Bool
  | _, [] => true
  | p, x :: xs => stepOk p x && chainB (some x.1) xs
/-- A right list. -/
def envB (xs : List VarD) : Bool := chainB none xs && decide (xs.length ≤ 6)

def lastN (p : Option ByteArray) : List VarD → Option ByteArray
  | [] => p
  | x :: xs => lastN (some x.1) xs
theorem chainB_snoc (l : List VarD) : ∀ (p : Option ByteArray) (x : VarD), chainB p (l ++ [x]) = (chainB p l && stepOk (lastN p l) x) := by
  induction l with
  | nil => intro p x; simp [chainB, lastN]
  | cons y l ih => intro p x; simp [chainB, lastN, ih, Bool.and_assoc]
theorem chainB_app (l m : List VarD) : ∀ (p : Option ByteArray), chainB p (l ++ m) = (chainB p l && chainB (lastN p l) m) := by
  induction l with
  | nil => intro p; simp [chainB, lastN]
  | cons y l ih => intro p; simp [chainB, lastN, ih, Bool.and_assoc]
theorem lastN_take (xs : List VarD) (k : Nat) (hk : k < xs.length) (h0 : 0 < k) : lastN none (xs.take k) = some xs[k - 1].1 := by
  have snoc : ∀ (l : List VarD) (p : Option ByteArray) (x : VarD), lastN p (l ++ [x]) = some x.1 := by
    intro l
    induction l with
    | nil => intro p x; rfl
    | cons y l ih => intro p x; exact ih _ _
  obtain ⟨j, rfl⟩ : ∃ j, k = j + 1 := ⟨k - 1, by omega⟩
  rw [List.take_succ_eq_append_getElem (by omega), snoc]
  rfl
theorem chainB_next (xs : List VarD) (k : Nat) (hk : k < xs.length) : chainB none (xs.take (k + 1)) = (chainB none (xs.take k) && stepOk (lastN none (xs.take k)) xs[k]) := by
  rw [List.take_succ_eq_append_getElem hk, chainB_snoc]
theorem envB_no {xs : List VarD} {k : Nat} (hk : k < xs.length) (h : stepOk (lastN none (xs.take k)) xs[k] = false) : envB xs = false := by
  have : chainB none xs = false := by
    rw [← List.take_append_drop (k + 1) xs, chainB_app, chainB_next xs k hk, h]
    simp
  rw [envB, this]
  rfl

theorem in_is (n lo hi : Int) (b : Bool) (h : decide (lo ≤ n ∧ n ≤ hi) = b) (w : World) :
    Calls Tryz.prog 23 #[.int .i64 n, .int .i64 lo, .int .i64 hi] w fun e w' => e = .returned (.bool b) ∧ w' = w := by
  rw [← h]; exact in_any n lo hi w
theorem specVarName_is (s : ByteArray) (b : Bool) (h : nameB s = b) (hs : s.size ≤ 1048576) (w : World) :
    Calls Tryz.prog 49 #[.string s] w fun e w' => e = .returned (.bool b) ∧ w' = w := by
  rw [← h]; exact specVarName_any s w hs

end Go.Proofs.YtofpoiccghpliaaGreatDoor
