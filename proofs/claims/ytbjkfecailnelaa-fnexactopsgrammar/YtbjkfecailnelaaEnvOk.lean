/- VarName and EnvOk of the specification. -/
import Derived.Test.YtbjkfecailnelaaEnvGet
import Derived.Deep.QuietTactic
import Derived.BigQuiet
import Derived.Laws.Cover1
namespace Go.Proofs.Ytbjkfecailnelaa
open Go.RowKit

theorem in_any (n lo hi : Int) (w : World) :
    Calls Try.prog 26 #[.int .i64 n, .int .i64 lo, .int .i64 hi] w fun e w' => e = .returned (.bool (decide (lo ≤ n ∧ n ≤ hi))) ∧ w' = w := by
  by_cases h1 : lo ≤ n
  · by_cases h2 : n ≤ hi
    · have hd : decide (lo ≤ n ∧ n ≤ hi) = true := by simp [h1, h2]
      go_enter Try.func26, Try.ntmps26
      go_wp2
      go_ret
      rw [hd]
      exact ⟨rfl, rfl⟩
    · have hd : decide (lo ≤ n ∧ n ≤ hi) = false := by simp; omega
      have h3 : hi < n := by omega
      go_enter Try.func26, Try.ntmps26
      go_wp2
      go_ret
      exact ⟨congrArg (fun x => Ending.returned (Value.bool x)) (by simp; omega), rfl⟩
  · have hd : decide (lo ≤ n ∧ n ≤ hi) = false := by simp; omega
    have h3 : n < lo := by omega
    go_enter Try.func26, Try.ntmps26
    go_wp2
    go_ret
    exact ⟨congrArg (fun x => Ending.returned (Value.bool x)) (by simp), rfl⟩

/-- A name: 1 to 4 small letters. -/
def letB (b : UInt8) : Bool := decide (97 ≤ b.toNat ∧ b.toNat ≤ 122)
def nameB (s : ByteArray) : Bool := s.data.toList.all letB && decide (1 ≤ s.size ∧ s.size ≤ 4)

theorem nameB_no {s : ByteArray} {k : Nat} (hk : k < s.size) (h : letB s[k] = false) : nameB s = false := by
  have hm : s[k] ∈ s.data.toList := by
    have : s[k] = s.data[k] := rfl
    rw [this]; simp
  cases hh : nameB s with
  | false => rfl
  | true =>
    simp only [nameB, Bool.and_eq_true, List.all_eq_true] at hh
    have := hh.1 _ hm
    rw [h] at this
    cases this

theorem nameB_all {s : ByteArray} (h : ∀ j (hj : j < s.size), letB s[j] = true) : nameB s = decide ((1 : Int) ≤ (s.size : Int) ∧ (s.size : Int) ≤ 4) := by
  have h1 : s.data.toList.all letB = true := by
    rw [List.all_eq_true]
    intro x hx
    obtain ⟨j, hj, rfl⟩ := List.getElem_of_mem hx
    have hj' : j < s.size := by simpa using hj
    exact h j hj'
  rw [nameB, h1, Bool.true_and]
  congr 1
  apply propext
  omega


/-- Is this one right behind that name? -/
def stepOk (p : Option ByteArray) (x : VarD) : Bool :=
  nameB x.1 && decide (-9999 ≤ x.2 ∧ x.2 ≤ 9999) && (match p with | none => true | some q => Op.bytesLess q.toList x.1.toList)
def chainB : Option ByteArray → List VarD → Bool
  | _, [] => true
  | p, x :: xs => stepOk p x && chainB (some x.1) xs
/-- A right list. -/
def envB (xs : List VarD) : Bool := chainB none xs && decide (xs.length ≤ 6)

def lastN (p : Option ByteArray) : List VarD → Option ByteArray
  | [] => p
  | x :: xs => lastN (some x.1) xs
theorem chainB_snoc (l : List VarD) : ∀ (p : Option ByteArray) (x : VarD), chainB p (l ++ [x]) = (chainB p l && stepOk (lastN p l) x) := by
  induction l with
  | nil => intro p x; simp [chainB, lastN]
  | cons y l ih => intro p x; simp [chainB, lastN, ih, Bool.and_assoc]
theorem chainB_app (l m : List VarD) : ∀ (p : Option ByteArray), chainB p (l ++ m) = (chainB p l && chainB (lastN p l) m) := by
  induction l with
  | nil => intro p; simp [chainB, lastN]
  | cons y l ih => intro p; simp [chainB, lastN, ih, Bool.and_assoc]
theorem lastN_take (xs : List VarD) (k : Nat) (hk : k < xs.length) (h0 : 0 < k) : lastN none (xs.take k) = some xs[k - 1].1 := by
  have snoc : ∀ (l : List VarD) (p : Option ByteArray) (x : VarD), lastN p (l ++ [x]) = some x.1 := by
    intro l
    induction l with
    | nil => intro p x; rfl
    | cons y l ih => intro p x; exact ih _ _
  obtain ⟨j, rfl⟩ : ∃ j, k = j + 1 := ⟨k - 1, by omega⟩
  rw [List.take_succ_eq_append_getElem (by omega), snoc]
  rfl
theorem chainB_next (xs : List VarD) (k : Nat) (hk : k < xs.length) : chainB none (xs.take (k + 1)) = (chainB none (xs.take k) && stepOk (lastN none (xs.take k)) xs[k]) := by
  rw [List.take_succ_eq_append_getElem hk, chainB_snoc]
theorem envB_no {xs : List VarD} {k : Nat} (hk : k < xs.length) (h : stepOk (lastN none (xs.take k)) xs[k] = false) : envB xs = false := by
  have : chainB none xs = false := by
    rw [← List.take_append_drop (k + 1) xs, chainB_app, chainB_next xs k hk, h]
    simp
  rw [envB, this]
  rfl

theorem in_is (n lo hi : Int) (b : Bool) (h : decide (lo ≤ n ∧ n ≤ hi) = b) (w : World) :
    Calls Try.prog 26 #[.int .i64 n, .int .i64 lo, .int .i64 hi] w fun e w' => e = .returned (.bool b) ∧ w' = w := by
  rw [← h]; exact in_any n lo hi w


end Go.Proofs.Ytbjkfecailnelaa
