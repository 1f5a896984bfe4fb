/- Tokens of a text, in pure terms: from what is left of the text. No program is named. -/
import Derived.Test.YtccbbghlckbihaaSetPure
namespace Go.Proofs.Ytccbbghlckbihaa
open Go.RowKit

structure TokD where
  kind : Int
  text : ByteArray
instance : Inhabited TokD := ⟨⟨0, ⟨#[]⟩⟩⟩

def letT (b : Nat) : Bool := decide (97 ≤ b) && decide (b ≤ 122) || decide (65 ≤ b) && decide (b ≤ 90)
def figT (b : Nat) : Bool := decide (48 ≤ b) && decide (b ≤ 57)
def wordT (b : UInt8) : Bool := letT b.toNat || figT b.toNat
def figU (b : UInt8) : Bool := figT b.toNat
def inText (b : UInt8) : Bool := decide (b.toNat ≠ 34) && decide (b.toNat ≠ 10)
def inSetB (b : UInt8) : Bool := decide (b.toNat ≠ 93)
def inLine (b : UInt8) : Bool := decide (b.toNat ≠ 10)
def signsL : List UInt8 := [40, 41, 123, 125, 124, 42, 43, 63, 58, 44, 59, 61, 64, 45, 47, 60, 38, 33]
/-- How many there are of a kind, from the front. -/
def spanN (p : UInt8 → Bool) : List UInt8 → Nat
  | [] => 0
  | b :: l => if p b = true then spanN p l + 1 else 0
def bytesOf (l : List UInt8) : ByteArray := ⟨l.toArray⟩
/-- The token at the front of what is left, and how much it takes. -/
def one10 : List UInt8 → Option (TokD × Nat)
  | [] => none
  | b :: l =>
    if letT b.toNat = true then
      if 5 < spanN wordT l then none
      else if (l.drop (spanN wordT l)).head? = some 40 then some (⟨6, bytesOf (b :: l.take (spanN wordT l))⟩, spanN wordT l + 2)
      else some (⟨1, bytesOf (b :: l.take (spanN wordT l))⟩, spanN wordT l + 1)
    else if figT b.toNat = true then
      if 1 < spanN figU l then none else some (⟨2, bytesOf (b :: l.take (spanN figU l))⟩, spanN figU l + 1)
    else if b = 34 then
      if (l.drop (spanN inText l)).head? = some 34 ∧ 1 ≤ spanN inText l ∧ spanN inText l ≤ 8 then some (⟨3, bytesOf (l.take (spanN inText l))⟩, spanN inText l + 2) else none
    else if b = 91 then
      if spanN inSetB l < l.length ∧ okL (l.take (spanN inSetB l)) = true then some (⟨4, bytesOf (l.take (spanN inSetB l))⟩, spanN inSetB l + 2) else none
    else if b = 45 ∧ l.head? = some 62 then some (⟨5, bytesOf [45, 62]⟩, 2)
    else if signsL.contains b = true then some (⟨5, bytesOf [b]⟩, 1) else none
/-- By fuel: the tokens of what is left (n: how long the text is), or the place of what is none. -/
def toks10 (n : Nat) : Nat → List TokD → List UInt8 → List TokD × Int
  | 0, out, _ => (out, 0)
  | _, out, [] => (out, 0)
  | f + 1, out, b :: l =>
    if b = 32 ∨ b = 10 then toks10 n f out l
    else if b = 35 then toks10 n f out ((b :: l).drop (spanN inLine (b :: l)))
    else match one10 (b :: l) with
      | none => ([], ((n - (l.length + 1) : Nat) : Int) + 1)
      | some (t, k) => if out.length = 200 then ([], ((n - (l.length + 1) : Nat) : Int) + 1) else toks10 n f (out ++ [t]) ((b :: l).drop k)
def tokensB (s : ByteArray) : List TokD × Int := if 600 < s.size then ([], 601) else toks10 s.size (s.size + 1) [] s.data.toList

theorem spanN_le (p : UInt8 → Bool) : ∀ l, spanN p l ≤ l.length
  | [] => Nat.le_refl _
  | b :: l => by
    rw [spanN]
    have := spanN_le p l
    simp only [List.length_cons]
    split <;> omega
theorem spanN_at (p : UInt8 → Bool) : ∀ (l : List UInt8) (k : Nat), k ≤ l.length → (∀ i (h : i < l.length), i < k → p l[i] = true) → (∀ h : k < l.length, p l[k] = false) → spanN p l = k
  | [], k, hk, _, _ => by
    cases (show k = 0 by simpa using hk); rfl
  | b :: l, 0, _, _, h => by
    have := h (by simp)
    rw [spanN, if_neg (by rw [show p b = false from this]; decide)]
  | b :: l, k + 1, hk, h1, h2 => by
    have hb : p b = true := h1 0 (by simp) (by omega)
    rw [spanN, if_pos hb, spanN_at p l k (by simpa using hk) (fun i h hi => ?_) (fun h => ?_)]
    · have := h1 (i + 1) (by simpa using h) (by omega)
      simpa using this
    · have := h2 (by simpa using h)
      simpa using this
theorem one10_pos {l : List UInt8} {t : TokD} {k : Nat} (h : one10 l = some (t, k)) : 1 ≤ k ∧ k ≤ l.length := by
  cases l with
  | nil => cases h
  | cons b l =>
    rw [one10] at h
    have q1 := spanN_le wordT l
    have q2 := spanN_le figU l
    have q3 := spanN_le inText l
    have q4 := spanN_le inSetB l
    have hd : ∀ (n : Nat) (u : UInt8), (l.drop n).head? = some u → n < l.length := fun n u hu => by
      rcases Nat.lt_or_ge n l.length with h | h
      · exact h
      · rw [List.drop_of_length_le h] at hu; cases hu
    simp only [List.length_cons]
    split at h
    · split at h
      · cases h
      · split at h
        · rename_i hq
          have := hd _ _ hq
          cases h; omega
        · cases h; omega
    split at h
    · split at h
      · cases h
      · cases h; omega
    split at h
    · split at h
      · rename_i hq
        have := hd _ _ hq.1
        cases h; omega
      · cases h
    split at h
    · split at h
      · rename_i hq
        cases h; omega
      · cases h
    split at h
    · rename_i hq
      have : 0 < l.length := by
        cases l with
        | nil => cases hq.2
        | cons _ _ => simp
      cases h; omega
    split at h
    · cases h; omega
    · cases h

end Go.Proofs.Ytccbbghlckbihaa
