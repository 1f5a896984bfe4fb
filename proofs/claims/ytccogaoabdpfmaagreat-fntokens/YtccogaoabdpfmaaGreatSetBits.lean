/- The verifier's texts of grammars: one of thirteen, parted into the grammar's text and its letters. -/
/- The verifier's drawn texts of tokens. -/
/- Sets of bytes, with no program: their rows, what is in them, a mask of bits for them, and the text that is told of one. Nothing is assumed. -/
/- Tokens of a text, in pure terms: from what is left of the text. No program is named. -/
/- Sets of bytes, with no program: the bytes that a set tells, and the text that is told of it, from the front on; by bytes and by bits. -/
/- The program's kindOf. -/
/- The program's small functions on bytes and bits. -/
import Derived.Test.YtccogaoabdpfmaaGreatDraw3
import Derived.Test.YtccogaoabdpfmaaGreatRows
import Derived.Deep.RegionHeld3
import Derived.Lib.TrailingZeros
import Derived.Laws.Bits64b
namespace Go.Proofs.YtccogaoabdpfmaaGreat
open Go.RowKit
set_option linter.unusedVariables false
end Go.Proofs.YtccogaoabdpfmaaGreat

namespace Go.Proofs.YtccogaoabdpfmaaGreat
open Go.RowKit
set_option linter.unusedVariables false
theorem went_below2 {W : World} {v : Value} {n g : Nat} {w w1 w2 : World} (h : Went W v n g w w1) (hb : Below w1.heap.size w1 w2) : Went W v n g w w2 := went_trans h (went_below h.1 hb)
end Go.Proofs.YtccogaoabdpfmaaGreat

namespace Go.Proofs.YtccogaoabdpfmaaGreat
def okb (n : Nat) : Bool := (decide (97 ≤ n) && decide (n ≤ 122)) || (decide (48 ≤ n) && decide (n ≤ 57))
theorem okb_iff (n : Nat) : okb n = true ↔ (97 ≤ n ∧ n ≤ 122) ∨ (48 ≤ n ∧ n ≤ 57) := by simp [okb]
theorem okb_not (n : Nat) : okb n = false ↔ ¬ ((97 ≤ n ∧ n ≤ 122) ∨ (48 ≤ n ∧ n ≤ 57)) := by rw [← okb_iff]; simp
def rowOk (a c : Nat) : Bool := okb c && decide (a ≤ c) && (decide (57 < c) == decide (57 < a))
def rowsL : List UInt8 → Option (List (Nat × Nat))
 | [] => some []
 | [a] => if okb a.toNat then some [(a.toNat, a.toNat)] else none
 | [a, b] => if okb a.toNat then (rowsL [b]).map ((a.toNat, a.toNat) :: ·) else none
 | a :: b :: c :: r =>
  if okb a.toNat then
   if b.toNat = 45 then
    if rowOk a.toNat c.toNat then (rowsL r).map ((a.toNat, c.toNat) :: ·) else none
   else (rowsL (b :: c :: r)).map ((a.toNat, a.toNat) :: ·)
  else none
theorem rowsL_bad (a : UInt8) (r : List UInt8) (h : okb a.toNat = false) : rowsL (a :: r) = none := by
 match r with
 | [] => simp [rowsL, h]
 | [b] => simp [rowsL, h]
 | b :: c :: r => simp [rowsL, h]
theorem rowsL_one (a : UInt8) (r : List UInt8) (h : okb a.toNat = true) (hn : ∀ b c q, r = b :: c :: q → b.toNat ≠ 45) : rowsL (a :: r) = (rowsL r).map ((a.toNat, a.toNat) :: ·) := by
 match r with
 | [] => simp [rowsL, h]
 | [b] => simp [rowsL, h]
 | b :: c :: r => rw [rowsL]; simp [h, hn b c r rfl]
theorem rowsL_row (a b c : UInt8) (r : List UInt8) (h : okb a.toNat = true) (hb : b.toNat = 45) (hr : rowOk a.toNat c.toNat = true) : rowsL (a :: b :: c :: r) = (rowsL r).map ((a.toNat, c.toNat) :: ·) := by
 rw [rowsL]; simp [h, hb, hr]
theorem rowsL_norow (a b c : UInt8) (r : List UInt8) (hb : b.toNat = 45) (hr : rowOk a.toNat c.toNat = false) : rowsL (a :: b :: c :: r) = none := by
 rw [rowsL]; simp [hb, hr]
theorem rows_bad (l : List UInt8) (i : Nat) (h : i < l.length) (hb : okb l[i].toNat = false) : rowsL (l.drop i) = none := by
 rw [List.drop_eq_getElem_cons h]; exact rowsL_bad _ _ hb
theorem rows_one (l : List UInt8) (i : Nat) (h : i < l.length) (hb : okb l[i].toNat = true) (hn : ∀ h2 : i + 2 < l.length, l[i + 1].toNat ≠ 45) : rowsL (l.drop i) = (rowsL (l.drop (i + 1))).map ((l[i].toNat, l[i].toNat) :: ·) := by
 rw [List.drop_eq_getElem_cons h]
 refine rowsL_one _ _ hb ?_
 intro b c q e
 have h1 : i + 2 < l.length := by
  have := congrArg List.length e
  simp at this
  omega
 have h2 := hn h1
 have e2 := congrArg (fun x => x[0]?) e
 simp [List.getElem?_drop] at e2
 rw [List.getElem?_eq_getElem (by omega)] at e2
 rw [← Option.some.inj e2]
 exact h2
theorem rows_row (l : List UInt8) (i : Nat) (h : i + 2 < l.length) (ha : okb l[i].toNat = true) (hb : l[i + 1].toNat = 45) (hr : rowOk l[i].toNat l[i + 2].toNat = true) : rowsL (l.drop i) = (rowsL (l.drop (i + 3))).map ((l[i].toNat, l[i + 2].toNat) :: ·) := by
 rw [List.drop_eq_getElem_cons (by omega : i < l.length), List.drop_eq_getElem_cons (by omega : i + 1 < l.length), List.drop_eq_getElem_cons (by omega : i + 1 + 1 < l.length)]
 exact rowsL_row _ _ _ _ ha hb hr
theorem rows_norow (l : List UInt8) (i : Nat) (h : i + 2 < l.length) (hb : l[i + 1].toNat = 45) (hr : rowOk l[i].toNat l[i + 2].toNat = false) : rowsL (l.drop i) = none := by
 rw [List.drop_eq_getElem_cons (by omega : i < l.length), List.drop_eq_getElem_cons (by omega : i + 1 < l.length), List.drop_eq_getElem_cons (by omega : i + 1 + 1 < l.length)]
 exact rowsL_norow _ _ _ _ hb hr
def GoodR (p : Nat × Nat) : Prop := okb p.1 = true ∧ okb p.2 = true ∧ p.1 ≤ p.2 ∧ (57 < p.2 ↔ 57 < p.1)
theorem rowOk_good {a c : Nat} (ha : okb a = true) (h : rowOk a c = true) : GoodR (a, c) := by
 simp only [rowOk, Bool.and_eq_true, decide_eq_true_eq, beq_iff_eq] at h
 refine ⟨ha, h.1.1, h.1.2, ?_⟩
 have := h.2
 simpa using this
theorem rowsL_good : ∀ (n : Nat) (l : List UInt8), l.length ≤ n → ∀ rs, rowsL l = some rs → (∀ p ∈ rs, GoodR p) ∧ (l ≠ [] → rs ≠ [])
 | 0, l, hl, rs, h => by
  obtain rfl : l = [] := List.length_eq_zero_iff.1 (by omega)
  simp [rowsL] at h
  subst h
  simp
 | n + 1, l, hl, rs, h => by
  match l, hl, h with
  | [], _, h =>
   simp [rowsL] at h
   subst h
   simp
  | a :: r, hl, h =>
   cases ha : okb a.toNat with
   | false => rw [rowsL_bad a r ha] at h; cases h
   | true =>
    have hg : GoodR (a.toNat, a.toNat) := ⟨ha, ha, Nat.le_refl _, Iff.rfl⟩
    by_cases hc : ∃ b c q, r = b :: c :: q ∧ b.toNat = 45
    ·obtain ⟨b, c, q, rfl, hb⟩ := hc
     cases hr : rowOk a.toNat c.toNat with
     | false => rw [rowsL_norow a b c q hb hr] at h; cases h
     | true =>
      rw [rowsL_row a b c q ha hb hr] at h
      cases hq : rowsL q with
      | none => rw [hq] at h; cases h
      | some qs =>
       rw [hq] at h
       obtain rfl := Option.some.inj h
       have ih := rowsL_good n q (by simp at hl; omega) qs hq
       refine ⟨?_, fun _ => by simp⟩
       intro p hp
       rcases List.mem_cons.1 hp with rfl | hp
       ·exact rowOk_good ha hr
       ·exact ih.1 p hp
    ·rw [rowsL_one a r ha (fun b c q e hb => hc ⟨b, c, q, e, hb⟩)] at h
     cases hq : rowsL r with
     | none => rw [hq] at h; cases h
     | some qs =>
      rw [hq] at h
      obtain rfl := Option.some.inj h
      have ih := rowsL_good n r (by simp at hl; omega) qs hq
      refine ⟨?_, fun _ => by simp⟩
      intro p hp
      rcases List.mem_cons.1 hp with rfl | hp
      ·exact hg
      ·exact ih.1 p hp
def okL (l : List UInt8) : Bool := (rowsL l).isSome && (decide (1 ≤ l.length) && decide (l.length ≤ 12))
def inR (rs : List (Nat × Nat)) (x : Nat) : Bool := rs.any fun p => decide (p.1 ≤ x) && decide (x ≤ p.2)
def inL (l : List UInt8) (x : Nat) : Bool := okL l && inR ((rowsL l).getD []) x
theorem inR_iff (rs : List (Nat × Nat)) (x : Nat) : inR rs x = true ↔ ∃ p ∈ rs, p.1 ≤ x ∧ x ≤ p.2 := by simp [inR]
/- The mask. -/
def pos (n : Nat) : Nat := if n ≤ 57 then n - 48 else n - 97 + 16
def byteP (i : Nat) : Nat := if i < 16 then 48 + i else 97 + (i - 16)
def valid (i : Nat) : Bool := decide (i < 10) || (decide (16 ≤ i) && decide (i < 42))
theorem valid_iff (i : Nat) : valid i = true ↔ i < 10 ∨ (16 ≤ i ∧ i < 42) := by simp [valid]
theorem byteP_pos {n : Nat} (h : okb n = true) : byteP (pos n) = n ∧ valid (pos n) = true := by
 rw [okb_iff] at h
 rw [valid_iff]
 unfold byteP pos
 by_cases h1 : n ≤ 57
 ·rw [if_pos h1, if_pos (by omega)]; omega
 ·rw [if_neg h1, if_neg (by omega)]; omega
def rowM (p : Nat × Nat) : Nat := 2 ^ (pos p.2 + 1) - 2 ^ pos p.1
theorem testBit_span (a c i : Nat) (h : a ≤ c) : (2 ^ (c + 1) - 2 ^ a).testBit i = (decide (a ≤ i) && decide (i ≤ c)) := by
 obtain ⟨d, rfl⟩ : ∃ d, c = a + d := ⟨c - a, by omega⟩
 have e : 2 ^ (a + d + 1) - 2 ^ a = 2 ^ a * (2 ^ (d + 1) - 1) := by
  rw [Nat.mul_sub, Nat.mul_one, ← Nat.pow_add, Nat.add_assoc]
 rw [e, Nat.mul_comm, Nat.testBit_mul_two_pow, Nat.testBit_two_pow_sub_one]
 by_cases h1 : a ≤ i
 ·simp only [h1, decide_true, Bool.true_and]
  apply decide_eq_decide.2
  omega
 ·simp [h1]
theorem good_pos {p : Nat × Nat} (h : GoodR p) : pos p.1 ≤ pos p.2 ∧ pos p.2 < 42 := by
 obtain ⟨a, b, c, d⟩ := h
 rw [okb_iff] at a b
 unfold pos
 split <;> split <;> omega
theorem rowM_bit {p : Nat × Nat} (h : GoodR p) (i : Nat) : (rowM p).testBit i = (valid i && (decide (p.1 ≤ byteP i) && decide (byteP i ≤ p.2))) := by
 rw [rowM, testBit_span _ _ _ (good_pos h).1, Bool.eq_iff_iff]
 obtain ⟨a, b, c, d⟩ := h
 rw [okb_iff] at a b
 simp only [Bool.and_eq_true, decide_eq_true_eq, valid_iff]
 unfold pos byteP
 split <;> split <;> split <;> omega
theorem rowM_pos {p : Nat × Nat} (h : GoodR p) : rowM p ≠ 0 := by
 intro e
 have h1 := rowM_bit h (pos p.1)
 have h2 := byteP_pos h.1
 rw [e, h2.1, h2.2] at h1
 simp [h.2.2.1] at h1
def maskR (rs : List (Nat × Nat)) : Nat := rs.foldl (fun m p => m ||| rowM p) 0
theorem maskR_app (rs : List (Nat × Nat)) (p : Nat × Nat) : maskR (rs ++ [p]) = maskR rs ||| rowM p := by simp [maskR]
theorem fold_bit (rs : List (Nat × Nat)) (m i : Nat) : (rs.foldl (fun m p => m ||| rowM p) m).testBit i = (m.testBit i || rs.any fun p => (rowM p).testBit i) := by
 induction rs generalizing m with
 | nil => simp
 | cons p rs ih => rw [List.foldl_cons, ih, Nat.testBit_or, List.any_cons, Bool.or_assoc]
theorem maskR_bit (rs : List (Nat × Nat)) (hg : ∀ p ∈ rs, GoodR p) (i : Nat) : (maskR rs).testBit i = (valid i && inR rs (byteP i)) := by
 rw [maskR, fold_bit, Nat.zero_testBit, Bool.false_or, Bool.eq_iff_iff, List.any_eq_true, Bool.and_eq_true, inR_iff]
 constructor
 ·rintro ⟨p, hp, h⟩
  rw [rowM_bit (hg p hp)] at h
  simp only [Bool.and_eq_true, decide_eq_true_eq] at h
  exact ⟨h.1, p, hp, h.2⟩
 ·rintro ⟨hv, p, hp, h⟩
  refine ⟨p, hp, ?_⟩
  rw [rowM_bit (hg p hp)]
  simp [hv, h]
theorem testBit_lt {m : Nat} (h : ∀ i, m.testBit i = true → i < 42) : m < 4398046511104 := by
 have : m < 2 ^ 42 := by
  apply Nat.lt_pow_two_of_testBit
  intro i hi
  cases hb : m.testBit i with
  | false => rfl
  | true => have := h i hb; omega
 simpa using this
def Rep (m : Nat) (f : Nat → Bool) : Prop := ∀ i, m.testBit i = (valid i && f (byteP i))
theorem Rep.lt {m : Nat} {f : Nat → Bool} (h : Rep m f) : m < 4398046511104 := testBit_lt fun i hi => by
 have h1 := h i
 rw [hi] at h1
 have h2 := h1.symm
 rw [Bool.and_eq_true, valid_iff] at h2
 omega
theorem Rep.and {m n : Nat} {f g : Nat → Bool} (h : Rep m f) (k : Rep n g) : Rep (m &&& n) fun x => f x && g x := fun i => by
 rw [Nat.testBit_and, h, k]; cases valid i <;> simp
theorem Rep.zero : Rep 0 fun _ => false := fun i => by simp
def maskL (l : List UInt8) : Nat := if 12 < l.length then 0 else match rowsL l with
 | none => 0
 | some rs => maskR rs
theorem maskL_rep (l : List UInt8) : Rep (maskL l) (inL l) := by
 intro i
 unfold maskL inL okL
 by_cases h : 12 < l.length
 ·rw [if_pos h, decide_eq_false (by omega : ¬ l.length ≤ 12)]; simp
 ·rw [if_neg h]
  cases hr : rowsL l with
  | none => simp
  | some rs =>
   have hg := rowsL_good _ l (Nat.le_refl _) rs hr
   rw [maskR_bit rs hg.1 i]
   by_cases h0 : l = []
   ·subst h0
    simp [rowsL] at hr
    subst hr
    simp [inR]
   ·have h1 : 1 ≤ l.length := by
     cases l with
     | nil => exact absurd rfl h0
     | cons a r => simp
    simp [h1, (by omega : l.length ≤ 12)]
theorem maskL_ok (l : List UInt8) : okL l = (maskL l != 0) := by
 unfold maskL okL
 by_cases h : 12 < l.length
 ·rw [if_pos h, decide_eq_false (by omega : ¬ l.length ≤ 12)]; simp
 ·rw [if_neg h]
  cases hr : rowsL l with
  | none => simp
  | some rs =>
   have hg := rowsL_good _ l (Nat.le_refl _) rs hr
   by_cases h0 : l = []
   ·subst h0
    simp [rowsL] at hr
    subst hr
    simp [maskR]
   ·have h1 : 1 ≤ l.length := by
     cases l with
     | nil => exact absurd rfl h0
     | cons a r => simp
    have h2 : maskR rs ≠ 0 := by
     intro e
     obtain ⟨p, hp⟩ := List.exists_mem_of_ne_nil rs (hg.2 h0)
     have hb := maskR_bit rs hg.1 (pos p.1)
     have hgp := hg.1 p hp
     rw [e, (byteP_pos hgp.1).1, (byteP_pos hgp.1).2] at hb
     have h3 : inR rs p.1 = true := (inR_iff _ _).2 ⟨p, hp, Nat.le_refl _, hgp.2.2.1⟩
     simp [h3] at hb
    simp [h1, (by omega : l.length ≤ 12), h2]
end Go.Proofs.YtccogaoabdpfmaaGreat

namespace Go.Proofs.YtccogaoabdpfmaaGreat
open Go.RowKit
structure TokD where
 kind : Int
 text : ByteArray
instance : Inhabited TokD := ⟨⟨0, ⟨#[]⟩⟩⟩
def letT (b : Nat) : Bool := decide (97 ≤ b) && decide (b ≤ 122) || decide (65 ≤ b) && decide (b ≤ 90)
def figT (b : Nat) : Bool := decide (48 ≤ b) && decide (b ≤ 57)
def wordT (b : UInt8) : Bool := letT b.toNat || figT b.toNat
def figU (b : UInt8) : Bool := figT b.toNat
def inText (b : UInt8) : Bool := decide (b.toNat ≠ 34) && decide (b.toNat ≠ 10)
def inSetB (b : UInt8) : Bool := decide (b.toNat ≠ 93)
def inLine (b : UInt8) : Bool := decide (b.toNat ≠ 10)
def signsL : List UInt8 := [40, 41, 123, 125, 124, 42, 43, 63, 58, 44, 59, 61, 64, 45, 47, 60, 38, 33]
def spanN (p : UInt8 → Bool) : List UInt8 → Nat
 | [] => 0
 | b :: l => if p b = true then spanN p l + 1 else 0
def bytesOf (l : List UInt8) : ByteArray := ⟨l.toArray⟩
def one10 : List UInt8 → Option (TokD × Nat)
 | [] => none
 | b :: l =>
  if letT b.toNat = true then
   if 5 < spanN wordT l then none
   else if (l.drop (spanN wordT l)).head? = some 40 then some (⟨6, bytesOf (b :: l.take (spanN wordT l))⟩, spanN wordT l + 2)
   else some (⟨1, bytesOf (b :: l.take (spanN wordT l))⟩, spanN wordT l + 1)
  else if figT b.toNat = true then
   if 1 < spanN figU l then none else some (⟨2, bytesOf (b :: l.take (spanN figU l))⟩, spanN figU l + 1)
  else if b = 34 then
   if (l.drop (spanN inText l)).head? = some 34 ∧ 1 ≤ spanN inText l ∧ spanN inText l ≤ 8 then some (⟨3, bytesOf (l.take (spanN inText l))⟩, spanN inText l + 2) else none
  else if b = 91 then
   if spanN inSetB l < l.length ∧ okL (l.take (spanN inSetB l)) = true then some (⟨4, bytesOf (l.take (spanN inSetB l))⟩, spanN inSetB l + 2) else none
  else if b = 45 ∧ l.head? = some 62 then some (⟨5, bytesOf [45, 62]⟩, 2)
  else if signsL.contains b = true then some (⟨5, bytesOf [b]⟩, 1) else none
def toks10 (n : Nat) : Nat → List TokD → List UInt8 → List TokD × Int
 | 0, out, _ => (out, 0)
 | _, out, [] => (out, 0)
 | f + 1, out, b :: l =>
  if b = 32 ∨ b = 10 then toks10 n f out l
  else if b = 35 then toks10 n f out ((b :: l).drop (spanN inLine (b :: l)))
  else match one10 (b :: l) with
   | none => ([], ((n - (l.length + 1) : Nat) : Int) + 1)
   | some (t, k) => if out.length = 200 then ([], ((n - (l.length + 1) : Nat) : Int) + 1) else toks10 n f (out ++ [t]) ((b :: l).drop k)
def tokensB (s : ByteArray) : List TokD × Int := if 600 < s.size then ([], 601) else toks10 s.size (s.size + 1) [] s.data.toList
theorem spanN_le (p : UInt8 → Bool) : ∀ l, spanN p l ≤ l.length
 | [] => Nat.le_refl _
 | b :: l => by
  rw [spanN]
  have := spanN_le p l
  simp only [List.length_cons]
  split <;> omega
theorem spanN_at (p : UInt8 → Bool) : ∀ (l : List UInt8) (k : Nat), k ≤ l.length → (∀ i (h : i < l.length), i < k → p l[i] = true) → (∀ h : k < l.length, p l[k] = false) → spanN p l = k
 | [], k, hk, _, _ => by
  cases (show k = 0 by simpa using hk); rfl
 | b :: l, 0, _, _, h => by
  have := h (by simp)
  rw [spanN, if_neg (by rw [show p b = false from this]; decide)]
 | b :: l, k + 1, hk, h1, h2 => by
  have hb : p b = true := h1 0 (by simp) (by omega)
  rw [spanN, if_pos hb, spanN_at p l k (by simpa using hk) (fun i h hi => ?_) (fun h => ?_)]
  ·have := h1 (i + 1) (by simpa using h) (by omega)
   simpa using this
  ·have := h2 (by simpa using h)
   simpa using this
theorem one10_pos {l : List UInt8} {t : TokD} {k : Nat} (h : one10 l = some (t, k)) : 1 ≤ k ∧ k ≤ l.length := by
 cases l with
 | nil => cases h
 | cons b l =>
  rw [one10] at h
  have q1 := spanN_le wordT l
  have q2 := spanN_le figU l
  have q3 := spanN_le inText l
  have q4 := spanN_le inSetB l
  have hd : ∀ (n : Nat) (u : UInt8), (l.drop n).head? = some u → n < l.length := fun n u hu => by
   rcases Nat.lt_or_ge n l.length with h | h
   ·exact h
   ·rw [List.drop_of_length_le h] at hu; cases hu
  simp only [List.length_cons]
  split at h
  ·split at h
   ·cases h
   ·split at h
    ·rename_i hq
     have := hd _ _ hq
     cases h; omega
    ·cases h; omega
  split at h
  ·split at h
   ·cases h
   ·cases h; omega
  split at h
  ·split at h
   ·rename_i hq
    have := hd _ _ hq.1
    cases h; omega
   ·cases h
  split at h
  ·split at h
   ·rename_i hq
    cases h; omega
   ·cases h
  split at h
  ·rename_i hq
   have : 0 < l.length := by
    cases l with
    | nil => cases hq.2
    | cons _ _ => simp
   cases h; omega
  split at h
  ·cases h; omega
  ·cases h
end Go.Proofs.YtccogaoabdpfmaaGreat

namespace Go.Proofs.YtccogaoabdpfmaaGreat
def Sup (f : Nat → Bool) : Prop := ∀ b, f b = true → okb b = true
/- The lowest bit, and how long a row of bits is. -/
theorem Sup.and {f g : Nat → Bool} (h : Sup f) (_ : Sup g) : Sup fun x => f x && g x := fun b hb => by
 rw [Bool.and_eq_true] at hb
 exact h b hb.1
end Go.Proofs.YtccogaoabdpfmaaGreat

namespace Go.Proofs.YtccogaoabdpfmaaGreat
open Go.RowKit
def kindP (b : Nat) : Int := if 48 ≤ b ∧ b ≤ 57 then 1 else if 97 ≤ b ∧ b ≤ 122 then 2 else 0
theorem kind_any (b : Nat) (hb : b < 256) (w : World) :
  Calls Tryz.prog 102 #[.int .u8 b] w fun e w' => e = .returned (.int .i64 (kindP b)) ∧ w' = w := by
 by_cases h1 : 48 ≤ b ∧ b ≤ 57
 ·have HV : Hid (kindP b = 1) := by simp only [Hid, kindP, if_pos h1]
  obtain ⟨h1, h2⟩ := h1
  go_enter Tryz.func102, Tryz.ntmps102
  go_wp2
  go_ret
  rw [HV.out]
  exact ⟨rfl, rfl⟩
 ·by_cases h2 : 97 ≤ b ∧ b ≤ 122
  ·have HV : Hid (kindP b = 2) := by simp only [Hid, kindP, if_neg h1, if_pos h2]
   obtain ⟨h2, h3⟩ := h2
   clear h1
   go_enter Tryz.func102, Tryz.ntmps102
   go_wp2
   go_ret
   rw [HV.out]
   exact ⟨rfl, rfl⟩
  ·have HV : Hid (kindP b = 0) := by simp only [Hid, kindP, if_neg h1, if_neg h2]
   by_cases h3 : b < 48
   ·go_enter Tryz.func102, Tryz.ntmps102
    go_wp2
    go_ret
    rw [HV.out]
    exact ⟨rfl, rfl⟩
   ·by_cases h4 : b < 97
    ·have h5 : 57 < b := by omega
     go_enter Tryz.func102, Tryz.ntmps102
     go_wp2
     go_ret
     rw [HV.out]
     exact ⟨rfl, rfl⟩
    ·have h5 : 122 < b := by omega
     go_enter Tryz.func102, Tryz.ntmps102
     go_wp2
     go_ret
     rw [HV.out]
     exact ⟨rfl, rfl⟩
end Go.Proofs.YtccogaoabdpfmaaGreat

namespace Go.Proofs.YtccogaoabdpfmaaGreat
open Go.RowKit
set_option maxHeartbeats 800000
set_option maxRecDepth 100000
def bitP (b : Nat) : Nat := if okb b = true then 2 ^ pos b else 0
theorem wrap_pow (k : Nat) (h : k < 64) : IntKind.u64.wrap ((2 : Int) ^ k) = ((2 ^ k : Nat) : Int) := by
 have h1 : (2 : Nat) ^ k < 18446744073709551616 := Nat.lt_of_lt_of_le (Nat.pow_lt_pow_right (by decide) h) (by decide)
 have h2 : ((2 : Int) ^ k) = ((2 ^ k : Nat) : Int) := by simp
 rw [h2, IntKind.wrap_u64]
 generalize 2 ^ k = x at *
 omega
theorem bit_any (b : Nat) (hb : b < 256) (w : World) :
  Calls Tryz.prog 103 #[.int .u8 b] w fun e w' => e = .returned (.int .u64 (bitP b : Nat)) ∧ w' = w := by
 have HK : Hid (∀ W, _) := fun W => kind_any b hb W
 by_cases h1 : 48 ≤ b ∧ b ≤ 57
 ·have HV : Hid (IntKind.u64.wrap ((2 : Int) ^ (b - 48)) = ((bitP b : Nat) : Int)) := by rw [Hid, bitP, if_pos ((okb_iff b).2 (.inr h1)), pos, if_pos (by omega), wrap_pow _ (by omega)]
  have hk : kindP b = 1 := by simp only [kindP, if_pos h1]
  rw [hk] at HK
  obtain ⟨h1, h2⟩ := h1
  clear hk
  go_enter Tryz.func103, Tryz.ntmps103
  go_wp2_with (go_at_call 102; refine (HK.out _).mono ?_; rintro e wq ⟨rfl, hw⟩; rw [hw]; clear hw)
  go_ret
  exact ⟨congrArg (fun z => Ending.returned (Value.int .u64 z)) HV.out, rfl⟩
 ·by_cases h2 : 97 ≤ b ∧ b ≤ 122
  ·have HV : Hid (IntKind.u64.wrap ((2 : Int) ^ (b - 97 + 16)) = ((bitP b : Nat) : Int)) := by rw [Hid, bitP, if_pos ((okb_iff b).2 (.inl h2)), pos, if_neg (by omega), wrap_pow _ (by omega)]
   have hk : kindP b = 2 := by simp only [kindP, if_neg h1, if_pos h2]
   rw [hk] at HK
   obtain ⟨h2, h3⟩ := h2
   clear hk h1
   have e1 : ((b : Int) - 97 + 16).toNat = b - 97 + 16 := by omega
   go_enter Tryz.func103, Tryz.ntmps103
   go_wp2_with (go_at_call 102; refine (HK.out _).mono ?_; rintro e wq ⟨rfl, hw⟩; rw [hw]; clear hw)
   go_ret
   exact ⟨congrArg (fun z => Ending.returned (Value.int .u64 z)) HV.out, rfl⟩
  ·have HV : Hid (bitP b = 0) := by rw [Hid, bitP, if_neg]; rw [okb_iff]; omega
   have hk : kindP b = 0 := by simp only [kindP, if_neg h1, if_neg h2]
   rw [hk] at HK
   clear hk h1 h2
   go_enter Tryz.func103, Tryz.ntmps103
   go_wp2_with (go_at_call 102; refine (HK.out _).mono ?_; rintro e wq ⟨rfl, hw⟩; rw [hw]; clear hw)
   go_ret
   rw [HV.out]
   exact ⟨rfl, rfl⟩
theorem joined_any (a b : Nat) (ha : a < 18446744073709551616) (hb : b < 18446744073709551616) (w : World) :
  Calls Tryz.prog 90 #[.int .u64 a, .int .u64 b] w fun e w' => e = .returned (.int .u64 (a ||| b : Nat)) ∧ w' = w := by
 go_enter Tryz.func90, Tryz.ntmps90
 go_wp2
 go_ret
 exact ⟨congrArg (fun z => Ending.returned (Value.int .u64 z)) (bits_or_u64_nat a b ha hb), rfl⟩
def rowP (a c : Nat) : Nat := if (okb a && rowOk a c) = true then rowM (a, c) else 0
theorem rowP_lt (a c : Nat) : rowP a c < 18446744073709551616 := by
 unfold rowP
 split
 ·rename_i h
  rw [Bool.and_eq_true] at h
  have hg := good_pos (rowOk_good h.1 h.2)
  have h1 : 2 ^ (pos c + 1) ≤ 2 ^ 42 := Nat.pow_le_pow_right (by decide) (by have := hg.2; simp only at this; omega)
  have h2 : rowM (a, c) ≤ 2 ^ (pos c + 1) := Nat.sub_le _ _
  exact Nat.lt_of_le_of_lt (Nat.le_trans h2 h1) (by decide)
 ·decide
theorem kind_same {a c : Nat} (h : kindP a = kindP c) (ha : okb a = true) : okb c = true ∧ (57 < c ↔ 57 < a) := by
 rw [okb_iff] at ha ⊢
 unfold kindP at h
 split at h
 ·split at h
  ·omega
  ·split at h <;> omega
 ·split at h
  ·split at h
   ·omega
   ·split at h <;> omega
  ·omega
theorem rowP_cases (a c : Nat) : (kindP a ≠ kindP c ∨ c < a) ∧ rowP a c = 0 ∨ kindP a = kindP c ∧ a ≤ c ∧ bitP c * 2 < 18446744073709551616 ∧ bitP a ≤ bitP c * 2 ∧ rowP a c = bitP c * 2 - bitP a := by
 by_cases hk : kindP a = kindP c
 ·by_cases hl : c < a
  ·refine .inl ⟨.inr hl, ?_⟩
   rw [rowP, if_neg]
   rw [Bool.and_eq_true, rowOk]
   rintro ⟨_, h⟩
   simp only [Bool.and_eq_true, decide_eq_true_eq] at h
   omega
  ·refine .inr ⟨hk, by omega, ?_⟩
   cases ha : okb a with
   | true =>
    obtain ⟨h1, h2⟩ := kind_same hk ha
    have hr : rowOk a c = true := by
     rw [rowOk, h1, decide_eq_true (by omega : a ≤ c)]
     simp [h2]
    have hg := good_pos (rowOk_good ha hr)
    simp only at hg
    have e1 : bitP c * 2 = 2 ^ (pos c + 1) := by rw [bitP, if_pos h1, Nat.pow_succ]
    have e2 : bitP a = 2 ^ pos a := by rw [bitP, if_pos ha]
    rw [e1, e2, rowP, ha, hr, if_pos (by decide)]
    refine ⟨?_, ?_, rfl⟩
    ·exact Nat.lt_of_lt_of_le (Nat.pow_lt_pow_right (by decide) (by omega : pos c + 1 < 64)) (by decide)
    ·exact Nat.pow_le_pow_right (by decide) (by omega)
   | false =>
    have hc : okb c = false := by
     cases hc : okb c with
     | false => rfl
     | true => rw [(kind_same hk.symm hc).1] at ha; cases ha
    simp [bitP, ha, hc, rowP]
 ·refine .inl ⟨.inl hk, ?_⟩
  rw [rowP, if_neg]
  rw [Bool.and_eq_true]
  rintro ⟨ha, h⟩
  obtain ⟨h1, h2, h3, h4⟩ := rowOk_good ha h
  rw [okb_iff] at h1 h2
  apply hk
  simp only at h1 h2 h3 h4
  unfold kindP
  by_cases h5 : a ≤ 57
  ·rw [if_pos (by omega), if_pos (by omega)]
  ·rw [if_neg (by omega), if_pos (by omega), if_neg (by omega), if_pos (by omega)]
theorem rowOf_any (a c : Nat) (ha : a < 256) (hc : c < 256) (w : World) :
  Calls Tryz.prog 89 #[.int .u8 a, .int .u8 c] w fun e w' => e = .returned (.int .u64 (rowP a c : Nat)) ∧ w' = w := by
 rcases rowP_cases a c with ⟨h, hr⟩ | ⟨hk, hl, h1, h2, hr⟩
 ·have HR : Hid (rowP a c = 0) := hr
  clear hr
  by_cases hk : kindP a = kindP c
  ·have hl : c < a := h.resolve_left (fun h => h hk)
   have hk' : (kindP a != kindP c) = false := by simpa using hk
   clear h hk
   go_enter Tryz.func89, Tryz.ntmps89
   go_wp2_with (go_at_call 102; refine (kind_any _ (by omega) _).mono ?_; rintro e wq ⟨rfl, hw⟩; rw [hw]; clear hw)
   go_ret
   rw [HR.out]
   exact ⟨rfl, rfl⟩
  ·clear h
   have hk' : (kindP a != kindP c) = true := by simpa using hk
   clear hk
   go_enter Tryz.func89, Tryz.ntmps89
   go_wp2_with (go_at_call 102; refine (kind_any _ (by omega) _).mono ?_; rintro e wq ⟨rfl, hw⟩; rw [hw]; clear hw)
   go_ret
   rw [HR.out]
   exact ⟨rfl, rfl⟩
 ·have HR : Hid (((bitP c : Int) * 2 - (bitP a : Int)) = ((rowP a c : Nat) : Int)) := by rw [Hid, hr]; omega
  have hk' : (kindP a != kindP c) = false := by simpa using hk
  clear hr hk
  go_enter Tryz.func89, Tryz.ntmps89
  go_wp2_with (first
   | (go_at_call 102; refine (kind_any _ (by omega) _).mono ?_; rintro e wq ⟨rfl, hw⟩; rw [hw]; clear hw)
   | (go_at_call 103; refine (bit_any _ (by omega) _).mono ?_; rintro e wq ⟨rfl, hw⟩; rw [hw]; clear hw))
  go_ret
  exact ⟨congrArg (fun z => Ending.returned (Value.int .u64 z)) HR.out, rfl⟩
end Go.Proofs.YtccogaoabdpfmaaGreat
