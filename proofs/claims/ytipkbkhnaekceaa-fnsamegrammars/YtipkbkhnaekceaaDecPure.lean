/- Small laws that no program is named in: bytes as cells, an owned row of bytes made a string, and the bytes of a number. Nothing is assumed. -/
/- Sets of bytes, with no program: their rows, what is in them, a mask of bits for them, and the text that is told of one. Nothing is assumed. -/
/- Tokens of a text, in pure terms: from what is left of the text. No program is named. -/
/- Sets of bytes, with no program: the bytes that a set tells, and the text that is told of it, from the front on; by bytes and by bits. -/
/- The program's kindOf. -/
/- The program's small functions on bytes and bits. -/
/- The program's readSet, SetOk and InSet. -/
/- Decimal figures: the plain mathematics, with no program in it. -/
import Derived.Test.YtipkbkhnaekceaaRows
import Derived.WalkKit
import Derived.ProofKit
import Derived.Below
import Derived.ShutString
import Derived.SizedLaws
import Derived.Laws.IdiomStrings
import Derived.Laws.BytesArg
import Derived.Deep.QuietTactic
import Derived.BigQuiet
import Derived.Deep.RegionWith
import Derived.Lib.TrailingZeros
import Derived.Laws.Bits64b
import Derived.Lib.ItoaNum
import Derived.Lib.ItoaMem
namespace Go.Proofs.Ytipkbkhnaekceaa
open Go.RowKit

def bv (l : List UInt8) : List Value := l.map fun b => Value.int .u8 (b.toNat : Int)

theorem bv_len (l : List UInt8) : (bv l).length = l.length := by simp [bv]
theorem bv_app (l m : List UInt8) : bv (l ++ m) = bv l ++ bv m := by simp [bv]
theorem bv_one (b : UInt8) : bv [b] = [Value.int .u8 (b.toNat : Int)] := rfl

def str (l : List UInt8) : ByteArray := ⟨l.toArray⟩
theorem str_size (l : List UInt8) : (str l).size = l.length := by simp [str, ByteArray.size]
theorem str_list (l : List UInt8) : (str l).data.toList = l := by simp [str]

theorem own_string {P : Program} {w : World} {base : Nat} {src dst e : TypeId} {v : Value} (l : List UInt8) (hs : P.underlying src = some (.slice e)) (he : P.underlying e = some (.int .u8)) (hd : P.underlying dst = some .string)
    (hown : w.ownsRow base e 1 v l.length (bv l)) : (convert src dst v).run P w = .ok (.string (str l)) w := by
  have hown0 := hown
  rcases hown.2 with ⟨rfl, h0⟩ | ⟨g, cap, cur, rfl, hg, hh, hnc, hcp, hcs, htake⟩
  · obtain rfl : l = [] := List.length_eq_zero_iff.1 h0
    rw [run_convert_bytes_nil w src e hs he 0 0 dst hd]
    rfl
  · have hcells : ∀ j (hj : j < l.length), w.cell? ((⟨g, 0, none⟩ : Addr).add j) = some (.int .u8 (l[j].toNat : Int)) := fun j hj => by
      rw [Addr.add_lit, Nat.zero_add, hown0.cellAt j (by omega)]
      simp [bv, hj]
    exact run_convert_bytes_back (P := P) w src dst e ⟨g, 0, none⟩ cap l hs he hd hcells

theorem one_at (w : World) (x : Value) (t : TypeId) : ∀ j u, [x][j]? = some u → (w.alloc (.cells #[x] t)).cell? ((⟨w.heap.size, 0, none⟩ : Addr).add j) = some u := by
  intro j u hj
  match j, hj with
  | 0, hj => simp at hj; subst hj; simp [Addr.add]

theorem one_cell (k : IntKind) (n : Int) : ∀ u ∈ [Value.int k n], u.oneCell' = true := by
  intro u hu; simp at hu; subst hu; rfl

theorem bel_drewN {B : Nat} {a w : World} (h : Below B a w) (q : Nat) : Below B a (w.drewN q) := ⟨h.os, h.tape, h.output, h.size, h.block⟩

theorem bel_of_drew {B : Nat} {w w' : World} (h : Below B w.drew w') : Below B w w' := ⟨h.os, h.tape, h.output, h.size, h.block⟩

/-- The bytes of a number: seven bits a byte, the lowest first. -/
def varF : Nat → Nat → List UInt8
  | 0, n => [UInt8.ofNat n]
  | f + 1, n => if 127 < n then UInt8.ofNat (n % 128 + 128) :: varF f (n / 128) else [UInt8.ofNat n]

theorem varF_any : ∀ (f g n : Nat), n ≤ f → n ≤ g → varF f n = varF g n
  | 0, 0, _, _, _ => rfl
  | 0, g + 1, n, h, _ => by
    obtain rfl : n = 0 := by omega
    simp [varF]
  | f + 1, 0, n, _, h => by
    obtain rfl : n = 0 := by omega
    simp [varF]
  | f + 1, g + 1, n, h, k => by
    simp only [varF]
    split
    · rw [varF_any f g (n / 128) (by omega) (by omega)]
    · rfl

def varB (n : Nat) : List UInt8 := varF n n

theorem varB_more (n : Nat) (h : 127 < n) : varB n = UInt8.ofNat (n % 128 + 128) :: varB (n / 128) := by
  unfold varB
  match n, h with
  | n + 1, h =>
    rw [varF, if_pos h, varF_any n ((n + 1) / 128) ((n + 1) / 128) (by omega) (by omega)]

theorem varB_last (n : Nat) (h : n ≤ 127) : varB n = [UInt8.ofNat n] := by
  unfold varB
  cases n with
  | zero => rfl
  | succ n => rw [varF, if_neg (by omega)]

theorem varF_len : ∀ (f n : Nat), (varF f n).length ≤ f + 1
  | 0, _ => by simp [varF]
  | f + 1, n => by
    simp only [varF]
    split
    · have := varF_len f (n / 128); simp only [List.length_cons]; omega
    · simp

theorem varB_len (n : Nat) : (varB n).length ≤ n + 1 := varF_len n n

theorem toNat_ofNat (n : Nat) (h : n < 256) : (UInt8.ofNat n).toNat = n := by simp [UInt8.toNat_ofNat']; omega

end Go.Proofs.Ytipkbkhnaekceaa

namespace Go.Proofs.Ytipkbkhnaekceaa

def okb (n : Nat) : Bool := (decide (97 ≤ n) && decide (n ≤ 122)) || (decide (48 ≤ n) && decide (n ≤ 57))
theorem okb_iff (n : Nat) : okb n = true ↔ (97 ≤ n ∧ n ≤ 122) ∨ (48 ≤ n ∧ n ≤ 57) := by simp [okb]
theorem okb_not (n : Nat) : okb n = false ↔ ¬ ((97 ≤ n ∧ n ≤ 122) ∨ (48 ≤ n ∧ n ≤ 57)) := by rw [← okb_iff]; simp

/-- Whether two bytes bound a row. -/
def rowOk (a c : Nat) : Bool := okb c && decide (a ≤ c) && (decide (57 < c) == decide (57 < a))

def rowsL : List UInt8 → Option (List (Nat × Nat))
  | [] => some []
  | [a] => if okb a.toNat then some [(a.toNat, a.toNat)] else none
  | [a, b] => if okb a.toNat then (rowsL [b]).map ((a.toNat, a.toNat) :: ·) else none
  | a :: b :: c :: r =>
    if okb a.toNat then
      if b.toNat = 45 then
        if rowOk a.toNat c.toNat then (rowsL r).map ((a.toNat, c.toNat) :: ·) else none
      else (rowsL (b :: c :: r)).map ((a.toNat, a.toNat) :: ·)
    else none

theorem rowsL_bad (a : UInt8) (r : List UInt8) (h : okb a.toNat = false) : rowsL (a :: r) = none := by
  match r with
  | [] => simp [rowsL, h]
  | [b] => simp [rowsL, h]
  | b :: c :: r => simp [rowsL, h]
theorem rowsL_one (a : UInt8) (r : List UInt8) (h : okb a.toNat = true) (hn : ∀ b c q, r = b :: c :: q → b.toNat ≠ 45) : rowsL (a :: r) = (rowsL r).map ((a.toNat, a.toNat) :: ·) := by
  match r with
  | [] => simp [rowsL, h]
  | [b] => simp [rowsL, h]
  | b :: c :: r => rw [rowsL]; simp [h, hn b c r rfl]
theorem rowsL_row (a b c : UInt8) (r : List UInt8) (h : okb a.toNat = true) (hb : b.toNat = 45) (hr : rowOk a.toNat c.toNat = true) : rowsL (a :: b :: c :: r) = (rowsL r).map ((a.toNat, c.toNat) :: ·) := by
  rw [rowsL]; simp [h, hb, hr]
theorem rowsL_norow (a b c : UInt8) (r : List UInt8) (hb : b.toNat = 45) (hr : rowOk a.toNat c.toNat = false) : rowsL (a :: b :: c :: r) = none := by
  rw [rowsL]; simp [hb, hr]

/-- The same, by places. -/
theorem rows_bad (l : List UInt8) (i : Nat) (h : i < l.length) (hb : okb l[i].toNat = false) : rowsL (l.drop i) = none := by
  rw [List.drop_eq_getElem_cons h]; exact rowsL_bad _ _ hb
theorem rows_one (l : List UInt8) (i : Nat) (h : i < l.length) (hb : okb l[i].toNat = true) (hn : ∀ h2 : i + 2 < l.length, l[i + 1].toNat ≠ 45) : rowsL (l.drop i) = (rowsL (l.drop (i + 1))).map ((l[i].toNat, l[i].toNat) :: ·) := by
  rw [List.drop_eq_getElem_cons h]
  refine rowsL_one _ _ hb ?_
  intro b c q e
  have h1 : i + 2 < l.length := by
    have := congrArg List.length e
    simp at this
    omega
  have h2 := hn h1
  have e2 := congrArg (fun x => x[0]?) e
  simp [List.getElem?_drop] at e2
  rw [List.getElem?_eq_getElem (by omega)] at e2
  rw [← Option.some.inj e2]
  exact h2
theorem rows_row (l : List UInt8) (i : Nat) (h : i + 2 < l.length) (ha : okb l[i].toNat = true) (hb : l[i + 1].toNat = 45) (hr : rowOk l[i].toNat l[i + 2].toNat = true) : rowsL (l.drop i) = (rowsL (l.drop (i + 3))).map ((l[i].toNat, l[i + 2].toNat) :: ·) := by
  rw [List.drop_eq_getElem_cons (by omega : i < l.length), List.drop_eq_getElem_cons (by omega : i + 1 < l.length), List.drop_eq_getElem_cons (by omega : i + 1 + 1 < l.length)]
  exact rowsL_row _ _ _ _ ha hb hr
theorem rows_norow (l : List UInt8) (i : Nat) (h : i + 2 < l.length) (hb : l[i + 1].toNat = 45) (hr : rowOk l[i].toNat l[i + 2].toNat = false) : rowsL (l.drop i) = none := by
  rw [List.drop_eq_getElem_cons (by omega : i < l.length), List.drop_eq_getElem_cons (by omega : i + 1 < l.length), List.drop_eq_getElem_cons (by omega : i + 1 + 1 < l.length)]
  exact rowsL_norow _ _ _ _ hb hr

def GoodR (p : Nat × Nat) : Prop := okb p.1 = true ∧ okb p.2 = true ∧ p.1 ≤ p.2 ∧ (57 < p.2 ↔ 57 < p.1)
theorem rowOk_good {a c : Nat} (ha : okb a = true) (h : rowOk a c = true) : GoodR (a, c) := by
  simp only [rowOk, Bool.and_eq_true, decide_eq_true_eq, beq_iff_eq] at h
  refine ⟨ha, h.1.1, h.1.2, ?_⟩
  have := h.2
  simpa using this

/-- Whether a text is a right set; what is in its rows, and in it. -/
def okL (l : List UInt8) : Bool := (rowsL l).isSome && (decide (1 ≤ l.length) && decide (l.length ≤ 12))

/- The mask. -/
def byteP (i : Nat) : Nat := if i < 16 then 48 + i else 97 + (i - 16)
def valid (i : Nat) : Bool := decide (i < 10) || (decide (16 ≤ i) && decide (i < 42))
theorem valid_iff (i : Nat) : valid i = true ↔ i < 10 ∨ (16 ≤ i ∧ i < 42) := by simp [valid]

theorem testBit_lt {m : Nat} (h : ∀ i, m.testBit i = true → i < 42) : m < 4398046511104 := by
  have : m < 2 ^ 42 := by
    apply Nat.lt_pow_two_of_testBit
    intro i hi
    cases hb : m.testBit i with
    | false => rfl
    | true => have := h i hb; omega
  simpa using this

/-- A mask stands for a set. -/
def Rep (m : Nat) (f : Nat → Bool) : Prop := ∀ i, m.testBit i = (valid i && f (byteP i))
theorem Rep.lt {m : Nat} {f : Nat → Bool} (h : Rep m f) : m < 4398046511104 := testBit_lt fun i hi => by
  have h1 := h i
  rw [hi] at h1
  have h2 := h1.symm
  rw [Bool.and_eq_true, valid_iff] at h2
  omega
theorem Rep.and {m n : Nat} {f g : Nat → Bool} (h : Rep m f) (k : Rep n g) : Rep (m &&& n) fun x => f x && g x := fun i => by
  rw [Nat.testBit_and, h, k]; cases valid i <;> simp
theorem Rep.zero : Rep 0 fun _ => false := fun i => by simp

end Go.Proofs.Ytipkbkhnaekceaa

namespace Go.Proofs.Ytipkbkhnaekceaa
open Go.RowKit

structure TokD where
  kind : Int
  text : ByteArray
instance : Inhabited TokD := ⟨⟨0, ⟨#[]⟩⟩⟩

def letT (b : Nat) : Bool := decide (97 ≤ b) && decide (b ≤ 122) || decide (65 ≤ b) && decide (b ≤ 90)
def figT (b : Nat) : Bool := decide (48 ≤ b) && decide (b ≤ 57)
def wordT (b : UInt8) : Bool := letT b.toNat || figT b.toNat
def figU (b : UInt8) : Bool := figT b.toNat
def inText (b : UInt8) : Bool := decide (b.toNat ≠ 34) && decide (b.toNat ≠ 10)
def inSetB (b : UInt8) : Bool := decide (b.toNat ≠ 93)
def inLine (b : UInt8) : Bool := decide (b.toNat ≠ 10)
def signsL : List UInt8 := [40, 41, 123, 125, 124, 42, 43, 63, 58, 44, 59, 61, 64, 45, 47, 60, 38, 33]
/-- How many there are of a kind, from the front. -/
def spanN (p : UInt8 → Bool) : List UInt8 → Nat
  | [] => 0
  | b :: l => if p b = true then spanN p l + 1 else 0
def bytesOf (l : List UInt8) : ByteArray := ⟨l.toArray⟩
/-- The token at the front of what is left, and how much it takes. -/
def one10 : List UInt8 → Option (TokD × Nat)
  | [] => none
  | b :: l =>
    if letT b.toNat = true then
      if 5 < spanN wordT l then none
      else if (l.drop (spanN wordT l)).head? = some 40 then some (⟨6, bytesOf (b :: l.take (spanN wordT l))⟩, spanN wordT l + 2)
      else some (⟨1, bytesOf (b :: l.take (spanN wordT l))⟩, spanN wordT l + 1)
    else if figT b.toNat = true then
      if 1 < spanN figU l then none else some (⟨2, bytesOf (b :: l.take (spanN figU l))⟩, spanN figU l + 1)
    else if b = 34 then
      if (l.drop (spanN inText l)).head? = some 34 ∧ 1 ≤ spanN inText l ∧ spanN inText l ≤ 8 then some (⟨3, bytesOf (l.take (spanN inText l))⟩, spanN inText l + 2) else none
    else if b = 91 then
      if spanN inSetB l < l.length ∧ okL (l.take (spanN inSetB l)) = true then some (⟨4, bytesOf (l.take (spanN inSetB l))⟩, spanN inSetB l + 2) else none
    else if b = 45 ∧ l.head? = some 62 then some (⟨5, bytesOf [45, 62]⟩, 2)
    else if signsL.contains b = true then some (⟨5, bytesOf [b]⟩, 1) else none
/-- By fuel: the tokens of what is left (n: how long the text is), or the place of what is none. -/
def toks10 (n : Nat) : Nat → List TokD → List UInt8 → List TokD × Int
  | 0, out, _ => (out, 0)
  | _, out, [] => (out, 0)
  | f + 1, out, b :: l =>
    if b = 32 ∨ b = 10 then toks10 n f out l
    else if b = 35 then toks10 n f out ((b :: l).drop (spanN inLine (b :: l)))
    else match one10 (b :: l) with
      | none => ([], ((n - (l.length + 1) : Nat) : Int) + 1)
      | some (t, k) => if out.length = 200 then ([], ((n - (l.length + 1) : Nat) : Int) + 1) else toks10 n f (out ++ [t]) ((b :: l).drop k)
def tokensB (s : ByteArray) : List TokD × Int := if 600 < s.size then ([], 601) else toks10 s.size (s.size + 1) [] s.data.toList

theorem spanN_le (p : UInt8 → Bool) : ∀ l, spanN p l ≤ l.length
  | [] => Nat.le_refl _
  | b :: l => by
    rw [spanN]
    have := spanN_le p l
    simp only [List.length_cons]
    split <;> omega
theorem spanN_at (p : UInt8 → Bool) : ∀ (l : List UInt8) (k : Nat), k ≤ l.length → (∀ i (h : i < l.length), i < k → p l[i] = true) → (∀ h : k < l.length, p l[k] = false) → spanN p l = k
  | [], k, hk, _, _ => by
    cases (show k = 0 by simpa using hk); rfl
  | b :: l, 0, _, _, h => by
    have := h (by simp)
    rw [spanN, if_neg (by rw [show p b = false from this]; decide)]
  | b :: l, k + 1, hk, h1, h2 => by
    have hb : p b = true := h1 0 (by simp) (by omega)
    rw [spanN, if_pos hb, spanN_at p l k (by simpa using hk) (fun i h hi => ?_) (fun h => ?_)]
    · have := h1 (i + 1) (by simpa using h) (by omega)
      simpa using this
    · have := h2 (by simpa using h)
      simpa using this
theorem one10_pos {l : List UInt8} {t : TokD} {k : Nat} (h : one10 l = some (t, k)) : 1 ≤ k ∧ k ≤ l.length := by
  cases l with
  | nil => cases h
  | cons b l =>
    rw [one10] at h
    have q1 := spanN_le wordT l
    have q2 := spanN_le figU l
    have q3 := spanN_le inText l
    have q4 := spanN_le inSetB l
    have hd : ∀ (n : Nat) (u : UInt8), (l.drop n).head? = some u → n < l.length := fun n u hu => by
      rcases Nat.lt_or_ge n l.length with h | h
      · exact h
      · rw [List.drop_of_length_le h] at hu; cases hu
    simp only [List.length_cons]
    split at h
    · split at h
      · cases h
      · split at h
        · rename_i hq
          have := hd _ _ hq
          cases h; omega
        · cases h; omega
    split at h
    · split at h
      · cases h
      · cases h; omega
    split at h
    · split at h
      · rename_i hq
        have := hd _ _ hq.1
        cases h; omega
      · cases h
    split at h
    · split at h
      · rename_i hq
        cases h; omega
      · cases h
    split at h
    · rename_i hq
      have : 0 < l.length := by
        cases l with
        | nil => cases hq.2
        | cons _ _ => simp
      cases h; omega
    split at h
    · cases h; omega
    · cases h

end Go.Proofs.Ytipkbkhnaekceaa

namespace Go.Proofs.Ytipkbkhnaekceaa

/-- What comes of the first n, one behind the other. -/
def pre (h : Nat → List UInt8) (n : Nat) : List UInt8 := (List.range n).flatMap h

def Sup (f : Nat → Bool) : Prop := ∀ b, f b = true → okb b = true

/- The lowest bit, and how long a row of bits is. -/

theorem Sup.and {f g : Nat → Bool} (h : Sup f) (_ : Sup g) : Sup fun x => f x && g x := fun b hb => by
  rw [Bool.and_eq_true] at hb
  exact h b hb.1

end Go.Proofs.Ytipkbkhnaekceaa

namespace Go.Proofs.Ytipkbkhnaekceaa
open Go.RowKit

end Go.Proofs.Ytipkbkhnaekceaa

namespace Go.Proofs.Ytipkbkhnaekceaa
open Go.RowKit

end Go.Proofs.Ytipkbkhnaekceaa

namespace Go.Proofs.Ytipkbkhnaekceaa
open Go.RowKit

/-- What is read up to a place. -/
def ReadTo (l : List UInt8) (rs : List (Nat × Nat)) (k : Nat) : Prop := rowsL l = (rowsL (l.drop k)).map (rs ++ ·) ∧ ∀ p ∈ rs, GoodR p
theorem readTo_start (l : List UInt8) : ReadTo l [] 0 := ⟨by simp, fun _ h => by cases h⟩
theorem readTo_none {l : List UInt8} {rs : List (Nat × Nat)} {k : Nat} (h : ReadTo l rs k) (hn : rowsL (l.drop k) = none) : rowsL l = none := by rw [h.1, hn]; rfl
theorem readTo_step {l : List UInt8} {rs : List (Nat × Nat)} {k j : Nat} {p : Nat × Nat} (h : ReadTo l rs k) (hs : rowsL (l.drop k) = (rowsL (l.drop j)).map (p :: ·)) (hg : GoodR p) : ReadTo l (rs ++ [p]) j := by
  refine ⟨?_, fun q hq => ?_⟩
  · rw [h.1, hs, Option.map_map]
    congr 1
    funext x
    simp
  · rcases List.mem_append.1 hq with hq | hq
    · exact h.2 q hq
    · rw [List.mem_singleton.1 hq]; exact hg
theorem readTo_end {l : List UInt8} {rs : List (Nat × Nat)} {k : Nat} (h : ReadTo l rs k) (hk : l.length ≤ k) : rowsL l = some rs := by
  rw [h.1, List.drop_of_length_le hk]
  simp [rowsL]

theorem rowOk_self {a : Nat} (h : okb a = true) : rowOk a a = true := by simp [rowOk, h]

end Go.Proofs.Ytipkbkhnaekceaa

namespace Go.Proofs.Ytipkbkhnaekceaa
open Go.RowKit

/-- The figures of a number, none for 0. -/
def digs (u : Nat) : List UInt8 := if u = 0 then [] else Lib.decDigits u

theorem digs_step (u : Nat) (h : u ≠ 0) : digs u = digs (u / 10) ++ [UInt8.ofNat (48 + u % 10)] := by
  unfold digs
  rw [if_neg h, Lib.decDigits]
  by_cases h1 : u < 10
  · rw [dif_pos h1, if_pos (by omega), show u % 10 = u by omega]; rfl
  · rw [dif_neg h1, if_neg (by omega)]

theorem digs_len : ∀ (u : Nat), (digs u).length ≤ u / 10 + 1 := by
  intro u
  induction u using Nat.strongRecOn with
  | ind u ih =>
    by_cases h : u = 0
    · simp [digs, h]
    · rw [digs_step u h, List.length_append, List.length_singleton]
      by_cases h1 : u < 10
      · rw [show u / 10 = 0 by omega]; simp [digs]
      · have := ih (u / 10) (by omega)
        omega

theorem itoa_digs_neg (n : Int) (h : n < 0) : Lib.itoa n = 45 :: digs n.natAbs := by
  unfold Lib.itoa digs
  rw [if_pos h, if_neg (by omega)]

theorem itoa_digs_pos (n : Int) (h : 0 < n) : Lib.itoa n = digs n.natAbs := by
  unfold Lib.itoa digs
  rw [if_neg (by omega), if_neg (by omega), show n.toNat = n.natAbs by omega]

theorem itoa_zero : Lib.itoa 0 = [48] := by
  unfold Lib.itoa
  rw [if_neg (by omega), Lib.decDigits, dif_pos (by decide)]
  rfl

theorem str_add (a b : List UInt8) : str a ++ str b = str (a ++ b) := by
  apply ByteArray.ext
  simp [str]

theorem run_add_str {P : Program} (W : World) (a b : List UInt8) (h : a.length + b.length ≤ 9223372036854775807) :
    (Op.stringOp .add (str a) (str b)).run P W = .ok (.string (str (a ++ b))) W := by
  rw [run_string_add_sum _ _ _ (by rw [str_size, str_size]; exact h)]
  congr 2

/-- A number as a byte. -/
def byteI (z : Int) : UInt8 := UInt8.ofNat z.toNat

/-- One byte laid in a new block, made a string. -/
theorem run_one_string {P : Program} (w : World) (src dst e : TypeId) (z : Int) (h0 : 0 ≤ z) (h1 : z < 256) (hs : P.underlying src = some (.slice e)) (he : P.underlying e = some (.int .u8)) (hd : P.underlying dst = some .string) :
    (convert src dst (.slice (some ⟨w.heap.size, 0, none⟩) 1 1)).run P (w.alloc (.cells #[.int .u8 z] e)) = .ok (.string (str [byteI z])) (w.alloc (.cells #[.int .u8 z] e)) := by
  have := run_convert_bytes_back (P := P) (w.alloc (.cells #[.int .u8 z] e)) src dst e ⟨w.heap.size, 0, none⟩ 1 [byteI z] hs he hd (fun j hj => by
    have hj0 : j = 0 := by simpa using hj
    subst hj0
    have e1 := one_at w (.int .u8 z) e 0 (.int .u8 z) rfl
    rw [e1, List.getElem_cons_zero, byteI, toNat_ofNat _ (by omega)]
    simp [Int.toNat_of_nonneg h0])
  exact this

end Go.Proofs.Ytipkbkhnaekceaa
