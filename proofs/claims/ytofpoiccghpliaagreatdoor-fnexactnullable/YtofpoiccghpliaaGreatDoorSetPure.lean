/- EnvOnly of the specification. -/
/- Sets of bytes, with no program: their rows, what is in them, a mask of bits for them, and the text that is told of one. Nothing is assumed. -/
import Derived.Test.YtofpoiccghpliaaGreatDoorXFree
import Derived.Test.YtofpoiccghpliaaGreatDoorSKit
import Derived.Test.YtofpoiccghpliaaGreatDoorVRow
namespace Go.Proofs.YtofpoiccghpliaaGreatDoor
open Go.RowKit

def inB (ss : List ByteArray) (s : ByteArray) : Bool := ss.any (fun t => decide (t = s))
theorem inB_iff (ss : List ByteArray) (s : ByteArray) : inB ss s = true ↔ s ∈ ss := by simp [inB]
def onlyB (xs : List VarD) (ss : List ByteArray) : List VarD := xs.filter (fun x => inB ss x.1)

set_option maxHeartbeats 800000 in
theorem specIn_any (v : Value) (ss : List ByteArray) (s : ByteArray) (w : World) (hn : ss.length ≤ 1048576) (h : SRow w v ss) :
    Calls Tryz.prog 54 #[v, .string s] w fun e w' => e = .returned (.bool (inB ss s)) ∧ w' = w := by
  have HR : Hid (SRow w v ss) := h
  obtain ⟨a, cap, rfl⟩ := h.slice
  clear h
  go_enter Tryz.func54, Tryz.ntmps54
  go_wp2
  go_loop [5] (fun iv => ∃ k : Nat, iv = .int .i64 k ∧ k ≤ ss.length ∧ ∀ j (hj : j < ss.length), j < k → ss[j] ≠ s) (fun iv => ss.length - (intOf iv).toNat)
  case atStart => exact ⟨0, rfl, Nat.zero_le _, fun _ _ h => by omega⟩
  case round =>
    obtain ⟨k, rfl, hk, hj⟩ := hrel
    have HJ : Hid (∀ j (hj : j < ss.length), j < k → ss[j] ≠ s) := hj
    clear hj
    by_cases hlt : k < ss.length
    · obtain ⟨b, off, rfl, hc1⟩ := HR.out.at hlt
      by_cases hnm : ss[k] = s
      · have ht := beq_yes hnm
        have HV : Hid (inB ss s = true) := by rw [Hid, inB_iff, ← hnm]; exact List.getElem_mem _
        clear hnm
        go_wp2
        go_ret
        rw [HV.out]
        exact ⟨rfl, rfl⟩
      · have ht := beq_no hnm
        go_wp2
        go_round
        case rel =>
          refine ⟨k + 1, by go_num, by omega, fun j hj hjk => ?_⟩
          by_cases e : j = k
          · subst e; exact hnm
          · exact HJ.out j hj (by omega)
        case measure => simp [intOf]; omega
    · have HV : Hid (inB ss s = false) := by
        rw [Hid, ← Bool.not_eq_true, inB_iff]
        intro hm
        obtain ⟨j, hj, e⟩ := List.getElem_of_mem hm
        exact HJ.out j hj (by omega) e
      go_wp2
      go_ret
      rw [HV.out]
      exact ⟨rfl, rfl⟩
theorem specIn_is (v : Value) (ss : List ByteArray) (s : ByteArray) (b : Bool) (hb : inB ss s = b) (w : World) (hn : ss.length ≤ 1048576) (h : SRow w v ss) :
    Calls Tryz.prog 54 #[v, .string s] w fun e w' => e = .returned (.bool b) ∧ w' = w := by
  rw [← hb]; exact specIn_any v ss s w hn h

end Go.Proofs.YtofpoiccghpliaaGreatDoor

namespace Go.Proofs.YtofpoiccghpliaaGreatDoor

def okb (n : Nat) : Bool := (decide (97 ≤ n) && decide (n ≤ 122)) || (decide (48 ≤ n) && decide (n ≤ 57))
theorem okb_iff (n : Nat) : okb n = true ↔ (97 ≤ n ∧ n ≤ 122) ∨ (48 ≤ n ∧ n ≤ 57) := by simp [okb]
theorem okb_not (n : Nat) : okb n = false ↔ ¬ ((97 ≤ n ∧ n ≤ 122) ∨ (48 ≤ n ∧ n ≤ 57)) := by rw [← okb_iff]; simp

/-- Whether two bytes bound a row. -/
def rowOk (a c : Nat) : Bool := okb c && decide (a ≤ c) && (decide (57 < c) == decide (57 < a))

def rowsL : List UInt8 → Option (List (Nat × Nat))
  | [] => some []
  | [a] => if okb a.toNat then some [(a.toNat, a.toNat)] else none
  | [a, b] => if okb a.toNat then (rowsL [b]).map ((a.toNat, a.toNat) :: ·) else none
  | a :: b :: c :: r =>
    if okb a.toNat then
      if b.toNat = 45 then
        if rowOk a.toNat c.toNat then (rowsL r).map ((a.toNat, c.toNat) :: ·) else none
      else (rowsL (b :: c :: r)).map ((a.toNat, a.toNat) :: ·)
    else none

theorem rowsL_bad (a : UInt8) (r : List UInt8) (h : okb a.toNat = false) : rowsL (a :: r) = none := by
  match r with
  | [] => simp [rowsL, h]
  | [b] => simp [rowsL, h]
  | b :: c :: r => simp [rowsL, h]
theorem rowsL_one (a : UInt8) (r : List UInt8) (h : okb a.toNat = true) (hn : ∀ b c q, r = b :: c :: q → b.toNat ≠ 45) : rowsL (a :: r) = (rowsL r).map ((a.toNat, a.toNat) :: ·) := by
  match r with
  | [] => simp [rowsL, h]
  | [b] => simp [rowsL, h]
  | b :: c :: r => rw [rowsL]; simp [h, hn b c r rfl]
theorem rowsL_row (a b c : UInt8) (r : List UInt8) (h : okb a.toNat = true) (hb : b.toNat = 45) (hr : rowOk a.toNat c.toNat = true) : rowsL (a :: b :: c :: r) = (rowsL r).map ((a.toNat, c.toNat) :: ·) := by
  rw [rowsL]; simp [h, hb, hr]
theorem rowsL_norow (a b c : UInt8) (r : List UInt8) (hb : b.toNat = 45) (hr : rowOk a.toNat c.toNat = false) : rowsL (a :: b :: c :: r) = none := by
  rw [rowsL]; simp [hb, hr]

/-- The same, by places. -/
theorem rows_bad (l : List UInt8) (i : Nat) (h : i < l.length) (hb : okb l[i].toNat = false) : rowsL (l.drop i) = none := by
  rw [List.drop_eq_getElem_cons h]; exact rowsL_bad _ _ hb
theorem rows_one (l : List UInt8) (i : Nat) (h : i < l.length) (hb : okb l[i].toNat = true) (hn : ∀ h2 : i + 2 < l.length, l[i + 1].toNat ≠ 45) : rowsL (l.drop i) = (rowsL (l.drop (i + 1))).map ((l[i].toNat, l[i].toNat) :: ·) := by
  rw [List.drop_eq_getElem_cons h]
  refine rowsL_one _ _ hb ?_
  intro b c q e
  have h1 : i + 2 < l.length := by
    have := congrArg List.length e
    simp at this
    omega
  have h2 := hn h1
  have e2 := congrArg (fun x => x[0]?) e
  simp [List.getElem?_drop] at e2
  rw [List.getElem?_eq_getElem (by omega)] at e2
  rw [← Option.some.inj e2]
  exact h2
theorem rows_row (l : List UInt8) (i : Nat) (h : i + 2 < l.length) (ha : okb l[i].toNat = true) (hb : l[i + 1].toNat = 45) (hr : rowOk l[i].toNat l[i + 2].toNat = true) : rowsL (l.drop i) = (rowsL (l.drop (i + 3))).map ((l[i].toNat, l[i + 2].toNat) :: ·) := by
  rw [List.drop_eq_getElem_cons (by omega : i < l.length), List.drop_eq_getElem_cons (by omega : i + 1 < l.length), List.drop_eq_getElem_cons (by omega : i + 1 + 1 < l.length)]
  exact rowsL_row _ _ _ _ ha hb hr
theorem rows_norow (l : List UInt8) (i : Nat) (h : i + 2 < l.length) (hb : l[i + 1].toNat = 45) (hr : rowOk l[i].toNat l[i + 2].toNat = false) : rowsL (l.drop i) = none := by
  rw [List.drop_eq_getElem_cons (by omega : i < l.length), List.drop_eq_getElem_cons (by omega : i + 1 < l.length), List.drop_eq_getElem_cons (by omega : i + 1 + 1 < l.length)]
  exact rowsL_norow _ _ _ _ hb hr

def GoodR (p : Nat × Nat) : Prop := okb p.1 = true ∧ okb p.2 = true ∧ p.1 ≤ p.2 ∧ (57 < p.2 ↔ 57 < p.1)
theorem rowOk_good {a c : Nat} (ha : okb a = true) (h : rowOk a c = true) : GoodR (a, c) := by
  simp only [rowOk, Bool.and_eq_true, decide_eq_true_eq, beq_iff_eq] at h
  refine ⟨ha, h.1.1, h.1.2, ?_⟩
  have := h.2
  simpa using this

theorem rowsL_good : ∀ (n : Nat) (l : List UInt8), l.length ≤ n → ∀ rs, rowsL l = some rs → (∀ p ∈ rs, GoodR p) ∧ (l ≠ [] → rs ≠ [])
  | 0, l, hl, rs, h => by
    obtain rfl : l = [] := List.length_eq_zero_iff.1 (by omega)
    simp [rowsL] at h
    subst h
    simp
  | n + 1, l, hl, rs, h => by
    match l, hl, h with
    | [], _, h =>
      simp [rowsL] at h
      subst h
      simp
    | a :: r, hl, h =>
      cases ha : okb a.toNat with
      | false => rw [rowsL_bad a r ha] at h; cases h
      | true =>
        have hg : GoodR (a.toNat, a.toNat) := ⟨ha, ha, Nat.le_refl _, Iff.rfl⟩
        by_cases hc : ∃ b c q, r = b :: c :: q ∧ b.toNat = 45
        · obtain ⟨b, c, q, rfl, hb⟩ := hc
          cases hr : rowOk a.toNat c.toNat with
          | false => rw [rowsL_norow a b c q hb hr] at h; cases h
          | true =>
            rw [rowsL_row a b c q ha hb hr] at h
            cases hq : rowsL q with
            | none => rw [hq] at h; cases h
            | some qs =>
              rw [hq] at h
              obtain rfl := Option.some.inj h
              have ih := rowsL_good n q (by simp at hl; omega) qs hq
              refine ⟨?_, fun _ => by simp⟩
              intro p hp
              rcases List.mem_cons.1 hp with rfl | hp
              · exact rowOk_good ha hr
              · exact ih.1 p hp
        · rw [rowsL_one a r ha (fun b c q e hb => hc ⟨b, c, q, e, hb⟩)] at h
          cases hq : rowsL r with
          | none => rw [hq] at h; cases h
          | some qs =>
            rw [hq] at h
            obtain rfl := Option.some.inj h
            have ih := rowsL_good n r (by simp at hl; omega) qs hq
            refine ⟨?_, fun _ => by simp⟩
            intro p hp
            rcases List.mem_cons.1 hp with rfl | hp
            · exact hg
            · exact ih.1 p hp

/-- Whether a text is a right set; what is in its rows, and in it. -/
def okL (l : List UInt8) : Bool := (rowsL l).isSome && (decide (1 ≤ l.length) && decide (l.length ≤ 12))
def inR (rs : List (Nat × Nat)) (x : Nat) : Bool := rs.any fun p => decide (p.1 ≤ x) && decide (x ≤ p.2)
def inL (l : List UInt8) (x : Nat) : Bool := okL l && inR ((rowsL l).getD []) x

theorem inR_iff (rs : List (Nat × Nat)) (x : Nat) : inR rs x = true ↔ ∃ p ∈ rs, p.1 ≤ x ∧ x ≤ p.2 := by simp [inR]
theorem good_okb {p : Nat × Nat} (h : GoodR p) {x : Nat} (h1 : p.1 ≤ x) (h2 : x ≤ p.2) : okb x = true := by
  obtain ⟨a, b, c, d⟩ := h
  rw [okb_iff] at a b ⊢
  omega
theorem inL_okb {l : List UInt8} {x : Nat} (h : inL l x = true) : okb x = true := by
  rw [inL, Bool.and_eq_true] at h
  obtain ⟨h1, h2⟩ := h
  cases hr : rowsL l with
  | none => rw [okL, hr] at h1; simp at h1
  | some rs =>
    rw [hr] at h2
    obtain ⟨p, hp, h3, h4⟩ := (inR_iff _ _).1 h2
    exact good_okb ((rowsL_good _ l (Nat.le_refl _) rs hr).1 p hp) h3 h4

/- The mask. -/
def pos (n : Nat) : Nat := if n ≤ 57 then n - 48 else n - 97 + 16
def byteP (i : Nat) : Nat := if i < 16 then 48 + i else 97 + (i - 16)
def valid (i : Nat) : Bool := decide (i < 10) || (decide (16 ≤ i) && decide (i < 42))
theorem valid_iff (i : Nat) : valid i = true ↔ i < 10 ∨ (16 ≤ i ∧ i < 42) := by simp [valid]
theorem byteP_pos {n : Nat} (h : okb n = true) : byteP (pos n) = n ∧ valid (pos n) = true := by
  rw [okb_iff] at h
  rw [valid_iff]
  unfold byteP pos
  by_cases h1 : n ≤ 57
  · rw [if_pos h1, if_pos (by omega)]; omega
  · rw [if_neg h1, if_neg (by omega)]; omega
theorem pos_byteP {i : Nat} (h : valid i = true) : pos (byteP i) = i ∧ okb (byteP i) = true := by
  rw [valid_iff] at h
  rw [okb_iff]
  unfold byteP pos
  by_cases h1 : i < 16
  · rw [if_pos h1, if_pos (by omega)]; omega
  · rw [if_neg h1, if_neg (by omega)]; omega
theorem byteP_lt (i : Nat) (h : i < 64) : byteP i < 256 := by
  unfold byteP
  split <;> omega

def rowM (p : Nat × Nat) : Nat := 2 ^ (pos p.2 + 1) - 2 ^ pos p.1
theorem testBit_span (a c i : Nat) (h : a ≤ c) : (2 ^ (c + 1) - 2 ^ a).testBit i = (decide (a ≤ i) && decide (i ≤ c)) := by
  obtain ⟨d, rfl⟩ : ∃ d, c = a + d := ⟨c - a, by omega⟩
  have e : 2 ^ (a + d + 1) - 2 ^ a = 2 ^ a * (2 ^ (d + 1) - 1) := by
    rw [Nat.mul_sub, Nat.mul_one, ← Nat.pow_add, Nat.add_assoc]
  rw [e, Nat.mul_comm, Nat.testBit_mul_two_pow, Nat.testBit_two_pow_sub_one]
  by_cases h1 : a ≤ i
  · simp only [h1, decide_true, Bool.true_and]
    apply decide_eq_decide.2
    omega
  · simp [h1]
theorem good_pos {p : Nat × Nat} (h : GoodR p) : pos p.1 ≤ pos p.2 ∧ pos p.2 < 42 := by
  obtain ⟨a, b, c, d⟩ := h
  rw [okb_iff] at a b
  unfold pos
  split <;> split <;> omega
theorem rowM_bit {p : Nat × Nat} (h : GoodR p) (i : Nat) : (rowM p).testBit i = (valid i && (decide (p.1 ≤ byteP i) && decide (byteP i ≤ p.2))) := by
  rw [rowM, testBit_span _ _ _ (good_pos h).1, Bool.eq_iff_iff]
  obtain ⟨a, b, c, d⟩ := h
  rw [okb_iff] at a b
  simp only [Bool.and_eq_true, decide_eq_true_eq, valid_iff]
  unfold pos byteP
  split <;> split <;> split <;> omega
theorem rowM_pos {p : Nat × Nat} (h : GoodR p) : rowM p ≠ 0 := by
  intro e
  have h1 := rowM_bit h (pos p.1)
  have h2 := byteP_pos h.1
  rw [e, h2.1, h2.2] at h1
  simp [h.2.2.1] at h1

def maskR (rs : List (Nat × Nat)) : Nat := rs.foldl (fun m p => m ||| rowM p) 0
theorem maskR_app (rs : List (Nat × Nat)) (p : Nat × Nat) : maskR (rs ++ [p]) = maskR rs ||| rowM p := by simp [maskR]
theorem fold_bit (rs : List (Nat × Nat)) (m i : Nat) : (rs.foldl (fun m p => m ||| rowM p) m).testBit i = (m.testBit i || rs.any fun p => (rowM p).testBit i) := by
  induction rs generalizing m with
  | nil => simp
  | cons p rs ih => rw [List.foldl_cons, ih, Nat.testBit_or, List.any_cons, Bool.or_assoc]
theorem maskR_bit (rs : List (Nat × Nat)) (hg : ∀ p ∈ rs, GoodR p) (i : Nat) : (maskR rs).testBit i = (valid i && inR rs (byteP i)) := by
  rw [maskR, fold_bit, Nat.zero_testBit, Bool.false_or, Bool.eq_iff_iff, List.any_eq_true, Bool.and_eq_true, inR_iff]
  constructor
  · rintro ⟨p, hp, h⟩
    rw [rowM_bit (hg p hp)] at h
    simp only [Bool.and_eq_true, decide_eq_true_eq] at h
    exact ⟨h.1, p, hp, h.2⟩
  · rintro ⟨hv, p, hp, h⟩
    refine ⟨p, hp, ?_⟩
    rw [rowM_bit (hg p hp)]
    simp [hv, h]
theorem testBit_lt {m : Nat} (h : ∀ i, m.testBit i = true → i < 42) : m < 4398046511104 := by
  have : m < 2 ^ 42 := by
    apply Nat.lt_pow_two_of_testBit
    intro i hi
    cases hb : m.testBit i with
    | false => rfl
    | true => have := h i hb; omega
  simpa using this

/-- A mask stands for a set. -/
def Rep (m : Nat) (f : Nat → Bool) : Prop := ∀ i, m.testBit i = (valid i && f (byteP i))
theorem Rep.lt {m : Nat} {f : Nat → Bool} (h : Rep m f) : m < 4398046511104 := testBit_lt fun i hi => by
  have h1 := h i
  rw [hi] at h1
  have h2 := h1.symm
  rw [Bool.and_eq_true, valid_iff] at h2
  omega
theorem Rep.or {m n : Nat} {f g : Nat → Bool} (h : Rep m f) (k : Rep n g) : Rep (m ||| n) fun x => f x || g x := fun i => by
  rw [Nat.testBit_or, h, k]; cases valid i <;> simp
theorem Rep.and {m n : Nat} {f g : Nat → Bool} (h : Rep m f) (k : Rep n g) : Rep (m &&& n) fun x => f x && g x := fun i => by
  rw [Nat.testBit_and, h, k]; cases valid i <;> simp
theorem Rep.zero : Rep 0 fun _ => false := fun i => by simp
theorem Rep.has {m : Nat} {f : Nat → Bool} (h : Rep m f) (b : Nat) (hb : okb b = true) : m.testBit (pos b) = f b := by
  rw [h, (byteP_pos hb).1, (byteP_pos hb).2, Bool.true_and]

def maskL (l : List UInt8) : Nat := if 12 < l.length then 0 else match rowsL l with
  | none => 0
  | some rs => maskR rs
theorem maskL_rep (l : List UInt8) : Rep (maskL l) (inL l) := by
  intro i
  unfold maskL inL okL
  by_cases h : 12 < l.length
  · rw [if_pos h, decide_eq_false (by omega : ¬ l.length ≤ 12)]; simp
  · rw [if_neg h]
    cases hr : rowsL l with
    | none => simp
    | some rs =>
      have hg := rowsL_good _ l (Nat.le_refl _) rs hr
      rw [maskR_bit rs hg.1 i]
      by_cases h0 : l = []
      · subst h0
        simp [rowsL] at hr
        subst hr
        simp [inR]
      · have h1 : 1 ≤ l.length := by
          cases l with
          | nil => exact absurd rfl h0
          | cons a r => simp
        simp [h1, (by omega : l.length ≤ 12)]
theorem maskL_ok (l : List UInt8) : okL l = (maskL l != 0) := by
  unfold maskL okL
  by_cases h : 12 < l.length
  · rw [if_pos h, decide_eq_false (by omega : ¬ l.length ≤ 12)]; simp
  · rw [if_neg h]
    cases hr : rowsL l with
    | none => simp
    | some rs =>
      have hg := rowsL_good _ l (Nat.le_refl _) rs hr
      by_cases h0 : l = []
      · subst h0
        simp [rowsL] at hr
        subst hr
        simp [maskR]
      · have h1 : 1 ≤ l.length := by
          cases l with
          | nil => exact absurd rfl h0
          | cons a r => simp
        have h2 : maskR rs ≠ 0 := by
          intro e
          obtain ⟨p, hp⟩ := List.exists_mem_of_ne_nil rs (hg.2 h0)
          have hb := maskR_bit rs hg.1 (pos p.1)
          have hgp := hg.1 p hp
          rw [e, (byteP_pos hgp.1).1, (byteP_pos hgp.1).2] at hb
          have h3 : inR rs p.1 = true := (inR_iff _ _).2 ⟨p, hp, Nat.le_refl _, hgp.2.2.1⟩
          simp [h3] at hb
        simp [h1, (by omega : l.length ≤ 12), h2]

end Go.Proofs.YtofpoiccghpliaaGreatDoor
