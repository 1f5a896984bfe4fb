/- Names in order: the plain mathematics of lists of names with numbers. -/
import Derived.Test.YtbpfapjchmignaaDoorEnvSet
namespace Go.Proofs.YtbpfapjchmignaaDoor
open Go.RowKit

theorem bl_irrefl : ∀ (x : List UInt8), Op.bytesLess x x = false
  | [] => rfl
  | a :: x => by simp [Op.bytesLess, bl_irrefl x, UInt8.lt_irrefl]
theorem bl_trans : ∀ (x y z : List UInt8), Op.bytesLess x y = true → Op.bytesLess y z = true → Op.bytesLess x z = true
  | _, [], _, h, _ => by cases ‹List UInt8› <;> simp [Op.bytesLess] at h
  | _, _ :: _, [], _, h => by simp [Op.bytesLess] at h
  | [], _ :: _, _ :: _, _, _ => rfl
  | a :: x, b :: y, c :: z, h, k => by
    simp only [Op.bytesLess, Bool.or_eq_true, decide_eq_true_eq, Bool.and_eq_true, beq_iff_eq] at h k ⊢
    rcases h with h | ⟨rfl, h⟩
    · rcases k with k | ⟨rfl, k⟩
      · exact .inl (UInt8.lt_trans h k)
      · exact .inl h
    · rcases k with k | ⟨rfl, k⟩
      · exact .inl k
      · exact .inr ⟨rfl, bl_trans x y z h k⟩
theorem bl_tri : ∀ (x y : List UInt8), Op.bytesLess x y = true ∨ x = y ∨ Op.bytesLess y x = true
  | [], [] => .inr (.inl rfl)
  | [], _ :: _ => .inl rfl
  | _ :: _, [] => .inr (.inr rfl)
  | a :: x, b :: y => by
    simp only [Op.bytesLess, Bool.or_eq_true, decide_eq_true_eq, Bool.and_eq_true, beq_iff_eq, List.cons.injEq]
    rcases Nat.lt_trichotomy a.toNat b.toNat with h | h | h
    · exact .inl (.inl h)
    · have e : a = b := UInt8.toNat_inj.1 h
      subst e
      rcases bl_tri x y with h | h | h
      · exact .inl (.inr ⟨rfl, h⟩)
      · exact .inr (.inl ⟨rfl, h⟩)
      · exact .inr (.inr (.inr ⟨rfl, h⟩))
    · exact .inr (.inr (.inl h))

theorem toList_inj {a b : ByteArray} (h : a.toList = b.toList) : a = b := by
  rw [ByteArray.toList_eq, ByteArray.toList_eq] at h
  exact ByteArray.ext (Array.toList_inj.1 h)
theorem lt_irrefl (a : ByteArray) : ltS a a = false := bl_irrefl _
theorem lt_trans' {a b c : ByteArray} (h : ltS a b = true) (k : ltS b c = true) : ltS a c = true := bl_trans _ _ _ h k
theorem lt_ne {a b : ByteArray} (h : ltS a b = true) : a ≠ b := by
  intro e; subst e; rw [lt_irrefl] at h; cases h
theorem lt_asymm' {a b : ByteArray} (h : ltS a b = true) : ltS b a = false := by
  cases hh : ltS b a with
  | false => rfl
  | true => have := lt_trans' h hh; rw [lt_irrefl] at this; cases this
theorem lt_tri (a b : ByteArray) : ltS a b = true ∨ a = b ∨ ltS b a = true := by
  rcases bl_tri a.toList b.toList with h | h | h
  · exact .inl h
  · exact .inr (.inl (toList_inj h))
  · exact .inr (.inr h)
theorem gt_iff (a b : ByteArray) : gtS a b = ltS b a := by
  unfold gtS
  rw [bytes_beq]
  rcases lt_tri a b with h | h | h
  · rw [show Op.bytesLess a.toList b.toList = true from h, lt_asymm' h]; rfl
  · subst h; rw [show Op.bytesLess a.toList a.toList = false from lt_irrefl a, lt_irrefl]; simp
  · rw [show Op.bytesLess a.toList b.toList = false from lt_asymm' h, h]
    simp only [Bool.false_or, Bool.not_eq_true', decide_eq_false_iff_not]
    exact fun e => lt_ne h e.symm

/-- Right behind a name, ascending: as a plain statement. -/
def After (p : Option ByteArray) (s : ByteArray) : Prop := match p with | none => True | some q => ltS q s = true
theorem stepOk_iff (p : Option ByteArray) (x : VarD) : stepOk p x = true ↔ nameB x.1 = true ∧ (-9999 ≤ x.2 ∧ x.2 ≤ 9999) ∧ After p x.1 := by
  unfold stepOk After
  cases p <;> simp [ltS, and_assoc]
theorem After.trans {p : Option ByteArray} {a b : ByteArray} (h : After p a) (k : ltS a b = true) : After p b := by
  cases p with
  | none => trivial
  | some q => exact lt_trans' h k

/-- All names of a right list come behind what it comes behind. -/
theorem chain_all : ∀ (xs : List VarD) (p : Option ByteArray), chainB p xs = true → ∀ x ∈ xs, nameB x.1 = true ∧ (-9999 ≤ x.2 ∧ x.2 ≤ 9999) ∧ After p x.1
  | [], _, _, _, hx => by cases hx
  | y :: ys, p, h, x, hx => by
    simp only [chainB, Bool.and_eq_true, stepOk_iff] at h
    rcases List.mem_cons.1 hx with rfl | hx
    · exact h.1
    · have := chain_all ys (some y.1) h.2 x hx
      exact ⟨this.1, this.2.1, h.1.2.2.trans this.2.2⟩

theorem filter_all {p : VarD → Bool} : ∀ {xs : List VarD}, (∀ x ∈ xs, p x = true) → xs.filter p = xs
  | [], _ => rfl
  | x :: xs, h => by rw [List.filter_cons, if_pos (h x (List.mem_cons_self ..)), filter_all (fun y hy => h y (List.mem_cons_of_mem _ hy))]
theorem filter_no {p : VarD → Bool} : ∀ {xs : List VarD}, (∀ x ∈ xs, p x = false) → xs.filter p = []
  | [], _ => rfl
  | x :: xs, h => by rw [List.filter_cons, if_neg (by rw [h x (List.mem_cons_self ..)]; simp), filter_no (fun y hy => h y (List.mem_cons_of_mem _ hy))]

theorem putB_nil (name : ByteArray) (num : Int) : putB [] name num = [(name, num)] := rfl
theorem putB_lt {x : VarD} {xs : List VarD} {name : ByteArray} {num : Int} (h : ltS x.1 name = true) : putB (x :: xs) name num = x :: putB xs name num := by
  have h2 : gtS x.1 name = false := by rw [gt_iff]; exact lt_asymm' h
  simp [putB, h, h2]
/-- Where the first is not less, none of a right list is. -/
theorem putB_ge {x : VarD} {xs : List VarD} {p : Option ByteArray} {name : ByteArray} {num : Int} (hc : chainB p (x :: xs) = true) (h : ltS x.1 name = false) :
    putB (x :: xs) name num = (name, num) :: (if x.1 = name then xs else x :: xs) := by
  simp only [chainB, Bool.and_eq_true] at hc
  have hall := chain_all xs (some x.1) hc.2
  have hle : x.1 = name ∨ ltS name x.1 = true := by
    rcases lt_tri x.1 name with k | k | k
    · rw [h] at k; cases k
    · exact .inl k
    · exact .inr k
  have hgt : ∀ y ∈ xs, ltS name y.1 = true := fun y hy => by
    have := (hall y hy).2.2
    rcases hle with rfl | k
    · exact this
    · exact lt_trans' k this
  have e1 : (x :: xs).filter (fun y => ltS y.1 name) = [] := filter_no (fun y hy => by
    rcases List.mem_cons.1 hy with rfl | hy
    · exact h
    · exact lt_asymm' (hgt y hy))
  have e2 : xs.filter (fun y => gtS y.1 name) = xs := filter_all (fun y hy => by rw [gt_iff]; exact hgt y hy)
  unfold putB
  rw [e1]
  rcases hle with k | k
  · rw [if_pos k, List.filter_cons, if_neg (by rw [gt_iff, k, lt_irrefl]; simp), e2]; rfl
  · rw [if_neg (fun e => lt_ne k e.symm), List.filter_cons, if_pos (by rw [gt_iff]; exact k), e2]; rfl

/-- A right list with a name put into it is right. -/
theorem chain_put : ∀ (xs : List VarD) (p : Option ByteArray) (name : ByteArray) (num : Int), chainB p xs = true → nameB name = true → -9999 ≤ num ∧ num ≤ 9999 → After p name → chainB p (putB xs name num) = true
  | [], p, name, num, _, hn, hr, ha => by
    simp only [putB_nil, chainB, Bool.and_true, stepOk_iff]
    exact ⟨hn, hr, ha⟩
  | x :: xs, p, name, num, hc, hn, hr, ha => by
    have hc0 := hc
    simp only [chainB, Bool.and_eq_true] at hc
    cases h : ltS x.1 name with
    | true =>
      rw [putB_lt h]
      simp only [chainB, Bool.and_eq_true]
      exact ⟨hc.1, chain_put xs (some x.1) name num hc.2 hn hr h⟩
    | false =>
      rw [putB_ge hc0 h]
      have h1 : stepOk p (name, num) = true := (stepOk_iff _ _).2 ⟨hn, hr, ha⟩
      by_cases e : x.1 = name
      · rw [if_pos e]
        subst e
        simp only [chainB, Bool.and_eq_true]
        exact ⟨h1, hc.2⟩
      · rw [if_neg e]
        have k : ltS name x.1 = true := by
          rcases lt_tri x.1 name with k | k | k
          · rw [h] at k; cases k
          · exact absurd k e
          · exact k
        have hx := (stepOk_iff _ _).1 hc.1
        simp only [chainB, Bool.and_eq_true]
        exact ⟨h1, (stepOk_iff _ _).2 ⟨hx.1, hx.2.1, k⟩, hc.2⟩

theorem put_len : ∀ (xs : List VarD) (p : Option ByteArray) (name : ByteArray) (num : Int), chainB p xs = true → (putB xs name num).length ≤ xs.length + 1
  | [], _, _, _, _ => Nat.le_refl _
  | x :: xs, p, name, num, hc => by
    cases h : ltS x.1 name with
    | true =>
      simp only [chainB, Bool.and_eq_true] at hc
      have := put_len xs (some x.1) name num hc.2
      rw [putB_lt h, List.length_cons, List.length_cons]
      omega
    | false =>
      rw [putB_ge hc h, List.length_cons]
      split
      · rw [List.length_cons]; omega
      · exact Nat.le_refl _

/-- What is set is got. -/
theorem get_put : ∀ (xs : List VarD) (p : Option ByteArray) (name : ByteArray) (num : Int), chainB p xs = true → getB (putB xs name num) name = some num
  | [], _, name, num, _ => by simp [putB_nil, getB]
  | x :: xs, p, name, num, hc => by
    cases h : ltS x.1 name with
    | true =>
      simp only [chainB, Bool.and_eq_true] at hc
      rw [putB_lt h, getB, if_neg (lt_ne h)]
      exact get_put xs (some x.1) name num hc.2
    | false => rw [putB_ge hc h, getB, if_pos rfl]
/-- All else stays. -/
theorem get_other : ∀ (xs : List VarD) (p : Option ByteArray) (name : ByteArray) (num : Int) (k : ByteArray), chainB p xs = true → k ≠ name → getB (putB xs name num) k = getB xs k
  | [], _, name, num, k, _, hk => by simp [putB_nil, getB, Ne.symm hk]
  | x :: xs, p, name, num, k, hc, hk => by
    cases h : ltS x.1 name with
    | true =>
      simp only [chainB, Bool.and_eq_true] at hc
      rw [putB_lt h, getB, getB, get_other xs (some x.1) name num k hc.2 hk]
    | false =>
      rw [putB_ge hc h, getB, if_neg (fun e => hk e.symm)]
      by_cases e : x.1 = name
      · rw [if_pos e, getB, if_neg (fun e2 => hk (by rw [← e2]; exact e))]
      · rw [if_neg e]
/-- Each of a right list is got. -/
theorem get_mem : ∀ (xs : List VarD) (p : Option ByteArray), chainB p xs = true → ∀ x ∈ xs, getB xs x.1 = some x.2
  | [], _, _, _, hx => by cases hx
  | y :: ys, p, hc, x, hx => by
    simp only [chainB, Bool.and_eq_true] at hc
    rcases List.mem_cons.1 hx with rfl | hx
    · rw [getB, if_pos rfl]
    · have := (chain_all ys (some y.1) hc.2 x hx).2.2
      rw [getB, if_neg (lt_ne this)]
      exact get_mem ys (some y.1) hc.2 x hx
theorem put_mem {xs : List VarD} {name : ByteArray} {num : Int} {x : VarD} (h : x ∈ putB xs name num) : x ∈ xs ∨ x = (name, num) := by
  rw [putB] at h
  rcases List.mem_append.1 h with h | h
  · rcases List.mem_append.1 h with h | h
    · exact .inl (List.mem_filter.1 h).1
    · exact .inr (by simpa using h)
  · exact .inl (List.mem_filter.1 h).1

end Go.Proofs.YtbpfapjchmignaaDoor
