/- What a climb tells is told again by it, and within parentheses: in pure terms. No program is named. -/
import Derived.Test.YtkojkicfibmjdaaOpC
namespace Go.Proofs.Ytkojkicfibmjdaa
open Go.RowKit
set_option linter.unusedVariables false

/-- Texts that a climb tells: a figure, or two with an operator between, in parentheses. -/
inductive Par (xs : List OpD) : ByteArray → Prop
  | fig (b : UInt8) (h : fig13 b = true) : Par xs ⟨#[b]⟩
  | two (s t : ByteArray) (k : Nat) (hk : k < xs.length) (hs : Par xs s) (ht : Par xs t) : Par xs (two13 s xs[k] t)

theorem sign_of {xs : List OpD} (h : opsB xs = true) {x : OpD} (hx : x ∈ xs) : ∃ b ∈ signs13, x.sign = ⟨#[b]⟩ := by
  unfold opsB at h
  rw [Bool.and_eq_true] at h
  obtain ⟨i, hi, rfl⟩ := List.mem_iff_getElem.1 hx
  have := List.all_eq_true.1 h.1 i (List.mem_range.2 hi)
  rw [List.getD_eq_getElem?_getD, List.getElem?_eq_getElem hi] at this
  have this : op13 xs i xs[i] = true := this
  unfold op13 at this
  simp only [Bool.and_eq_true, decide_eq_true_eq] at this
  have hs := this.1.1
  unfold sign13 at hs
  obtain ⟨b, hb, e⟩ := List.any_eq_true.1 hs
  exact ⟨b, hb, of_decide_eq_true e⟩
theorem find_none {xs : List OpD} (h : opsB xs = true) {b : UInt8} (hb : b ∉ signs13) : ∀ (i : Nat) (ys : List OpD), (∀ y ∈ ys, y ∈ xs) → find13 ⟨#[b]⟩ i ys = none
  | i, [], _ => rfl
  | i, y :: ys, hy => by
    rw [find13, if_neg, find_none h hb (i + 1) ys (fun z hz => hy z (List.mem_cons_of_mem _ hz))]
    intro e
    obtain ⟨c, hc, e2⟩ := sign_of h (hy y (List.mem_cons_self ..))
    rw [e2] at e
    have : b = c := by
      have := congrArg (fun s : ByteArray => s.data.toList) e
      simpa using this
    exact hb (this ▸ hc)
theorem pair_no {xs : List OpD} (h : opsB xs = true) {i j : Nat} (hij : i < j) (hj : j < xs.length) : ¬ xs[i].sign = xs[j].sign := by
  unfold opsB at h
  rw [Bool.and_eq_true] at h
  have := List.all_eq_true.1 h.1 j (List.mem_range.2 hj)
  rw [List.getD_eq_getElem?_getD, List.getElem?_eq_getElem hj] at this
  have this : op13 xs j xs[j] = true := this
  unfold op13 at this
  simp only [Bool.and_eq_true] at this
  have := List.all_eq_true.1 this.2 xs[i] (List.mem_take_iff_getElem.2 ⟨i, by omega, rfl⟩)
  unfold pair13 at this
  simp only [Bool.and_eq_true, Bool.not_eq_true', decide_eq_false_iff_not] at this
  exact this.1
theorem find_at {xs : List OpD} (h : opsB xs = true) {k : Nat} (hk : k < xs.length) : ∀ (m i : Nat), i + m = k → find13 xs[k].sign i (xs.drop i) = some k
  | 0, i, e => by
    have : i = k := by omega
    subst this
    rw [List.drop_eq_getElem_cons hk, find13, if_pos rfl]
  | m + 1, i, e => by
    rw [List.drop_eq_getElem_cons (show i < xs.length by omega), find13, if_neg (fun e' => pair_no h (show i < k by omega) hk e'.symm)]
    exact find_at h hk m (i + 1) (by omega)

/-- The byte at a place of a text put together. -/
theorem cat_at (P s Q : ByteArray) (i : Nat) (h : i < s.size) : byteAt (P ++ s ++ Q) (P.size + i) = byteAt s i := by
  unfold byteAt
  rw [ByteArray.data_append, ByteArray.data_append, Array.toList_append, Array.toList_append, List.getD_eq_getElem?_getD, List.getD_eq_getElem?_getD, List.getElem?_append_left (by simp; omega), List.getElem?_append_right (by simp)]
  congr 2
  simp
theorem ext_one (s : ByteArray) (i : Nat) (h : i < s.size) : s.extract i (i + 1) = ⟨#[byteAt s i]⟩ := by
  apply ByteArray.ext
  rw [ByteArray.data_extract, ← Array.toList_inj, Array.toList_extract]
  have hl : i < s.data.toList.length := by simpa using h
  unfold byteAt
  rw [List.getD_eq_getElem?_getD, List.getElem?_eq_getElem hl]
  simp only [List.extract, Option.getD_some]
  rw [List.drop_eq_getElem_cons hl, show i + 1 - i = 1 by omega]
  rfl
theorem next_at {xs : List OpD} {text : ByteArray} {n : Nat} (h : n < text.size) : next13 xs text ⟨n, false⟩ = find13 ⟨#[byteAt text n]⟩ 0 xs := by
  unfold next13
  rw [if_neg (by rintro (h' | h'); cases h'; exact absurd h' (by show ¬ text.size ≤ n; omega)), ext_one text n h]
theorem next_end {xs : List OpD} {text : ByteArray} {n : Nat} (h : text.size ≤ n) : next13 xs text ⟨n, false⟩ = none := if_pos (.inr h)

/-- What is told is read back, wherever it stands. -/
theorem par_back {xs : List OpD} (ho : opsB xs = true) {s : ByteArray} (hs : Par xs s) : ∀ (P Q : ByteArray) (f : Nat), 3 * s.size + 1 ≤ f → clF xs (P ++ s ++ Q) f .atom ⟨P.size, false⟩ = (⟨P.size + s.size, false⟩, s) := by
  induction hs with
  | fig b hb =>
    intro P Q f hf
    obtain ⟨f, rfl⟩ : ∃ g, f = g + 1 := ⟨f - 1, by omega⟩
    have hsz : (⟨#[b]⟩ : ByteArray).size = 1 := rfl
    have hlt : P.size < (P ++ ⟨#[b]⟩ ++ Q).size := by rw [ByteArray.size_append, ByteArray.size_append]; omega
    have hby : byteAt (P ++ ⟨#[b]⟩ ++ Q) P.size = b := by
      have := cat_at P ⟨#[b]⟩ Q 0 (by omega)
      rw [Nat.add_zero] at this
      rw [this]; rfl
    rw [clF, if_neg (by rintro (h | h); cases h; exact absurd h (by show ¬ _ ≤ P.size; omega))]
    show (if fig13 (byteAt (P ++ ⟨#[b]⟩ ++ Q) P.size) = true then _ else _) = _
    rw [hby, if_pos hb, ext_one _ _ hlt, hby]
    rfl
  | two s t k hk hs ht ihs iht =>
    intro P Q f hf
    obtain ⟨hsg, hl1, hl9⟩ := sign_one ho (List.getElem_mem hk)
    obtain ⟨c, hc, hcs⟩ := sign_of ho (List.getElem_mem hk)
    have e40 : (⟨#[40]⟩ : ByteArray).size = 1 := rfl
    have e41 : (⟨#[41]⟩ : ByteArray).size = 1 := rfl
    have hz : (two13 s xs[k] t).size = s.size + t.size + 3 := by
      unfold two13
      simp only [ByteArray.size_append, hsg]
      omega
    rw [hz] at hf
    have hTs : P ++ two13 s xs[k] t ++ Q = (P ++ ⟨#[40]⟩) ++ s ++ (xs[k].sign ++ t ++ ⟨#[41]⟩ ++ Q) := by simp only [two13, ByteArray.append_assoc]
    have hTt : P ++ two13 s xs[k] t ++ Q = (P ++ ⟨#[40]⟩ ++ s ++ xs[k].sign) ++ t ++ (⟨#[41]⟩ ++ Q) := by simp only [two13, ByteArray.append_assoc]
    have hT0 : P ++ two13 s xs[k] t ++ Q = P ++ ⟨#[40]⟩ ++ (s ++ xs[k].sign ++ t ++ ⟨#[41]⟩ ++ Q) := by simp only [two13, ByteArray.append_assoc]
    have hT1 : P ++ two13 s xs[k] t ++ Q = (P ++ ⟨#[40]⟩ ++ s) ++ xs[k].sign ++ (t ++ ⟨#[41]⟩ ++ Q) := by simp only [two13, ByteArray.append_assoc]
    have hT2 : P ++ two13 s xs[k] t ++ Q = (P ++ ⟨#[40]⟩ ++ s ++ xs[k].sign ++ t) ++ ⟨#[41]⟩ ++ Q := by simp only [two13, ByteArray.append_assoc]
    have hsz : (P ++ two13 s xs[k] t ++ Q).size = P.size + (s.size + t.size + 3) + Q.size := by rw [ByteArray.size_append, ByteArray.size_append, hz]
    have b0 : byteAt (P ++ two13 s xs[k] t ++ Q) P.size = 40 := by
      have := cat_at P ⟨#[40]⟩ (s ++ xs[k].sign ++ t ++ ⟨#[41]⟩ ++ Q) 0 (by omega)
      rw [Nat.add_zero, ← hT0] at this
      rw [this]; rfl
    have b1 : byteAt (P ++ two13 s xs[k] t ++ Q) (P.size + 1 + s.size) = c := by
      have := cat_at (P ++ ⟨#[40]⟩ ++ s) xs[k].sign (t ++ ⟨#[41]⟩ ++ Q) 0 (by omega)
      rw [Nat.add_zero, ← hT1, ByteArray.size_append, ByteArray.size_append, e40] at this
      rw [this, hcs]; rfl
    have b2 : byteAt (P ++ two13 s xs[k] t ++ Q) (P.size + 1 + s.size + 1 + t.size) = 41 := by
      have := cat_at (P ++ ⟨#[40]⟩ ++ s ++ xs[k].sign ++ t) ⟨#[41]⟩ Q 0 (by omega)
      rw [Nat.add_zero, ← hT2] at this
      simp only [ByteArray.size_append, e40, hsg] at this
      rw [this]; rfl
    have is : ∀ g, 3 * s.size + 1 ≤ g → clF xs (P ++ two13 s xs[k] t ++ Q) g .atom ⟨P.size + 1, false⟩ = (⟨P.size + 1 + s.size, false⟩, s) := fun g hg => by
      have := ihs (P ++ ⟨#[40]⟩) (xs[k].sign ++ t ++ ⟨#[41]⟩ ++ Q) g hg
      rw [← hTs, ByteArray.size_append, e40] at this
      exact this
    have it : ∀ g, 3 * t.size + 1 ≤ g → clF xs (P ++ two13 s xs[k] t ++ Q) g .atom ⟨P.size + 1 + s.size + 1, false⟩ = (⟨P.size + 1 + s.size + 1 + t.size, false⟩, t) := fun g hg => by
      have := iht (P ++ ⟨#[40]⟩ ++ s ++ xs[k].sign) (⟨#[41]⟩ ++ Q) g hg
      rw [← hTt] at this
      simp only [ByteArray.size_append, e40, hsg] at this
      exact this
    have nk : next13 xs (P ++ two13 s xs[k] t ++ Q) ⟨P.size + 1 + s.size, false⟩ = some k := by
      rw [next_at (by omega), b1, ← hcs]
      exact find_at ho hk k 0 (by omega)
    have ne : next13 xs (P ++ two13 s xs[k] t ++ Q) ⟨P.size + 1 + s.size + 1 + t.size, false⟩ = none := by
      rw [next_at (by omega), b2]
      exact find_none ho (by decide) 0 xs (fun y hy => hy)
    generalize P ++ two13 s xs[k] t ++ Q = T at *
    have lo : ∀ (g : Nat) (l : Int) (u : ByteArray), 1 ≤ g → clF xs T g (.loop l u) ⟨P.size + 1 + s.size + 1 + t.size, false⟩ = (⟨P.size + 1 + s.size + 1 + t.size, false⟩, u) := fun g l u hg => by
      obtain ⟨g, rfl⟩ : ∃ h, g = h + 1 := ⟨g - 1, by omega⟩
      rw [clF, ne]
    have c2 : ∀ (g : Nat) (l : Int), 3 * t.size + 2 ≤ g → clF xs T g (.climb l) ⟨P.size + 1 + s.size + 1, false⟩ = (⟨P.size + 1 + s.size + 1 + t.size, false⟩, t) := fun g l hg => by
      obtain ⟨g, rfl⟩ : ∃ h, g = h + 1 := ⟨g - 1, by omega⟩
      rw [clF, it g (by omega)]
      exact lo g l t (by omega)
    have c1 : ∀ (g : Nat), 3 * s.size + 3 * t.size + 6 ≤ g → clF xs T g (.climb 0) ⟨P.size + 1, false⟩ = (⟨P.size + 1 + s.size + 1 + t.size, false⟩, two13 s xs[k] t) := fun g hg => by
      obtain ⟨g, rfl⟩ : ∃ h, g = h + 2 := ⟨g - 2, by omega⟩
      rw [clF, is (g + 1) (by omega)]
      show clF xs T (g + 1) (.loop 0 s) ⟨P.size + 1 + s.size, false⟩ = _
      rw [clF, nk]
      simp only [getD_is hk]
      rw [if_neg (by omega), c2 g _ (by omega)]
      simp only []
      rw [if_neg (by decide)]
      exact lo g 0 _ (by omega)
    obtain ⟨f, rfl⟩ : ∃ g, f = g + 1 := ⟨f - 1, by omega⟩
    rw [clF, if_neg (by rintro (h | h); cases h; exact absurd h (by show ¬ _ ≤ P.size; omega))]
    show (if fig13 (byteAt T P.size) = true then _ else if ¬ byteAt T P.size = 40 then _ else _) = _
    rw [b0, if_neg (by decide), if_neg (by decide)]
    show (match clF xs T f (.climb 0) ⟨P.size + 1, false⟩ with | (d, s) => _) = _
    rw [c1 f (by omega)]
    simp only []
    rw [if_neg, hz]
    · congr 2
      omega
    · rintro (h | h | h)
      · cases h
      · omega
      · exact h b2

/-- What a climb tells, where it went well. -/
theorem clF_par {xs : List OpD} (ho : opsB xs = true) (text : ByteArray) : ∀ (f : Nat) (k : ClK) (c : ClD), c.at' ≤ text.size → (match k with | .loop _ s => Par xs s | _ => True) → (clF xs text f k c).1.bad = false → Par xs (clF xs text f k c).2
  | 0, k, c, _, _, h => by cases h
  | f + 1, .atom, c, hc, _, h => by
    rw [clF] at h ⊢
    split at h
    · cases h
    · rename_i h1
      rw [if_neg h1]
      have h2 : c.at' < text.size := by omega
      split at h
      · rename_i h3
        rw [if_pos h3]
        show Par xs (text.extract c.at' (c.at' + 1))
        rw [ext_one text c.at' h2]
        exact .fig _ h3
      · rename_i h3
        rw [if_neg h3]
        split at h
        · cases h
        · rename_i h4
          rw [if_neg h4]
          have ih := clF_par ho text f (.climb 0) ⟨c.at' + 1, c.bad⟩ (by show c.at' + 1 ≤ _; omega) trivial
          generalize clF xs text f (.climb 0) ⟨c.at' + 1, c.bad⟩ = q at *
          obtain ⟨d, s⟩ := q
          simp only [] at h ⊢
          split at h
          · cases h
          · rename_i h5
            rw [if_neg h5]
            exact ih (by cases hb : d.bad; rfl; exact absurd (.inl hb) h5)
  | f + 1, .climb least, c, hc, _, h => by
    rw [clF] at h ⊢
    have ih := clF_par ho text f .atom c hc trivial
    have hI := clF_inv ho text f .atom c hc
    generalize clF xs text f .atom c = q at *
    obtain ⟨d, s⟩ := q
    simp only [] at h ⊢
    have hd : d.at' ≤ text.size := hI.2.1
    by_cases hb : d.bad = true
    · exfalso
      cases f with
      | zero => cases h
      | succ f =>
        rw [clF] at h
        have : next13 xs text d = none := if_pos (.inl hb)
        rw [this] at h
        simp only [] at h
        rw [hb] at h
        cases h
    · exact clF_par ho text f (.loop least s) d hd (ih (by simpa using hb)) h
  | f + 1, .loop least s, c, hc, hs, h => by
    rw [clF] at h ⊢
    cases hn : next13 xs text c with
    | none =>
      simp only []
      exact hs
    | some k =>
      rw [hn] at h
      obtain ⟨k1, k2, k3⟩ := next13_lt hn
      simp only [getD_is k1] at h ⊢
      split at h
      · rename_i h1
        rw [if_pos h1]
        exact hs
      · rename_i h1
        rw [if_neg h1]
        have ih := clF_par ho text f (.climb (lev13 xs[k])) ⟨c.at' + 1, c.bad⟩ (by show c.at' + 1 ≤ _; omega) trivial
        have hI := clF_inv ho text f (.climb (lev13 xs[k])) ⟨c.at' + 1, c.bad⟩ (by show c.at' + 1 ≤ _; omega)
        generalize clF xs text f (.climb (lev13 xs[k])) ⟨c.at' + 1, c.bad⟩ = q at *
        obtain ⟨d, t⟩ := q
        simp only [] at h ⊢
        have hd : d.at' ≤ text.size := hI.2.1
        split at h
        · rename_i h2
          rw [h2] at h
          cases h
        · rename_i h2
          rw [if_neg h2]
          exact clF_par ho text f (.loop least (two13 s xs[k] t)) d hd (.two s t k k1 hs (ih (by simpa using h2))) h

end Go.Proofs.Ytkojkicfibmjdaa
