/- The specification's Climb: the climber behind its pointer, op, atom and climb, by fuel. -/
import Derived.Test.YtkojkicfibmjdaaOpS
import Derived.Test.YtkojkicfibmjdaaFrK
import Derived.Deep.LoopGhost
import Derived.BigQuiet
namespace Go.Proofs.Ytkojkicfibmjdaa
open Go.RowKit
set_option linter.unusedVariables false

theorem sign_one {xs : List OpD} (h : opsB xs = true) {x : OpD} (hx : x ∈ xs) : x.sign.size = 1 ∧ 1 ≤ x.level ∧ x.level ≤ 9 := by
  unfold opsB at h
  rw [Bool.and_eq_true] at h
  obtain ⟨i, hi, rfl⟩ := List.mem_iff_getElem.1 hx
  have := List.all_eq_true.1 h.1 i (List.mem_range.2 hi)
  rw [List.getD_eq_getElem?_getD, List.getElem?_eq_getElem hi] at this
  have this : op13 xs i xs[i] = true := this
  unfold op13 at this
  simp only [Bool.and_eq_true, decide_eq_true_eq] at this
  refine ⟨?_, this.1.2.1, this.1.2.2⟩
  have hs := this.1.1
  unfold sign13 at hs
  obtain ⟨b, _, hb⟩ := List.any_eq_true.1 hs
  rw [of_decide_eq_true hb]
  rfl
theorem ops_len {xs : List OpD} (h : opsB xs = true) : 1 ≤ xs.length ∧ xs.length ≤ 6 := by
  unfold opsB at h
  rw [Bool.and_eq_true] at h
  exact of_decide_eq_true h.2
theorem find13_lt (s : ByteArray) : ∀ (i : Nat) (xs : List OpD) (k : Nat), find13 s i xs = some k → i ≤ k ∧ k < i + xs.length
  | i, [], k, h => by cases h
  | i, x :: xs, k, h => by
    rw [find13] at h
    split at h
    · cases h; simp
    · have := find13_lt s (i + 1) xs k h
      simp only [List.length_cons]
      omega
theorem next13_lt {xs : List OpD} {text : ByteArray} {c : ClD} {k : Nat} (h : next13 xs text c = some k) : k < xs.length ∧ c.bad = false ∧ c.at' < text.size := by
  unfold next13 at h
  split at h
  · cases h
  · rename_i hc
    have := find13_lt _ _ _ _ h
    refine ⟨by omega, ?_, by omega⟩
    cases hb : c.bad
    · rfl
    · exact absurd (.inl hb) hc
theorem getD_is {xs : List OpD} {k : Nat} (h : k < xs.length) : xs.getD k default = xs[k] := by rw [List.getD_eq_getElem?_getD, List.getElem?_eq_getElem h]; rfl
def baseK : ClK → Nat
  | .loop _ s => s.size
  | _ => 0
/-- A climb goes on, stays in the text, and tells no more than four bytes for each that it takes. -/
theorem clF_inv {xs : List OpD} (ho : opsB xs = true) (text : ByteArray) : ∀ (f : Nat) (k : ClK) (c : ClD), c.at' ≤ text.size →
    c.at' ≤ (clF xs text f k c).1.at' ∧ (clF xs text f k c).1.at' ≤ text.size ∧ (clF xs text f k c).2.size ≤ baseK k + 4 * ((clF xs text f k c).1.at' - c.at')
  | 0, k, c, h => ⟨Nat.le_refl _, h, Nat.zero_le _⟩
  | f + 1, .atom, c, h => by
    rw [clF]
    have e0 : (⟨#[]⟩ : ByteArray).size = 0 := rfl
    split
    · exact ⟨Nat.le_refl _, h, Nat.zero_le _⟩
    · rename_i h1
      have h2 : c.at' < text.size := by omega
      split
      · refine ⟨by simp, by show c.at' + 1 ≤ _; omega, ?_⟩
        rw [ByteArray.size_extract]
        show _ ≤ 0 + 4 * (c.at' + 1 - c.at')
        omega
      · split
        · exact ⟨by simp, by show c.at' + 1 ≤ _; omega, Nat.zero_le _⟩
        · have ih := clF_inv ho text f (.climb 0) ⟨c.at' + 1, c.bad⟩ (by show c.at' + 1 ≤ _; omega)
          generalize clF xs text f (.climb 0) ⟨c.at' + 1, c.bad⟩ = q at *
          obtain ⟨d, s⟩ := q
          obtain ⟨i1, i2, i3⟩ := ih
          have i1 : c.at' + 1 ≤ d.at' := i1
          have i2 : d.at' ≤ text.size := i2
          have i3 : s.size ≤ 0 + 4 * (d.at' - (c.at' + 1)) := i3
          simp only []
          split
          · exact ⟨by show c.at' ≤ d.at'; omega, i2, Nat.zero_le _⟩
          · rename_i h3
            refine ⟨by show c.at' ≤ d.at' + 1; omega, by show d.at' + 1 ≤ _; omega, ?_⟩
            show s.size ≤ 0 + 4 * (d.at' + 1 - c.at')
            omega
  | f + 1, .climb least, c, h => by
    rw [clF]
    have ih := clF_inv ho text f .atom c h
    generalize clF xs text f .atom c = q at *
    obtain ⟨d, s⟩ := q
    obtain ⟨i1, i2, i3⟩ := ih
    have i1 : c.at' ≤ d.at' := i1
    have i3 : s.size ≤ 0 + 4 * (d.at' - c.at') := i3
    have ih := clF_inv ho text f (.loop least s) d i2
    simp only []
    obtain ⟨j1, j2, j3⟩ := ih
    have j3 : (clF xs text f (.loop least s) d).2.size ≤ s.size + 4 * ((clF xs text f (.loop least s) d).1.at' - d.at') := j3
    refine ⟨by omega, j2, ?_⟩
    show _ ≤ 0 + _
    omega
  | f + 1, .loop least s, c, h => by
    rw [clF]
    cases hn : next13 xs text c with
    | none =>
      simp only []
      exact ⟨Nat.le_refl _, h, by show s.size ≤ s.size + _; omega⟩
    | some k =>
      obtain ⟨k1, k2, k3⟩ := next13_lt hn
      have hs := (sign_one ho (List.getElem_mem k1)).1
      simp only [getD_is k1]
      split
      · exact ⟨Nat.le_refl _, h, by show s.size ≤ s.size + _; omega⟩
      · have ih := clF_inv ho text f (.climb (lev13 xs[k])) ⟨c.at' + 1, c.bad⟩ (by show c.at' + 1 ≤ _; omega)
        generalize clF xs text f (.climb (lev13 xs[k])) ⟨c.at' + 1, c.bad⟩ = q at *
        obtain ⟨d, t⟩ := q
        obtain ⟨i1, i2, i3⟩ := ih
        have i1 : c.at' + 1 ≤ d.at' := i1
        have i2 : d.at' ≤ text.size := i2
        have i3 : t.size ≤ 0 + 4 * (d.at' - (c.at' + 1)) := i3
        simp only []
        split
        · exact ⟨by show c.at' ≤ d.at'; omega, i2, Nat.zero_le _⟩
        · have ih := clF_inv ho text f (.loop least (two13 s xs[k] t)) d i2
          obtain ⟨j1, j2, j3⟩ := ih
          have e : (two13 s xs[k] t).size = s.size + t.size + 3 := by
            unfold two13
            simp only [ByteArray.size_append, hs]
            have e1 : (⟨#[40]⟩ : ByteArray).size = 1 := rfl
            have e2 : (⟨#[41]⟩ : ByteArray).size = 1 := rfl
            omega
          have j3 : (clF xs text f (.loop least (two13 s xs[k] t)) d).2.size ≤ (two13 s xs[k] t).size + 4 * ((clF xs text f (.loop least (two13 s xs[k] t)) d).1.at' - d.at') := j3
          refine ⟨by omega, j2, ?_⟩
          show _ ≤ s.size + _
          omega

end Go.Proofs.Ytkojkicfibmjdaa
