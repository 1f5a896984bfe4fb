/- A climb that goes well goes the same within parentheses, and of what it tells: in pure terms. No program is named. -/
import Derived.Test.YtkojkicfibmjdaaOpQ
namespace Go.Proofs.Ytkojkicfibmjdaa
open Go.RowKit
set_option linter.unusedVariables false

/-- The same climb, with something ahead and a closing parenthesis behind, and more fuel. -/
theorem clF_sim {xs : List OpD} (ho : opsB xs = true) (text P Q : ByteArray) : ∀ (f g : Nat) (k : ClK) (c : ClD), f ≤ g → c.at' ≤ text.size → (clF xs text f k c).1.bad = false →
    clF xs (P ++ text ++ (⟨#[41]⟩ ++ Q)) g k ⟨P.size + c.at', c.bad⟩ = (⟨P.size + (clF xs text f k c).1.at', false⟩, (clF xs text f k c).2)
  | 0, _, _, _, _, _, h => by cases h
  | f + 1, 0, _, _, hg, _, _ => absurd hg (by omega)
  | f + 1, g + 1, .atom, c, hg, hc, h => by
    have hsz : (P ++ text ++ (⟨#[41]⟩ ++ Q)).size = P.size + text.size + (1 + Q.size) := by rw [ByteArray.size_append, ByteArray.size_append, ByteArray.size_append]; rfl
    rw [clF] at h
    rw [clF, clF]
    split at h
    · cases h
    · rename_i h1
      have h2 : c.at' < text.size := by omega
      have hb : c.bad = false := by cases hb : c.bad; rfl; exact absurd (.inl hb) h1
      rw [if_neg (by rintro (h' | h'); exact h1 (.inl h'); exact absurd h' (by show ¬ _ ≤ P.size + c.at'; omega)), if_neg h1]
      show (if fig13 (byteAt (P ++ text ++ (⟨#[41]⟩ ++ Q)) (P.size + c.at')) = true then _ else if ¬ byteAt (P ++ text ++ (⟨#[41]⟩ ++ Q)) (P.size + c.at') = 40 then _ else _) = _
      rw [cat_at P text (⟨#[41]⟩ ++ Q) c.at' h2]
      split at h
      · rename_i h3
        rw [if_pos h3, if_pos h3, ext_one _ _ (show P.size + c.at' < _ by omega), cat_at P text (⟨#[41]⟩ ++ Q) c.at' h2, ext_one _ _ h2]
        show ((⟨P.size + c.at' + 1, c.bad⟩ : ClD), _) = ((⟨P.size + (c.at' + 1), false⟩ : ClD), _)
        rw [hb, Nat.add_assoc]
      · rename_i h3
        rw [if_neg h3, if_neg h3]
        split at h
        · cases h
        · rename_i h4
          rw [if_neg h4, if_neg h4]
          have ih := clF_sim ho text P Q f g (.climb 0) ⟨c.at' + 1, c.bad⟩ (by omega) (by show c.at' + 1 ≤ _; omega)
          have hI := clF_inv ho text f (.climb 0) ⟨c.at' + 1, c.bad⟩ (by show c.at' + 1 ≤ _; omega)
          generalize clF xs text f (.climb 0) ⟨c.at' + 1, c.bad⟩ = q at *
          obtain ⟨d, s⟩ := q
          simp only [] at h ⊢
          split at h
          · cases h
          · rename_i h5
            have hd : d.bad = false := by cases hb : d.bad; rfl; exact absurd (.inl hb) h5
            have e := ih hd
            have e : clF xs (P ++ text ++ (⟨#[41]⟩ ++ Q)) g (.climb 0) ⟨P.size + c.at' + 1, c.bad⟩ = (⟨P.size + d.at', false⟩, s) := e
            have hda : d.at' < text.size := by omega
            rw [e, if_neg h5]
            simp only []
            rw [if_neg]
            · show ((⟨P.size + d.at' + 1, false⟩ : ClD), s) = ((⟨P.size + (d.at' + 1), false⟩ : ClD), s)
              rw [Nat.add_assoc]
            · rintro (h' | h' | h')
              · cases h'
              · exact absurd h' (by show ¬ _ ≤ P.size + d.at'; omega)
              · rw [cat_at P text (⟨#[41]⟩ ++ Q) d.at' hda] at h'
                exact h5 (.inr (.inr h'))
  | f + 1, g + 1, .climb least, c, hg, hc, h => by
    rw [clF] at h
    rw [clF, clF]
    have ih := clF_sim ho text P Q f g .atom c (by omega) hc
    have hI := clF_inv ho text f .atom c hc
    generalize clF xs text f .atom c = q at *
    obtain ⟨d, s⟩ := q
    simp only [] at h ⊢
    have hd : d.at' ≤ text.size := hI.2.1
    by_cases hb : d.bad = true
    · exfalso
      cases f with
      | zero => cases h
      | succ f =>
        rw [clF] at h
        have : next13 xs text d = none := if_pos (.inl hb)
        rw [this] at h
        simp only [] at h
        rw [hb] at h
        cases h
    · have hb' : d.bad = false := by simpa using hb
      rw [ih hb']
      simp only []
      have e := clF_sim ho text P Q f g (.loop least s) d (by omega) hd h
      rw [hb'] at e
      exact e
  | f + 1, g + 1, .loop least s, c, hg, hc, h => by
    have hsz : (P ++ text ++ (⟨#[41]⟩ ++ Q)).size = P.size + text.size + (1 + Q.size) := by rw [ByteArray.size_append, ByteArray.size_append, ByteArray.size_append]; rfl
    rw [clF] at h
    rw [clF, clF]
    have hcb : c.bad = false := by
      cases hb : c.bad
      · rfl
      · have : next13 xs text c = none := if_pos (.inl hb)
        rw [this] at h
        simp only [] at h
        rw [hb] at h
        cases h
    have hN : next13 xs (P ++ text ++ (⟨#[41]⟩ ++ Q)) ⟨P.size + c.at', c.bad⟩ = next13 xs text c := by
      rw [hcb]
      have ec : c = ⟨c.at', false⟩ := by cases c; cases hcb; rfl
      by_cases hl : c.at' < text.size
      · rw [next_at (by omega), cat_at P text (⟨#[41]⟩ ++ Q) c.at' hl, ec, next_at hl]
      · have hE : next13 xs text c = none := by rw [ec]; exact next_end (by omega)
        have hp : c.at' = text.size := by omega
        rw [hE, next_at (by omega)]
        have : byteAt (P ++ text ++ (⟨#[41]⟩ ++ Q)) (P.size + c.at') = 41 := by
          have h1 := cat_at (P ++ text) ⟨#[41]⟩ Q 0 (by decide)
          rw [Nat.add_zero, ByteArray.size_append, ByteArray.append_assoc] at h1
          rw [hp, h1]; rfl
        rw [this]
        exact find_none ho (by decide) 0 xs (fun y hy => hy)
    rw [hN]
    cases hn : next13 xs text c with
    | none =>
      simp only []
      rw [hcb]
    | some k =>
      rw [hn] at h
      obtain ⟨k1, k2, k3⟩ := next13_lt hn
      simp only [getD_is k1] at h ⊢
      split at h
      · rename_i h1
        rw [if_pos h1, if_pos h1, hcb]
      · rename_i h1
        rw [if_neg h1, if_neg h1]
        have ih := clF_sim ho text P Q f g (.climb (lev13 xs[k])) ⟨c.at' + 1, c.bad⟩ (by omega) (by show c.at' + 1 ≤ _; omega)
        have hI := clF_inv ho text f (.climb (lev13 xs[k])) ⟨c.at' + 1, c.bad⟩ (by show c.at' + 1 ≤ _; omega)
        generalize clF xs text f (.climb (lev13 xs[k])) ⟨c.at' + 1, c.bad⟩ = q at *
        obtain ⟨d, t⟩ := q
        simp only [] at h ⊢
        have hd : d.at' ≤ text.size := hI.2.1
        split at h
        · rename_i h2
          rw [h2] at h
          cases h
        · rename_i h2
          have hb' : d.bad = false := by simpa using h2
          have e : clF xs (P ++ text ++ (⟨#[41]⟩ ++ Q)) g (.climb (lev13 xs[k])) ⟨P.size + c.at' + 1, c.bad⟩ = (⟨P.size + d.at', false⟩, t) := ih hb'
          rw [e, if_neg h2]
          simp only []
          rw [if_neg (by decide)]
          have e2 := clF_sim ho text P Q f g (.loop least (two13 s xs[k] t)) d (by omega) hd h
          rw [hb'] at e2
          exact e2

theorem climbB_some {xs : List OpD} {text s : ByteArray} (h : climbB xs text = some s) : opsB xs = true ∧ text.size ≤ 12 ∧ ∃ d : ClD, clF xs text (3 * text.size + 3) (.climb 0) ⟨0, false⟩ = (d, s) ∧ d.bad = false ∧ d.at' = text.size := by
  unfold climbB at h
  split at h
  · cases h
  · rename_i h1
    have ho : opsB xs = true := Decidable.byContradiction fun h' => h1 (.inl h')
    have hI := clF_inv ho text (3 * text.size + 3) (.climb 0) ⟨0, false⟩ (Nat.zero_le _)
    generalize hq : clF xs text (3 * text.size + 3) (.climb 0) ⟨0, false⟩ = q at *
    obtain ⟨d, s'⟩ := q
    simp only [] at h
    split at h
    · cases h
    · rename_i h2
      cases h
      have hd : d.at' ≤ text.size := hI.2.1
      refine ⟨ho, by omega, d, rfl, ?_, by omega⟩
      cases hb : d.bad
      · rfl
      · exact absurd (.inl hb) h2
/-- What a climb tells is told again. -/
theorem climb_again {xs : List OpD} {text s : ByteArray} (h : climbB xs text = some s) (hs : s.size ≤ 12) : climbB xs s = some s := by
  obtain ⟨ho, hz, d, hq, hb, hd⟩ := climbB_some h
  have hP : Par xs s := by
    have := clF_par ho text (3 * text.size + 3) (.climb 0) ⟨0, false⟩ (Nat.zero_le _) trivial (by rw [hq]; exact hb)
    rwa [hq] at this
  have hA := par_back ho hP ⟨#[]⟩ ⟨#[]⟩ (3 * s.size + 2) (by omega)
  have e1 : (⟨#[]⟩ : ByteArray) ++ s ++ ⟨#[]⟩ = s := by
    apply ByteArray.ext
    simp
  rw [e1] at hA
  have e0 : (⟨#[]⟩ : ByteArray).size = 0 := rfl
  rw [e0, Nat.zero_add] at hA
  unfold climbB
  rw [if_neg (by rintro (h' | h'); exact h' ho; omega), show 3 * s.size + 3 = 3 * s.size + 2 + 1 from rfl, clF, hA]
  simp only []
  rw [show 3 * s.size + 2 = 3 * s.size + 1 + 1 from rfl, clF, next_end (Nat.le_refl _)]
  simp only []
  rw [if_neg]
  rintro (h' | h')
  · cases h'
  · omega
/-- Within parentheses a text is told as it is. -/
theorem climb_within {xs : List OpD} {text s : ByteArray} (h : climbB xs text = some s) (hs : text.size ≤ 10) : climbB xs (⟨#[40]⟩ ++ text ++ ⟨#[41]⟩) = some s := by
  obtain ⟨ho, hz, d, hq, hb, hd⟩ := climbB_some h
  have e40 : (⟨#[40]⟩ : ByteArray).size = 1 := rfl
  have e41 : (⟨#[41]⟩ : ByteArray).size = 1 := rfl
  have hsz : (⟨#[40]⟩ ++ text ++ ⟨#[41]⟩ : ByteArray).size = text.size + 2 := by rw [ByteArray.size_append, ByteArray.size_append, e40, e41]; omega
  have e1 : (⟨#[40]⟩ ++ text ++ (⟨#[41]⟩ ++ ⟨#[]⟩) : ByteArray) = ⟨#[40]⟩ ++ text ++ ⟨#[41]⟩ := by
    congr 1
  have hS := clF_sim ho text ⟨#[40]⟩ ⟨#[]⟩ (3 * text.size + 3) (3 * text.size + 7) (.climb 0) ⟨0, false⟩ (by omega) (Nat.zero_le _) (by rw [hq]; exact hb)
  rw [hq, e1] at hS
  have hS : clF xs (⟨#[40]⟩ ++ text ++ ⟨#[41]⟩) (3 * text.size + 7) (.climb 0) ⟨1, false⟩ = (⟨1 + d.at', false⟩, s) := hS
  have b0 : byteAt (⟨#[40]⟩ ++ text ++ ⟨#[41]⟩) 0 = 40 := by
    have := cat_at ⟨#[]⟩ ⟨#[40]⟩ (text ++ ⟨#[41]⟩) 0 (by decide)
    have e2 : (⟨#[]⟩ ++ ⟨#[40]⟩ ++ (text ++ ⟨#[41]⟩) : ByteArray) = ⟨#[40]⟩ ++ text ++ ⟨#[41]⟩ := by
      apply ByteArray.ext
      simp
    rw [e2] at this
    exact this
  have b1 : byteAt (⟨#[40]⟩ ++ text ++ ⟨#[41]⟩) (1 + d.at') = 41 := by
    have := cat_at (⟨#[40]⟩ ++ text) ⟨#[41]⟩ ⟨#[]⟩ 0 (by decide)
    rw [Nat.add_zero, ByteArray.size_append, e40] at this
    have e2 : ((⟨#[40]⟩ ++ text) ++ ⟨#[41]⟩ ++ ⟨#[]⟩ : ByteArray) = ⟨#[40]⟩ ++ text ++ ⟨#[41]⟩ := by
      apply ByteArray.ext
      simp
    rw [e2] at this
    rw [hd, this]; rfl
  unfold climbB
  rw [if_neg (by rintro (h' | h'); exact h' ho; omega), hsz]
  generalize ⟨#[40]⟩ ++ text ++ ⟨#[41]⟩ = T at *
  have hA : ∀ F : Nat, clF xs T F (.climb 0) ⟨1, false⟩ = (⟨1 + d.at', false⟩, s) → clF xs T (F + 1) .atom ⟨0, false⟩ = (⟨T.size, false⟩, s) := fun F hF => by
    rw [clF, if_neg (by rintro (h' | h'); cases h'; exact absurd h' (by show ¬ T.size ≤ 0; omega))]
    show (if fig13 (byteAt T 0) = true then _ else if ¬ byteAt T 0 = 40 then _ else _) = _
    rw [b0, if_neg (by decide), if_neg (by decide)]
    show (match clF xs T F (.climb 0) ⟨1, false⟩ with | (d, s) => _) = _
    rw [hF]
    simp only []
    rw [if_neg]
    · congr 2
      omega
    · rintro (h' | h' | h')
      · cases h'
      · exact absurd h' (by show ¬ T.size ≤ 1 + d.at'; omega)
      · exact h' b1
  have hA := hA _ hS
  have hL : ∀ F : Nat, clF xs T (F + 1) (.loop 0 s) ⟨T.size, false⟩ = (⟨T.size, false⟩, s) := fun F => by rw [clF, next_end (Nat.le_refl _)]
  have hW : ∀ F : Nat, clF xs T (F + 1) .atom ⟨0, false⟩ = (⟨T.size, false⟩, s) → clF xs T (F + 1 + 1) (.climb 0) ⟨0, false⟩ = (⟨T.size, false⟩, s) := fun F hF => by
    rw [clF, hF]
    exact hL F
  rw [show 3 * (text.size + 2) + 3 = 3 * text.size + 7 + 1 + 1 by omega, hW _ hA]
  simp only []
  rw [if_neg]
  rintro (h' | h')
  · cases h'
  · omega

end Go.Proofs.Ytkojkicfibmjdaa
