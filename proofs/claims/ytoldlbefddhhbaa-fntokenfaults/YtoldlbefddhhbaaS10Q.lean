/- Tokens: how many, and how long. -/
import Derived.Test.YtoldlbefddhhbaaS10P
namespace Go.Proofs.Ytoldlbefddhhbaa
open Go.RowKit

theorem bytesOf_size (l : List UInt8) : (bytesOf l).size = l.length := by simp [bytesOf, ByteArray.size]
theorem one10_num {l : List UInt8} {t : TokD} {k : Nat} (h : one10 l = some (t, k)) : (t.kind = 2 → t.text.size ≤ 2) ∧ t.text.size ≤ l.length := by
  cases l with
  | nil => cases h
  | cons b l =>
    rw [one10] at h
    have q1 := spanN_le wordT l
    have q2 := spanN_le figU l
    have q3 := spanN_le inText l
    have q4 := spanN_le inSetB l
    simp only [List.length_cons]
    split at h
    · split at h
      · cases h
      · split at h
        · cases h; exact ⟨(fun h => (by cases h)), by simp only [bytesOf_size, List.length_cons, List.length_take]; omega⟩
        · cases h; exact ⟨(fun h => (by cases h)), by simp only [bytesOf_size, List.length_cons, List.length_take]; omega⟩
    split at h
    · split at h
      · cases h
      · cases h; exact ⟨(fun _ => (by simp only [bytesOf_size, List.length_cons, List.length_take]; omega)), by simp only [bytesOf_size, List.length_cons, List.length_take]; omega⟩
    split at h
    · split at h
      · cases h; exact ⟨(fun h => (by cases h)), by simp only [bytesOf_size, List.length_take]; omega⟩
      · cases h
    split at h
    · split at h
      · cases h; exact ⟨(fun h => (by cases h)), by simp only [bytesOf_size, List.length_take]; omega⟩
      · cases h
    split at h
    · rename_i hq
      have : 0 < l.length := by
        cases l with
        | nil => cases hq.2
        | cons _ _ => simp
      cases h; exact ⟨(fun h => (by cases h)), by simp only [bytesOf_size, List.length_cons, List.length_nil]; omega⟩
    split at h
    · cases h; exact ⟨(fun h => (by cases h)), by simp only [bytesOf_size, List.length_cons, List.length_nil]; omega⟩
    · cases h
def TokG (M : Nat) (x : TokD) : Prop := (x.kind = 2 → x.text.size ≤ 2) ∧ x.text.size ≤ M
theorem toks10_I (n M : Nat) : ∀ (f : Nat) (out : List TokD) (l : List UInt8), l.length ≤ M → out.length ≤ 200 → (∀ x ∈ out, TokG M x) → (toks10 n f out l).1.length ≤ 200 ∧ ∀ x ∈ (toks10 n f out l).1, TokG M x
  | 0, out, l, _, h1, h2 => by rw [toks10]; exact ⟨h1, h2⟩
  | f + 1, out, [], _, h1, h2 => by rw [toks10]; exact ⟨h1, h2⟩; exact fun h => by cases h
  | f + 1, out, b :: l, hl, h1, h2 => by
    rw [toks10]
    simp only [List.length_cons] at hl
    split
    · exact toks10_I n M f out l (by omega) h1 h2
    split
    · exact toks10_I n M f out _ (by rw [List.length_drop]; simp only [List.length_cons]; omega) h1 h2
    cases ho : one10 (b :: l) with
    | none => exact ⟨by simp, fun x hx => by cases hx⟩
    | some q =>
      obtain ⟨t, k⟩ := q
      simp only
      split
      · exact ⟨by simp, fun x hx => by cases hx⟩
      · have hg := one10_num ho
        simp only [List.length_cons] at hg
        exact toks10_I n M f _ _ (by rw [List.length_drop]; simp only [List.length_cons]; omega) (by rw [List.length_append, List.length_singleton]; omega) (fun x hx => by
          rcases List.mem_append.1 hx with hx | hx
          · exact h2 x hx
          · rw [List.mem_singleton.1 hx]
            exact ⟨hg.1, by omega⟩)
theorem tokensB_I (s : ByteArray) : (tokensB s).1.length ≤ 200 ∧ ∀ x ∈ (tokensB s).1, TokG 600 x := by
  unfold tokensB
  split
  · exact ⟨by simp, fun x hx => by cases hx⟩
  · exact toks10_I s.size 600 _ [] _ (by simp; omega) (by simp) (fun x hx => by cases hx)

end Go.Proofs.Ytoldlbefddhhbaa
