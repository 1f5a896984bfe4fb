/- What l10One answers, by the place behind a token. No program is named. -/
import Derived.Test.YtoldlbefddhhbaaS10S
namespace Go.Proofs.Ytoldlbefddhhbaa
open Go.RowKit
set_option linter.unusedVariables false

def noS10 : ByteArray := ⟨#[]⟩
def res10 (l : List UInt8) (p : Nat) : TokD × Int := match one10 l with | none => (⟨0, noS10⟩, 0) | some (t, k) => (t, ((p + k : Nat) : Int))
theorem toList_size (s : ByteArray) : s.data.toList.length = s.size := by simp
theorem span_of {s : ByteArray} {p k : Nat} {q : UInt8 → Bool} (h1 : p + 1 ≤ k) (h2 : k ≤ s.size) (h : ∀ m (hm : m < s.size), p + 1 ≤ m → m < k → q s[m] = true) (he : ∀ hk : k < s.size, q s[k] = false) : spanN q (s.data.toList.drop (p + 1)) = k - (p + 1) := by
  have hl := toList_size s
  refine spanN_at q _ _ (by rw [List.length_drop]; omega) (fun i hi hlt => ?_) (fun hlt => ?_)
  · rw [List.getElem_drop]
    exact h (p + 1 + i) (by omega) (by omega) (by omega)
  · rw [List.length_drop] at hlt
    rw [List.getElem_drop]
    have := he (by omega)
    have e : p + 1 + (k - (p + 1)) = k := by omega
    simp only [e]
    exact this
theorem ext_all {s : ByteArray} {p k : Nat} (hp : p < s.size) (hk : p + 1 ≤ k) : bytesOf (s[p] :: (s.data.toList.drop (p + 1)).take (k - (p + 1))) = s.extract p k := by
  rw [ext_take, drop_at hp]
  have e : k - p = (k - (p + 1)) + 1 := by omega
  rw [e, List.take_succ_cons]
theorem ext_in {s : ByteArray} {p k : Nat} : bytesOf ((s.data.toList.drop (p + 1)).take (k - (p + 1))) = s.extract (p + 1) k := by
  rw [ext_take]
theorem head_of {s : ByteArray} {p k : Nat} (hk : p + 1 ≤ k) : ((s.data.toList.drop (p + 1)).drop (k - (p + 1))).head? = s.data.toList[k]? := by
  rw [List.drop_drop, List.head?_drop]
  congr 1
  omega
theorem at_some {s : ByteArray} {k : Nat} (h : k < s.size) : s.data.toList[k]? = some s[k] := by
  rw [List.getElem?_eq_getElem (by rw [toList_size]; exact h)]
  rfl
theorem at_none {s : ByteArray} : s.data.toList[s.size]? = none := List.getElem?_eq_none (by rw [toList_size]; exact Nat.le_refl _)

theorem res_word {s : ByteArray} {p k : Nat} (hp : p < s.size) (hl : letT s[p].toNat = true) (h1 : p + 1 ≤ k) (hn : spanN wordT (s.data.toList.drop (p + 1)) = k - (p + 1)) :
    res10 (s.data.toList.drop p) p = if 6 < k - p then (⟨0, noS10⟩, 0) else if s.data.toList[k]? = some 40 then (⟨6, s.extract p k⟩, ((k + 1 : Nat) : Int)) else (⟨1, s.extract p k⟩, (k : Int)) := by
  rw [res10, drop_at hp, one10, if_pos hl, hn, ext_all hp h1, head_of h1]
  by_cases h6 : 6 < k - p
  · rw [if_pos (by omega), if_pos h6]
  · rw [if_neg (by omega), if_neg h6]
    by_cases h40 : s.data.toList[k]? = some 40
    · rw [if_pos h40, if_pos h40]
      have e : p + (k - (p + 1) + 2) = k + 1 := by omega
      simp only [e]
    · rw [if_neg h40, if_neg h40]
      have e : p + (k - (p + 1) + 1) = k := by omega
      simp only [e]
theorem res_fig {s : ByteArray} {p k : Nat} (hp : p < s.size) (hl : letT s[p].toNat = false) (hf : figT s[p].toNat = true) (h1 : p + 1 ≤ k) (hn : spanN figU (s.data.toList.drop (p + 1)) = k - (p + 1)) :
    res10 (s.data.toList.drop p) p = if 2 < k - p then (⟨0, noS10⟩, 0) else (⟨2, s.extract p k⟩, (k : Int)) := by
  rw [res10, drop_at hp, one10, if_neg (by rw [hl]; decide), if_pos hf, hn, ext_all hp h1]
  by_cases h6 : 2 < k - p
  · rw [if_pos (by omega), if_pos h6]
  · rw [if_neg (by omega), if_neg h6]
    have e : p + (k - (p + 1) + 1) = k := by omega
    simp only [e]
theorem not_let {b : UInt8} (h : ¬ letT b.toNat = true) : letT b.toNat = false := by simpa using h
theorem res_text {s : ByteArray} {p k : Nat} (hp : p < s.size) (hb : s[p] = 34) (h1 : p + 1 ≤ k) (hn : spanN inText (s.data.toList.drop (p + 1)) = k - (p + 1)) :
    res10 (s.data.toList.drop p) p = if s.data.toList[k]? = some 34 ∧ 1 ≤ k - p - 1 ∧ k - p - 1 ≤ 8 then (⟨3, s.extract (p + 1) k⟩, ((k + 1 : Nat) : Int)) else (⟨0, noS10⟩, 0) := by
  have e1 : letT s[p].toNat = false := by rw [hb]; decide
  have e2 : figT s[p].toNat = false := by rw [hb]; decide
  rw [res10, drop_at hp, one10, if_neg (by rw [e1]; decide), if_neg (by rw [e2]; decide), if_pos hb, hn, ext_in, head_of h1]
  by_cases hc : s.data.toList[k]? = some 34 ∧ 1 ≤ k - p - 1 ∧ k - p - 1 ≤ 8
  · rw [if_pos hc, if_pos ⟨hc.1, by omega, by omega⟩]
    have e : p + (k - (p + 1) + 2) = k + 1 := by omega
    simp only [e]
  · rw [if_neg hc, if_neg (fun c => hc ⟨c.1, by omega, by omega⟩)]
theorem res_set {s : ByteArray} {p k : Nat} (hp : p < s.size) (hb : s[p] = 91) (h1 : p + 1 ≤ k) (h2 : k ≤ s.size) (hn : spanN inSetB (s.data.toList.drop (p + 1)) = k - (p + 1)) :
    res10 (s.data.toList.drop p) p = if k < s.size ∧ okL (s.extract (p + 1) k).data.toList = true then (⟨4, s.extract (p + 1) k⟩, ((k + 1 : Nat) : Int)) else (⟨0, noS10⟩, 0) := by
  have e1 : letT s[p].toNat = false := by rw [hb]; decide
  have e2 : figT s[p].toNat = false := by rw [hb]; decide
  have e3 : ¬ s[p] = 34 := by rw [hb]; decide
  rw [res10, drop_at hp, one10, if_neg (by rw [e1]; decide), if_neg (by rw [e2]; decide), if_neg e3, if_pos hb, hn, ext_in, ← ext_in]
  have hl := toList_size s
  have e5 : (bytesOf ((s.data.toList.drop (p + 1)).take (k - (p + 1)))).data.toList = (s.data.toList.drop (p + 1)).take (k - (p + 1)) := rfl
  rw [e5]
  by_cases hc : k < s.size ∧ okL ((s.data.toList.drop (p + 1)).take (k - (p + 1))) = true
  · rw [if_pos hc, if_pos ⟨by rw [List.length_drop]; omega, hc.2⟩]
    have e : p + (k - (p + 1) + 2) = k + 1 := by omega
    simp only [e]
  · rw [if_neg hc, if_neg (fun c => hc ⟨by have := c.1; rw [List.length_drop] at this; omega, c.2⟩)]
theorem res_arrow {s : ByteArray} {p : Nat} (hp : p + 1 < s.size) (hb : s[p] = 45) (h2 : s[p + 1] = 62) : res10 (s.data.toList.drop p) p = (⟨5, ⟨#[45, 62]⟩⟩, ((p + 2 : Nat) : Int)) := by
  have e1 : letT s[p].toNat = false := by rw [hb]; decide
  have e2 : figT s[p].toNat = false := by rw [hb]; decide
  have e3 : ¬ s[p] = 34 := by rw [hb]; decide
  have e4 : ¬ s[p] = 91 := by rw [hb]; decide
  have e5 : (s.data.toList.drop (p + 1)).head? = some 62 := by rw [List.head?_drop, at_some hp, h2]
  rw [res10, drop_at (by omega), one10, if_neg (by rw [e1]; decide), if_neg (by rw [e2]; decide), if_neg e3, if_neg e4, if_pos ⟨hb, e5⟩]
  rfl
theorem res_sign {s : ByteArray} {p : Nat} (hp : p < s.size) (hl : letT s[p].toNat = false) (hf : figT s[p].toNat = false) (e3 : ¬ s[p] = 34) (e4 : ¬ s[p] = 91) (e5 : ¬ (s[p] = 45 ∧ s.data.toList[p + 1]? = some 62)) :
    res10 (s.data.toList.drop p) p = if signsL.contains s[p] = true then (⟨5, s.extract p (p + 1)⟩, ((p + 1 : Nat) : Int)) else (⟨0, noS10⟩, 0) := by
  have e6 : (s.data.toList.drop (p + 1)).head? = s.data.toList[p + 1]? := List.head?_drop
  rw [res10, drop_at hp, one10, if_neg (by rw [hl]; decide), if_neg (by rw [hf]; decide), if_neg e3, if_neg e4, e6, if_neg e5]
  by_cases hc : signsL.contains s[p] = true
  · rw [if_pos hc, if_pos hc]
    have e7 := ext_all hp (Nat.le_refl (p + 1))
    rw [Nat.sub_self, List.take_zero] at e7
    rw [e7]
  · rw [if_neg hc, if_neg hc]

end Go.Proofs.Ytoldlbefddhhbaa
