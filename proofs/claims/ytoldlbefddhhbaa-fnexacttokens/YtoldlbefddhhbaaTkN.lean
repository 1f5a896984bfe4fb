/- Places between tokens are places between runes. No program is named. -/
import Derived.Test.YtoldlbefddhhbaaTkJ
namespace Go.Proofs.Ytoldlbefddhhbaa
open Go.RowKit
set_option linter.unusedVariables false

theorem span_in (p : UInt8 → Bool) : ∀ (l : List UInt8) (i : Nat) (h : i < l.length), i < spanN p l → p l[i] = true
  | b :: l, i, h, hi => by
    rw [spanN] at hi
    split at hi
    · rename_i hb
      cases i with
      | zero => exact hb
      | succ i => exact span_in p l i (by simpa using h) (by omega)
    · omega
theorem word_low {b : UInt8} (h : wordT b = true) : b.toNat < 128 := by
  simp [wordT, letT, figT] at h
  omega
theorem fig_low {b : UInt8} (h : figU b = true) : b.toNat < 128 := by
  simp [figU, figT] at h
  omega
def LowAt (l : List UInt8) (k : Nat) : Prop := ∃ u : UInt8, l[k]? = some u ∧ u.toNat < 128
theorem low_cons {b : UInt8} {l : List UInt8} {k : Nat} (h : LowAt l k) : LowAt (b :: l) (k + 1) := h
theorem low_span {p : UInt8 → Bool} {b : UInt8} {l : List UInt8} (hb : b.toNat < 128) (hp : ∀ u : UInt8, p u = true → u.toNat < 128) : LowAt (b :: l) (spanN p l) := by
  have hle := spanN_le p l
  cases hk : spanN p l with
  | zero => exact ⟨b, rfl, hb⟩
  | succ k =>
    have hlt : k < l.length := by omega
    exact ⟨l[k], by rw [List.getElem?_cons_succ, List.getElem?_eq_getElem hlt], hp _ (span_in p l k hlt (by omega))⟩
theorem low_head {l : List UInt8} {k : Nat} {u : UInt8} (h : (l.drop k).head? = some u) (hu : u.toNat < 128) : LowAt l k := ⟨u, by rw [← h, List.head?_drop], hu⟩
/-- The last byte of a token is one of ASCII. -/
theorem one10_last {l : List UInt8} {t : TokD} {k : Nat} (h : one10 l = some (t, k)) : LowAt l (k - 1) := by
  cases l with
  | nil => cases h
  | cons b l =>
    rw [one10] at h
    split at h
    · rename_i hb
      have hb' : b.toNat < 128 := word_low (by simp [wordT, hb])
      split at h
      · cases h
      · split at h
        · rename_i hq
          cases h
          exact low_cons (low_head hq (by decide))
        · cases h
          exact low_span hb' (fun u => word_low)
    split at h
    · rename_i hb
      have hb' : b.toNat < 128 := fig_low hb
      split at h
      · cases h
      · cases h
        exact low_span hb' (fun u => fig_low)
    split at h
    · split at h
      · rename_i hq
        cases h
        exact low_cons (low_head hq.1 (by decide))
      · cases h
    split at h
    · split at h
      · rename_i hq
        cases h
        refine low_cons ⟨l[spanN inSetB l]'hq.1, List.getElem?_eq_getElem hq.1, ?_⟩
        have := span_stop inSetB l hq.1
        simp only [inSetB, decide_eq_false_iff_not, Decidable.not_not] at this
        omega
      · cases h
    split at h
    · rename_i hq
      cases h
      refine low_cons ⟨62, ?_, by decide⟩
      cases l with
      | nil => cases hq.2
      | cons c l => exact hq.2
    split at h
    · rename_i hc
      cases h
      rw [List.contains_iff_mem] at hc
      have : ∀ b ∈ signsL, b.toNat < 128 := by decide
      exact ⟨b, rfl, this _ hc⟩
    · cases h

/-- A place that lies within no rune. -/
def Bd (s : ByteArray) (q : Nat) : Prop := q = s.size ∨ LowAt s.data.toList q ∨ (1 ≤ q ∧ LowAt s.data.toList (q - 1))
theorem low_get {s : ByteArray} {k : Nat} (h : LowAt s.data.toList k) : ∃ hk : k < s.size, s[k].toNat < 128 := by
  obtain ⟨u, h1, h2⟩ := h
  have hk : k < s.size := by
    rcases Nat.lt_or_ge k s.size with h | h
    · exact h
    · rw [List.getElem?_eq_none (by rw [toList_size]; exact h)] at h1
      cases h1
  rw [at_some hk] at h1
  exact ⟨hk, by rw [Option.some.inj h1]; exact h2⟩
theorem bd_step {s : ByteArray} {pos q : Nat} (hp : pos < s.size) (hlt : pos < q) (hq : q ≤ s.size) (hb : Bd s q) : 1 ≤ (Utf8.decode s pos).2 ∧ pos + (Utf8.decode s pos).2 ≤ q := by
  by_cases ha : s[pos].toNat < 128
  · rw [decode_ascii s pos hp ha]
    exact ⟨Nat.le_refl _, hlt⟩
  · have hd := decode_bytes s pos hp (by omega)
    refine ⟨hd.1, ?_⟩
    rcases Nat.lt_or_ge q (pos + (Utf8.decode s pos).2) with h | h
    · exfalso
      rcases hb with hb | hb | ⟨h1, hb⟩
      · omega
      · obtain ⟨hk, hl⟩ := low_get hb
        have := hd.2.2 q hk (by omega) h
        omega
      · obtain ⟨hk, hl⟩ := low_get hb
        have := hd.2.2 (q - 1) hk (by omega) (by omega)
        omega
    · exact h

/-- What is left of a text from a place on. -/
def restT (s : ByteArray) (q : Nat) : ByteArray := s.extract q s.size
theorem restT_list (s : ByteArray) (q : Nat) : (restT s q).data.toList = s.data.toList.drop q := by
  rw [restT, ext_take]
  show (s.data.toList.drop q).take (s.size - q) = _
  rw [List.take_of_length_le (by rw [List.length_drop, toList_size]; omega)]
theorem restT_size (s : ByteArray) (q : Nat) : (restT s q).size = s.size - q := by rw [← toList_size, restT_list, List.length_drop, toList_size]
theorem restT_first {s : ByteArray} {q : Nat} (h : q < s.size) : FirstR (Utf8.decode s q).1 (restT s q) := by
  have h0 : 0 < (restT s q).size := by rw [restT_size]; omega
  have e : (restT s q)[0] = s[q] := by
    have e1 := at_some h0
    rw [restT_list, drop_at h] at e1
    exact (Option.some.inj e1).symm
  refine ⟨h0, fun hb => ?_, fun hb => ?_⟩
  · rw [e] at hb ⊢
    rw [decode_ascii s q h hb]
  · rw [e] at hb
    exact (decode_high s q h hb).1
theorem restT_at {s : ByteArray} {q : Nat} (h : q < s.size) (h0 : 0 < (restT s q).size) : (restT s q)[0] = s[q] := by
  have e1 := at_some h0
  rw [restT_list, drop_at h] at e1
  exact (Option.some.inj e1).symm
theorem low_drop {s : ByteArray} {q k : Nat} (h : LowAt (s.data.toList.drop q) k) : LowAt s.data.toList (q + k) := by
  obtain ⟨u, h1, h2⟩ := h
  rw [List.getElem?_drop] at h1
  exact ⟨u, h1, h2⟩
/-- What is passed over. -/
theorem over_step {s : ByteArray} {q f : Nat} {ts : List TokD} (h : q < s.size) (ho : 0 < overB (Utf8.decode s q).1 (restT s q)) :
    toks10 s.size (f + 1) ts (s.data.toList.drop q) = toks10 s.size f ts (s.data.toList.drop (q + overB (Utf8.decode s q).1 (restT s q))) ∧ q + overB (Utf8.decode s q).1 (restT s q) ≤ s.size ∧ Bd s (q + overB (Utf8.decode s q).1 (restT s q)) := by
  have hF := restT_first h
  have h0 := hF.1
  obtain ⟨_, _, hq⟩ := first_let hF h0
  have h32 := hq 32 (by decide)
  have h10 := hq 10 (by decide)
  have h35 := hq 35 (by decide)
  rw [restT_at h h0] at h32 h10 h35
  rw [show (32 : UInt8).toNat = 32 from rfl] at h32
  rw [show (10 : UInt8).toNat = 10 from rfl] at h10
  rw [show (35 : UInt8).toNat = 35 from rfl] at h35
  rw [toks_at h]
  generalize (Utf8.decode s q).1 = n at *
  by_cases c1 : n = 32 ∨ n = 10
  · have e1 : overB n (restT s q) = 1 := by rw [overB, if_pos c1]
    have hs : s[q] = 32 ∨ s[q] = 10 := c1.imp h32.1 h10.1
    rw [e1, if_pos hs]
    refine ⟨rfl, by omega, .inr (.inr ⟨by omega, s[q], ?_, ?_⟩)⟩
    · rw [Nat.add_sub_cancel, at_some h]
    · rcases hs with e | e <;> rw [e] <;> decide
  · have hs : ¬ (s[q] = 32 ∨ s[q] = 10) := fun c => c1 (c.imp h32.2 h10.2)
    by_cases c2 : n = 35
    · have e1 : overB n (restT s q) = spanN inLine (s.data.toList.drop q) := by rw [overB, if_neg c1, if_pos c2, restT_list]; rfl
      have hle := spanN_le inLine (s.data.toList.drop q)
      rw [List.length_drop, toList_size] at hle
      rw [e1, if_neg hs, if_pos (h35.1 c2)]
      refine ⟨rfl, by omega, ?_⟩
      rcases Nat.lt_or_ge (spanN inLine (s.data.toList.drop q)) (s.size - q) with hl | hl
      · have hl' : spanN inLine (s.data.toList.drop q) < (s.data.toList.drop q).length := by rw [List.length_drop, toList_size]; exact hl
        have hst := span_stop inLine _ hl'
        refine .inr (.inl (low_drop ⟨_, List.getElem?_eq_getElem hl', ?_⟩))
        simp only [inLine, decide_eq_false_iff_not, Decidable.not_not] at hst
        omega
      · exact .inl (by omega)
    · rw [overB, if_neg c1, if_neg c2] at ho
      omega
theorem over_none {s : ByteArray} {q f : Nat} {ts : List TokD} (h : q < s.size) (ho : overB (Utf8.decode s q).1 (restT s q) = 0) :
    toks10 s.size (f + 1) ts (s.data.toList.drop q) = match one10 (s.data.toList.drop q) with
      | none => ([], (q : Int) + 1)
      | some (t, k) => if ts.length = 200 then ([], (q : Int) + 1) else toks10 s.size f (ts ++ [t]) (s.data.toList.drop (q + k)) := by
  have hF := restT_first h
  have h0 := hF.1
  obtain ⟨_, _, hq⟩ := first_let hF h0
  have h32 := hq 32 (by decide)
  have h10 := hq 10 (by decide)
  have h35 := hq 35 (by decide)
  rw [restT_at h h0] at h32 h10 h35
  rw [show (32 : UInt8).toNat = 32 from rfl] at h32
  rw [show (10 : UInt8).toNat = 10 from rfl] at h10
  rw [show (35 : UInt8).toNat = 35 from rfl] at h35
  rw [toks_at h]
  have hn : ¬ ((Utf8.decode s q).1 = 32 ∨ (Utf8.decode s q).1 = 10) := fun c => by rw [overB, if_pos c] at ho; omega
  have hn2 : ¬ (Utf8.decode s q).1 = 35 := fun c => by
    rw [overB, if_neg hn, if_pos c, restT_list, drop_at h, spanN] at ho
    have e := h35.1 c
    rw [if_pos (by rw [e]; decide)] at ho
    omega
  rw [if_neg (fun c => hn (c.imp h32.2 h10.2)), if_neg (fun c => hn2 (h35.2 c))]
  rfl
theorem rest_res {s : ByteArray} {q : Nat} : resT (restT s q) = res10 (s.data.toList.drop q) 0 := by rw [resT, restT_list, List.drop_zero]
theorem bd_token {s : ByteArray} {q : Nat} {t : TokD} {k : Nat} (h : one10 (s.data.toList.drop q) = some (t, k)) : 1 ≤ k ∧ q + k ≤ s.size ∧ Bd s (q + k) := by
  have h1 := one10_pos h
  rw [List.length_drop, toList_size] at h1
  have h2 := low_drop (one10_last h)
  refine ⟨h1.1, by omega, .inr (.inr ⟨by omega, ?_⟩)⟩
  rw [show q + k - 1 = q + (k - 1) by omega]
  exact h2

theorem own_iterAt {w : World} {B : Nat} {e : TypeId} {size : Nat} {v : Value} {n : Nat} {xs : List Value} {k : Nat} {s : ByteArray} {p : Nat} (h : w.ownsRow B e size v n xs) (hk : w.heap[k]? = some (.stringIter s p)) (p' : Nat) : (w.iterAt k s p').ownsRow B e size v n xs := by
  obtain ⟨h1, h2⟩ := h
  refine ⟨h1, ?_⟩
  rcases h2 with h2 | ⟨g, cap, cur, a, b, c, d⟩
  · exact .inl h2
  · have hne : g ≠ k := fun e1 => by rw [e1, hk] at c; cases c
    exact .inr ⟨g, cap, cur, a, b, by rw [Lib.iterAt_other _ _ _ _ _ hne]; exact c, d⟩
theorem TokO.iterAt {w : World} {B : Nat} {v : Value} {ts : List TokD} {k : Nat} {s : ByteArray} {p : Nat} (h : TokO B v ts w) (hk : w.heap[k]? = some (.stringIter s p)) (p' : Nat) : TokO B v ts (w.iterAt k s p') :=
  RowO.world h (fun _ _ h3 => own_iterAt h3 hk p') (fun _ _ hx => hx)
theorem iter_below {w w' : World} {k : Nat} {s : ByteArray} {p : Nat} (h : w.heap[k]? = some (.stringIter s p)) (hb : Below w.heap.size w w') : w'.heap[k]? = some (.stringIter s p) := by
  rw [hb.block k (Array.getElem?_eq_some_iff.1 h).1]
  exact h

end Go.Proofs.Ytoldlbefddhhbaa
