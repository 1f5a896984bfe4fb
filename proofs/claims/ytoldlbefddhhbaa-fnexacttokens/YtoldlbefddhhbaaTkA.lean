/- Bytes and runes: what a range over a text tells of spans of its bytes. No program is named. -/
import Derived.Test.YtoldlbefddhhbaaS10T
import Derived.Lib.OthersKept
namespace Go.Proofs.Ytoldlbefddhhbaa
open Go.RowKit
set_option linter.unusedVariables false

theorem get_in {s : ByteArray} {k : Nat} (h : k < s.size) : s.get! k = s[k] := by
  simp [ByteArray.get!, getElem!_pos, h]
  rfl
/-- A rune whose first byte is 128 or more: all its bytes are. -/
theorem decode_bytes (s : ByteArray) (pos : Nat) (h : pos < s.size) (ha : 128 ≤ s[pos].toNat) :
    1 ≤ (Utf8.decode s pos).2 ∧ pos + (Utf8.decode s pos).2 ≤ s.size ∧ ∀ m (hm : m < s.size), pos ≤ m → m < pos + (Utf8.decode s pos).2 → 128 ≤ s[m].toNat := by
  have hn : ¬ s[pos].toNat < 128 := by omega
  have one : ∀ m (hm : m < s.size), pos ≤ m → m < pos + 1 → 128 ≤ s[m].toNat := fun m hm h1 h2 => by
    obtain rfl : m = pos := by omega
    exact ha
  have ct : ∀ k, (decide (pos + k < s.size) && (s.get! (pos + k)).toNat / 64 == 2) = true → ∃ hk : pos + k < s.size, 128 ≤ s[pos + k].toNat := fun k hk => by
    rw [Bool.and_eq_true, decide_eq_true_eq, beq_iff_eq] at hk
    refine ⟨hk.1, ?_⟩
    have := hk.2
    rw [get_in hk.1] at this
    omega
  have all : ∀ n, (∀ k, 1 ≤ k → k < n → ∃ hk : pos + k < s.size, 128 ≤ s[pos + k].toNat) → 1 ≤ n → pos + n ≤ s.size ∧ ∀ m (hm : m < s.size), pos ≤ m → m < pos + n → 128 ≤ s[m].toNat := fun n hk hn1 => by
    refine ⟨?_, fun m hm h1 h2 => ?_⟩
    · rcases Nat.lt_or_ge 1 n with h1 | h1
      · obtain ⟨h2, _⟩ := hk (n - 1) (by omega) (by omega)
        omega
      · omega
    · by_cases e : m = pos
      · subst e; exact ha
      · obtain ⟨h3, h4⟩ := hk (m - pos) (by omega) (by omega)
        have e2 : pos + (m - pos) = m := by omega
        simp only [e2] at h4
        exact h4
  have fin : ∀ c n : Nat, 1 ≤ n → (∀ k, 1 ≤ k → k < n → ∃ hk : pos + k < s.size, 128 ≤ s[pos + k].toNat) → 1 ≤ ((c, n) : Nat × Nat).2 ∧ pos + ((c, n) : Nat × Nat).2 ≤ s.size ∧ ∀ m (hm : m < s.size), pos ≤ m → m < pos + ((c, n) : Nat × Nat).2 → 128 ≤ s[m].toNat := fun c n h1 hk => ⟨h1, all n hk h1⟩
  simp only [Utf8.decode, get_at s pos h, hn, if_false]
  split
  · rename_i hc
    rw [Bool.and_eq_true] at hc
    have c1 := ct 1 hc.2
    split
    · exact fin _ 2 (by omega) (fun k h1 h2 => by obtain rfl : k = 1 := by omega
                                                  exact c1)
    · exact fin _ 1 (by omega) (fun k h1 h2 => by omega)
  · split
    · rename_i hc
      rw [Bool.and_eq_true, Bool.and_eq_true] at hc
      have c1 := ct 1 hc.1.2
      have c2 := ct 2 hc.2
      split
      · refine fin _ 3 (by omega) (fun k h1 h2 => ?_)
        rcases (by omega : k = 1 ∨ k = 2) with rfl | rfl
        · exact c1
        · exact c2
      · exact fin _ 1 (by omega) (fun k h1 h2 => by omega)
    · split
      · rename_i hc
        rw [Bool.and_eq_true, Bool.and_eq_true, Bool.and_eq_true] at hc
        have c1 := ct 1 hc.1.1.2
        have c2 := ct 2 hc.1.2
        have c3 := ct 3 hc.2
        split
        · refine fin _ 4 (by omega) (fun k h1 h2 => ?_)
          rcases (by omega : k = 1 ∨ k = 2 ∨ k = 3) with rfl | rfl | rfl
          · exact c1
          · exact c2
          · exact c3
        · exact fin _ 1 (by omega) (fun k h1 h2 => by omega)
      · exact fin _ 1 (by omega) (fun k h1 h2 => by omega)

/-- A kind of runes that is one of bytes: all of 128 or more alike. -/
def KindR (q : Nat → Bool) (p : UInt8 → Bool) : Prop := (∀ b : UInt8, b.toNat < 128 → q b.toNat = p b) ∧ ∃ c, (∀ n, 128 ≤ n → q n = c) ∧ ∀ b : UInt8, 128 ≤ b.toNat → p b = c
/-- The step at a place: the rune there is of the kind, and so are its bytes; or the first byte is not. -/
theorem kind_step {q : Nat → Bool} {p : UInt8 → Bool} (hk : KindR q p) (s : ByteArray) (pos : Nat) (h : pos < s.size) :
    1 ≤ (Utf8.decode s pos).2 ∧ pos + (Utf8.decode s pos).2 ≤ s.size ∧
    ((q (Utf8.decode s pos).1 = true ∧ ∀ m (hm : m < s.size), pos ≤ m → m < pos + (Utf8.decode s pos).2 → p s[m] = true) ∨ (q (Utf8.decode s pos).1 = false ∧ p s[pos] = false)) := by
  by_cases ha : s[pos].toNat < 128
  · rw [decode_ascii s pos h ha]
    refine ⟨Nat.le_refl _, by show pos + 1 ≤ _; omega, ?_⟩
    have e := hk.1 s[pos] ha
    cases hq : q s[pos].toNat with
    | true =>
      refine .inl ⟨rfl, fun m hm h1 h2 => ?_⟩
      obtain rfl : m = pos := by have : m < pos + 1 := h2; omega
      rw [← e, hq]
    | false => exact .inr ⟨rfl, by rw [← e, hq]⟩
  · have hb := decode_bytes s pos h (by omega)
    have hh := decode_high s pos h (by omega)
    obtain ⟨c, c1, c2⟩ := hk.2
    refine ⟨hb.1, hb.2.1, ?_⟩
    cases c with
    | true => exact .inl ⟨c1 _ hh.1, fun m hm h1 h2 => c2 _ (hb.2.2 m hm h1 h2)⟩
    | false => exact .inr ⟨c1 _ hh.1, c2 _ (by omega)⟩
theorem span_whole {s : ByteArray} {k : Nat} {q : UInt8 → Bool} (h2 : k ≤ s.size) (h : ∀ m (hm : m < s.size), m < k → q s[m] = true) (he : ∀ hk : k < s.size, q s[k] = false) : spanN q s.data.toList = k := by
  have := span_from (p := 0) (q := q) (Nat.zero_le k) h2 (fun m hm _ h1 => h m hm h1) he
  simpa using this

def wordR (n : Nat) : Bool := letT n || figT n
def notR (m n : Nat) : Bool := decide (n ≠ m)
def notB (m : Nat) (b : UInt8) : Bool := decide (b.toNat ≠ m)
theorem kind_word : KindR wordR wordT := ⟨fun b _ => rfl, false, fun n hn => by simp [wordR, letT, figT]; omega, fun b hb => by simp [wordT, letT, figT]; omega⟩
theorem kind_fig : KindR figT figU := ⟨fun b _ => rfl, false, fun n hn => by simp [figT]; omega, fun b hb => by simp [figU, figT]; omega⟩
theorem kind_not {m : Nat} (hm : m < 128) : KindR (notR m) (notB m) := ⟨fun b _ => rfl, true, fun n hn => by simp [notR]; omega, fun b hb => by simp [notB]; omega⟩

theorem span_and (p q : UInt8 → Bool) : ∀ l, spanN (fun b => p b && q b) l = min (spanN p l) (spanN q l)
  | [] => rfl
  | b :: l => by
    rw [spanN, spanN, spanN, span_and p q l]
    cases p b <;> cases q b <;> simp <;> omega
theorem span_take (p : UInt8 → Bool) : ∀ (l : List UInt8) (m : Nat), spanN p (l.take m) = min m (spanN p l)
  | l, 0 => by simp [spanN]
  | [], m + 1 => by simp [spanN]
  | b :: l, m + 1 => by
    rw [List.take_succ_cons, spanN, spanN, span_take p l m]
    cases p b <;> simp <;> omega
theorem span_stop (p : UInt8 → Bool) : ∀ (l : List UInt8) (h : spanN p l < l.length), p l[spanN p l] = false
  | [], h => by cases h
  | b :: l, h => by
    cases hp : p b with
    | true =>
      have e : spanN p (b :: l) = spanN p l + 1 := by rw [spanN, if_pos hp]
      have h2 : spanN p l < l.length := by rw [e] at h; simpa using h
      have := span_stop p l h2
      simp only [e, List.getElem_cons_succ]
      exact this
    | false =>
      have e : spanN p (b :: l) = 0 := by rw [spanN, if_neg (by rw [hp]; decide)]
      simp only [e, List.getElem_cons_zero]
      exact hp
theorem inText_is : inText = fun b => notB 34 b && notB 10 b := rfl

/-- A text's token by spans of what stands behind its first byte. -/
def resT (t : ByteArray) : TokD × Int := res10 (t.data.toList.drop 0) 0
def noneT : TokD × Int := (⟨0, noS10⟩, 0)
theorem span_cons {p : UInt8 → Bool} {s : ByteArray} (h : 0 < s.size) (hp : p s[0] = true) : 1 ≤ spanN p s.data.toList ∧ spanN p (s.data.toList.drop (0 + 1)) = spanN p s.data.toList - (0 + 1) := by
  have := drop_at h
  rw [List.drop_zero] at this
  rw [this, spanN, if_pos hp]
  simp
theorem resT_word {t : ByteArray} (h : 0 < t.size) (hl : letT t[0].toNat = true) :
    resT t = if 6 < spanN wordT t.data.toList then noneT else if t.data.toList[spanN wordT t.data.toList]? = some 40 then (⟨6, t.extract 0 (spanN wordT t.data.toList)⟩, ((spanN wordT t.data.toList + 1 : Nat) : Int)) else (⟨1, t.extract 0 (spanN wordT t.data.toList)⟩, (spanN wordT t.data.toList : Int)) := by
  have hs := span_cons (p := wordT) h (by simp [wordT, hl])
  exact res_word h hl hs.1 hs.2
theorem resT_fig {t : ByteArray} (h : 0 < t.size) (hl : letT t[0].toNat = false) (hf : figT t[0].toNat = true) :
    resT t = if 2 < spanN figU t.data.toList then noneT else (⟨2, t.extract 0 (spanN figU t.data.toList)⟩, (spanN figU t.data.toList : Int)) := by
  have hs := span_cons (p := figU) h hf
  exact res_fig h hl hf hs.1 hs.2
/-- What stands behind the first byte. -/
def behT (t : ByteArray) : ByteArray := t.extract 1 t.size
theorem behT_list (t : ByteArray) : (behT t).data.toList = t.data.toList.drop 1 := by
  rw [behT, ext_take]
  show (t.data.toList.drop 1).take (t.size - 1) = _
  rw [List.take_of_length_le (by rw [List.length_drop, toList_size]; omega)]
theorem behT_size {t : ByteArray} (h : 0 < t.size) : (behT t).size = t.size - 1 := by
  rw [← toList_size, behT_list, List.length_drop, toList_size]
theorem behT_ext (t : ByteArray) (k : Nat) (h : 0 < t.size) (hk : k ≤ (behT t).size) : (behT t).extract 0 k = t.extract 1 (k + 1) := by
  rw [ext_take, behT_list, ext_take]
  simp
theorem resT_text {t : ByteArray} (h : 0 < t.size) (hb : t[0] = 34) :
    resT t = if spanN (notB 34) (behT t).data.toList < (behT t).size ∧ 1 ≤ spanN (notB 34) (behT t).data.toList ∧ spanN (notB 34) (behT t).data.toList ≤ 8 ∧ ¬ spanN (notB 10) ((behT t).extract 0 (spanN (notB 34) (behT t).data.toList)).data.toList < spanN (notB 34) (behT t).data.toList
      then (⟨3, (behT t).extract 0 (spanN (notB 34) (behT t).data.toList)⟩, ((spanN (notB 34) (behT t).data.toList + 2 : Nat) : Int)) else noneT := by
  have hsz := behT_size h
  have hln : (t.data.toList.drop 1).length = t.size - 1 := by rw [List.length_drop, toList_size]
  have hr := res_text (s := t) (p := 0) (k := spanN inText (t.data.toList.drop 1) + 1) h hb (by omega) (by simp)
  have e1 : ((behT t).extract 0 (spanN (notB 34) (behT t).data.toList)).data.toList = (t.data.toList.drop 1).take (spanN (notB 34) (t.data.toList.drop 1)) := by
    rw [ext_take, behT_list]
    simp [bytesOf]
  rw [e1, span_take, behT_list, hsz]
  show res10 _ 0 = _
  rw [hr]
  have hand : spanN inText (t.data.toList.drop 1) = min (spanN (notB 34) (t.data.toList.drop 1)) (spanN (notB 10) (t.data.toList.drop 1)) := by rw [inText_is]; exact span_and _ _ _
  have ha := spanN_le (notB 34) (t.data.toList.drop 1)
  have hc := spanN_le (notB 10) (t.data.toList.drop 1)
  have s1 := span_stop (notB 34) (t.data.toList.drop 1)
  have s2 := span_stop (notB 10) (t.data.toList.drop 1)
  have hat : ∀ k (hk : k < (t.data.toList.drop 1).length), t.data.toList[k + 1]? = some (t.data.toList.drop 1)[k] := fun k hk => by
    have h1 := List.getElem?_eq_getElem hk
    rw [List.getElem?_drop, Nat.add_comm] at h1
    exact h1
  rw [hand]
  generalize hA : spanN (notB 34) (t.data.toList.drop 1) = a at *
  generalize hC : spanN (notB 10) (t.data.toList.drop 1) = c at *
  generalize t.data.toList.drop 1 = l at *
  by_cases hall : a < t.size - 1 ∧ 1 ≤ a ∧ a ≤ 8 ∧ ¬ min a c < a
  · have hm : min a c = a := by omega
    have h34 : l[a]'(by omega) = 34 := by
      have := s1 (by omega)
      simp only [notB, decide_eq_false_iff_not, Decidable.not_not] at this
      exact u8_is this (by decide)
    rw [if_pos hall, hm, if_pos ⟨by rw [hat a (by omega), h34], by omega, by omega⟩]
    rw [behT_ext t a h (by omega)]
  · rw [if_neg hall, if_neg]
    · rfl
    · rintro ⟨h1, h2, h3⟩
      by_cases hlt : min a c < l.length
      · have h34 : l[min a c] = 34 := by
          have := hat _ hlt
          rw [h1] at this
          exact (Option.some.inj this).symm
        by_cases hac : a ≤ c
        · have hm : min a c = a := by omega
          exact hall ⟨by omega, by omega, by omega, by omega⟩
        · have hm : min a c = c := by omega
          have := s2 (by omega)
          simp only [notB, decide_eq_false_iff_not, Decidable.not_not] at this
          simp only [hm] at h34
          rw [h34] at this
          exact absurd this (by decide)
      · rw [List.getElem?_eq_none (by rw [toList_size]; omega)] at h1
        cases h1
theorem resT_set {t : ByteArray} (h : 0 < t.size) (hb : t[0] = 91) :
    resT t = if spanN (notB 93) (behT t).data.toList < (behT t).size ∧ okL ((behT t).extract 0 (spanN (notB 93) (behT t).data.toList)).data.toList = true
      then (⟨4, (behT t).extract 0 (spanN (notB 93) (behT t).data.toList)⟩, ((spanN (notB 93) (behT t).data.toList + 2 : Nat) : Int)) else noneT := by
  have hsz := behT_size h
  have hle := spanN_le (notB 93) (t.data.toList.drop 1)
  have hln : (t.data.toList.drop 1).length = t.size - 1 := by rw [List.length_drop, toList_size]
  have hr := res_set (s := t) (p := 0) (k := spanN (notB 93) (t.data.toList.drop 1) + 1) h hb (by omega) (by omega) (by simp; rfl)
  show res10 _ 0 = _
  rw [hr, behT_list, hsz]
  rw [behT_ext t _ h (by omega)]
  by_cases hc : spanN (notB 93) (t.data.toList.drop 1) < t.size - 1 ∧ okL (t.extract 1 (spanN (notB 93) (t.data.toList.drop 1) + 1)).data.toList = true
  · rw [if_pos hc, if_pos ⟨by omega, hc.2⟩]
  · rw [if_neg hc, if_neg (fun c => hc ⟨by omega, c.2⟩)]
    rfl

end Go.Proofs.Ytoldlbefddhhbaa
