/- The program's small functions on bytes and bits. -/
import Derived.Test.YtoldlbefddhhbaaRows
import Derived.Test.YtoldlbefddhhbaaSetText
import Derived.Test.YtoldlbefddhhbaaKindI
import Derived.Laws.Bits64b
namespace Go.Proofs.Ytoldlbefddhhbaa
open Go.RowKit

def bitP (b : Nat) : Nat := if okb b = true then 2 ^ pos b else 0

theorem wrap_pow (k : Nat) (h : k < 64) : IntKind.u64.wrap ((2 : Int) ^ k) = ((2 ^ k : Nat) : Int) := by
  have h1 : (2 : Nat) ^ k < 18446744073709551616 := Nat.lt_of_lt_of_le (Nat.pow_lt_pow_right (by decide) h) (by decide)
  have h2 : ((2 : Int) ^ k) = ((2 ^ k : Nat) : Int) := by simp
  rw [h2, IntKind.wrap_u64]
  generalize 2 ^ k = x at *
  omega
theorem and_pow (m p : Nat) : (m &&& 2 ^ p != 0) = m.testBit p := by
  cases h : m.testBit p with
  | false =>
    have : m &&& 2 ^ p = 0 := by
      apply Nat.eq_of_testBit_eq
      intro i
      rw [Nat.testBit_and, Nat.testBit_two_pow, Nat.zero_testBit]
      by_cases hi : p = i
      · subst hi; simp [h]
      · simp [hi]
    rw [this]; rfl
  | true =>
    have : m &&& 2 ^ p ≠ 0 := by
      intro e
      have h1 : (m &&& 2 ^ p).testBit p = true := by rw [Nat.testBit_and, h, Nat.testBit_two_pow]; simp
      rw [e] at h1
      simp at h1
    simpa using this
theorem bits_andNot_u64_nat (a b : Nat) (ha : a < 18446744073709551616) (hb : b < 18446744073709551616) : bits .andNot .u64 (a : Int) (b : Int) = ((a &&& (18446744073709551615 - b) : Nat) : Int) := by
  have hx : a &&& (18446744073709551615 - b) < 2 ^ 64 := Nat.and_lt_two_pow _ (by omega)
  have h1 : (BitVec.ofInt 64 (a : Int)).toNat = a := by
    rw [BitVec.ofInt_natCast, BitVec.toNat_ofNat]; exact Nat.mod_eq_of_lt (by omega)
  have h2 : (~~~ BitVec.ofInt 64 (b : Int)).toNat = 18446744073709551615 - b := by
    rw [BitVec.toNat_not, BitVec.ofInt_natCast, BitVec.toNat_ofNat, Nat.mod_eq_of_lt (by omega)]
  show IntKind.u64.wrap ((BitVec.ofInt 64 (a : Int) &&& ~~~ BitVec.ofInt 64 (b : Int)).toNat : Int) = _
  rw [BitVec.toNat_and, h1, h2, IntKind.wrap_u64]
  omega
theorem bitP_lt (b : Nat) : bitP b < 18446744073709551616 := by
  unfold bitP
  split
  · rename_i h
    have hv := (valid_iff _).1 (byteP_pos h).2
    exact Nat.lt_of_lt_of_le (Nat.pow_lt_pow_right (by decide) (by omega : pos b < 64)) (by decide)
  · decide

theorem bit_any (b : Nat) (hb : b < 256) (w : World) :
    Calls Try.prog 60 #[.int .u8 b] w fun e w' => e = .returned (.int .u64 (bitP b : Nat)) ∧ w' = w := by
  have HK : Hid (∀ W, _) := fun W => kind_any b hb W
  by_cases h1 : 48 ≤ b ∧ b ≤ 57
  · have HV : Hid (IntKind.u64.wrap ((2 : Int) ^ (b - 48)) = ((bitP b : Nat) : Int)) := by rw [Hid, bitP, if_pos ((okb_iff b).2 (.inr h1)), pos, if_pos (by omega), wrap_pow _ (by omega)]
    have hk : kindP b = 1 := by simp only [kindP, if_pos h1]
    rw [hk] at HK
    obtain ⟨h1, h2⟩ := h1
    clear hk
    go_enter Try.func60, Try.ntmps60
    go_wp2_with (go_at_call 59; refine (HK.out _).mono ?_; rintro e wq ⟨rfl, hw⟩; rw [hw]; clear hw)
    go_ret
    exact ⟨congrArg (fun z => Ending.returned (Value.int .u64 z)) HV.out, rfl⟩
  · by_cases h2 : 97 ≤ b ∧ b ≤ 122
    · have HV : Hid (IntKind.u64.wrap ((2 : Int) ^ (b - 97 + 16)) = ((bitP b : Nat) : Int)) := by rw [Hid, bitP, if_pos ((okb_iff b).2 (.inl h2)), pos, if_neg (by omega), wrap_pow _ (by omega)]
      have hk : kindP b = 2 := by simp only [kindP, if_neg h1, if_pos h2]
      rw [hk] at HK
      obtain ⟨h2, h3⟩ := h2
      clear hk h1
      have e1 : ((b : Int) - 97 + 16).toNat = b - 97 + 16 := by omega
      go_enter Try.func60, Try.ntmps60
      go_wp2_with (go_at_call 59; refine (HK.out _).mono ?_; rintro e wq ⟨rfl, hw⟩; rw [hw]; clear hw)
      go_ret
      exact ⟨congrArg (fun z => Ending.returned (Value.int .u64 z)) HV.out, rfl⟩
    · have HV : Hid (bitP b = 0) := by rw [Hid, bitP, if_neg]; rw [okb_iff]; omega
      have hk : kindP b = 0 := by simp only [kindP, if_neg h1, if_neg h2]
      rw [hk] at HK
      clear hk h1 h2
      go_enter Try.func60, Try.ntmps60
      go_wp2_with (go_at_call 59; refine (HK.out _).mono ?_; rintro e wq ⟨rfl, hw⟩; rw [hw]; clear hw)
      go_ret
      rw [HV.out]
      exact ⟨rfl, rfl⟩



theorem joined_any (a b : Nat) (ha : a < 18446744073709551616) (hb : b < 18446744073709551616) (w : World) :
    Calls Try.prog 54 #[.int .u64 a, .int .u64 b] w fun e w' => e = .returned (.int .u64 (a ||| b : Nat)) ∧ w' = w := by
  go_enter Try.func54, Try.ntmps54
  go_wp2
  go_ret
  exact ⟨congrArg (fun z => Ending.returned (Value.int .u64 z)) (bits_or_u64_nat a b ha hb), rfl⟩







/-- The row of two bytes, as bits; nothing where the two bound no row. -/
def rowP (a c : Nat) : Nat := if (okb a && rowOk a c) = true then rowM (a, c) else 0
theorem rowP_lt (a c : Nat) : rowP a c < 18446744073709551616 := by
  unfold rowP
  split
  · rename_i h
    rw [Bool.and_eq_true] at h
    have hg := good_pos (rowOk_good h.1 h.2)
    have h1 : 2 ^ (pos c + 1) ≤ 2 ^ 42 := Nat.pow_le_pow_right (by decide) (by have := hg.2; simp only at this; omega)
    have h2 : rowM (a, c) ≤ 2 ^ (pos c + 1) := Nat.sub_le _ _
    exact Nat.lt_of_le_of_lt (Nat.le_trans h2 h1) (by decide)
  · decide

theorem kind_same {a c : Nat} (h : kindP a = kindP c) (ha : okb a = true) : okb c = true ∧ (57 < c ↔ 57 < a) := by
  rw [okb_iff] at ha ⊢
  unfold kindP at h
  split at h
  · split at h
    · omega
    · split at h <;> omega
  · split at h
    · split at h
      · omega
      · split at h <;> omega
    · omega

/-- What the walk over rowOf leans on. -/
theorem rowP_cases (a c : Nat) : (kindP a ≠ kindP c ∨ c < a) ∧ rowP a c = 0 ∨ kindP a = kindP c ∧ a ≤ c ∧ bitP c * 2 < 18446744073709551616 ∧ bitP a ≤ bitP c * 2 ∧ rowP a c = bitP c * 2 - bitP a := by
  by_cases hk : kindP a = kindP c
  · by_cases hl : c < a
    · refine .inl ⟨.inr hl, ?_⟩
      rw [rowP, if_neg]
      rw [Bool.and_eq_true, rowOk]
      rintro ⟨_, h⟩
      simp only [Bool.and_eq_true, decide_eq_true_eq] at h
      omega
    · refine .inr ⟨hk, by omega, ?_⟩
      cases ha : okb a with
      | true =>
        obtain ⟨h1, h2⟩ := kind_same hk ha
        have hr : rowOk a c = true := by
          rw [rowOk, h1, decide_eq_true (by omega : a ≤ c)]
          simp [h2]
        have hg := good_pos (rowOk_good ha hr)
        simp only at hg
        have e1 : bitP c * 2 = 2 ^ (pos c + 1) := by rw [bitP, if_pos h1, Nat.pow_succ]
        have e2 : bitP a = 2 ^ pos a := by rw [bitP, if_pos ha]
        rw [e1, e2, rowP, ha, hr, if_pos (by decide)]
        refine ⟨?_, ?_, rfl⟩
        · exact Nat.lt_of_lt_of_le (Nat.pow_lt_pow_right (by decide) (by omega : pos c + 1 < 64)) (by decide)
        · exact Nat.pow_le_pow_right (by decide) (by omega)
      | false =>
        have hc : okb c = false := by
          cases hc : okb c with
          | false => rfl
          | true => rw [(kind_same hk.symm hc).1] at ha; cases ha
        simp [bitP, ha, hc, rowP]
  · refine .inl ⟨.inl hk, ?_⟩
    rw [rowP, if_neg]
    rw [Bool.and_eq_true]
    rintro ⟨ha, h⟩
    obtain ⟨h1, h2, h3, h4⟩ := rowOk_good ha h
    rw [okb_iff] at h1 h2
    apply hk
    simp only at h1 h2 h3 h4
    unfold kindP
    by_cases h5 : a ≤ 57
    · rw [if_pos (by omega), if_pos (by omega)]
    · rw [if_neg (by omega), if_pos (by omega), if_neg (by omega), if_pos (by omega)]

set_option maxHeartbeats 800000 in
set_option maxRecDepth 100000 in
theorem rowOf_any (a c : Nat) (ha : a < 256) (hc : c < 256) (w : World) :
    Calls Try.prog 53 #[.int .u8 a, .int .u8 c] w fun e w' => e = .returned (.int .u64 (rowP a c : Nat)) ∧ w' = w := by
  rcases rowP_cases a c with ⟨h, hr⟩ | ⟨hk, hl, h1, h2, hr⟩
  · have HR : Hid (rowP a c = 0) := hr
    clear hr
    by_cases hk : kindP a = kindP c
    · have hl : c < a := h.resolve_left (fun h => h hk)
      have hk' : (kindP a != kindP c) = false := by simpa using hk
      clear h hk
      go_enter Try.func53, Try.ntmps53
      go_wp2_with (go_at_call 59; refine (kind_any _ (by omega) _).mono ?_; rintro e wq ⟨rfl, hw⟩; rw [hw]; clear hw)
      go_ret
      rw [HR.out]
      exact ⟨rfl, rfl⟩
    · clear h
      have hk' : (kindP a != kindP c) = true := by simpa using hk
      clear hk
      go_enter Try.func53, Try.ntmps53
      go_wp2_with (go_at_call 59; refine (kind_any _ (by omega) _).mono ?_; rintro e wq ⟨rfl, hw⟩; rw [hw]; clear hw)
      go_ret
      rw [HR.out]
      exact ⟨rfl, rfl⟩
  · have HR : Hid (((bitP c : Int) * 2 - (bitP a : Int)) = ((rowP a c : Nat) : Int)) := by rw [Hid, hr]; omega
    have hk' : (kindP a != kindP c) = false := by simpa using hk
    clear hr hk
    go_enter Try.func53, Try.ntmps53
    go_wp2_with (first
      | (go_at_call 59; refine (kind_any _ (by omega) _).mono ?_; rintro e wq ⟨rfl, hw⟩; rw [hw]; clear hw)
      | (go_at_call 60; refine (bit_any _ (by omega) _).mono ?_; rintro e wq ⟨rfl, hw⟩; rw [hw]; clear hw))
    go_ret
    exact ⟨congrArg (fun z => Ending.returned (Value.int .u64 z)) HR.out, rfl⟩

end Go.Proofs.Ytoldlbefddhhbaa
