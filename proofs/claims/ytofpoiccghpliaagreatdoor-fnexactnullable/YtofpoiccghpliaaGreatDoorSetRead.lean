/- The program's small functions on bytes and bits. -/
/- The program's readSet, SetOk and InSet. -/
import Derived.Test.YtofpoiccghpliaaGreatDoorRows
import Derived.Test.YtofpoiccghpliaaGreatDoorKindI
import Derived.Laws.Bits64b
namespace Go.Proofs.YtofpoiccghpliaaGreatDoor
open Go.RowKit

def bitP (b : Nat) : Nat := if okb b = true then 2 ^ pos b else 0

theorem wrap_pow (k : Nat) (h : k < 64) : IntKind.u64.wrap ((2 : Int) ^ k) = ((2 ^ k : Nat) : Int) := by
  have h1 : (2 : Nat) ^ k < 18446744073709551616 := Nat.lt_of_lt_of_le (Nat.pow_lt_pow_right (by decide) h) (by decide)
  have h2 : ((2 : Int) ^ k) = ((2 ^ k : Nat) : Int) := by simp
  rw [h2, IntKind.wrap_u64]
  generalize 2 ^ k = x at *
  omega
theorem and_pow (m p : Nat) : (m &&& 2 ^ p != 0) = m.testBit p := by
  cases h : m.testBit p with
  | false =>
    have : m &&& 2 ^ p = 0 := by
      apply Nat.eq_of_testBit_eq
      intro i
      rw [Nat.testBit_and, Nat.testBit_two_pow, Nat.zero_testBit]
      by_cases hi : p = i
      · subst hi; simp [h]
      · simp [hi]
    rw [this]; rfl
  | true =>
    have : m &&& 2 ^ p ≠ 0 := by
      intro e
      have h1 : (m &&& 2 ^ p).testBit p = true := by rw [Nat.testBit_and, h, Nat.testBit_two_pow]; simp
      rw [e] at h1
      simp at h1
    simpa using this
theorem bits_andNot_u64_nat (a b : Nat) (ha : a < 18446744073709551616) (hb : b < 18446744073709551616) : bits .andNot .u64 (a : Int) (b : Int) = ((a &&& (18446744073709551615 - b) : Nat) : Int) := by
  have hx : a &&& (18446744073709551615 - b) < 2 ^ 64 := Nat.and_lt_two_pow _ (by omega)
  have h1 : (BitVec.ofInt 64 (a : Int)).toNat = a := by
    rw [BitVec.ofInt_natCast, BitVec.toNat_ofNat]; exact Nat.mod_eq_of_lt (by omega)
  have h2 : (~~~ BitVec.ofInt 64 (b : Int)).toNat = 18446744073709551615 - b := by
    rw [BitVec.toNat_not, BitVec.ofInt_natCast, BitVec.toNat_ofNat, Nat.mod_eq_of_lt (by omega)]
  show IntKind.u64.wrap ((BitVec.ofInt 64 (a : Int) &&& ~~~ BitVec.ofInt 64 (b : Int)).toNat : Int) = _
  rw [BitVec.toNat_and, h1, h2, IntKind.wrap_u64]
  omega
theorem bitP_lt (b : Nat) : bitP b < 18446744073709551616 := by
  unfold bitP
  split
  · rename_i h
    have hv := (valid_iff _).1 (byteP_pos h).2
    exact Nat.lt_of_lt_of_le (Nat.pow_lt_pow_right (by decide) (by omega : pos b < 64)) (by decide)
  · decide

theorem bit_any (b : Nat) (hb : b < 256) (w : World) :
    Calls Tryz.prog 95 #[.int .u8 b] w fun e w' => e = .returned (.int .u64 (bitP b : Nat)) ∧ w' = w := by
  have HK : Hid (∀ W, _) := fun W => kind_any b hb W
  by_cases h1 : 48 ≤ b ∧ b ≤ 57
  · have HV : Hid (IntKind.u64.wrap ((2 : Int) ^ (b - 48)) = ((bitP b : Nat) : Int)) := by rw [Hid, bitP, if_pos ((okb_iff b).2 (.inr h1)), pos, if_pos (by omega), wrap_pow _ (by omega)]
    have hk : kindP b = 1 := by simp only [kindP, if_pos h1]
    rw [hk] at HK
    obtain ⟨h1, h2⟩ := h1
    clear hk
    go_enter Tryz.func95, Tryz.ntmps95
    go_wp2_with (go_at_call 84; refine (HK.out _).mono ?_; rintro e wq ⟨rfl, hw⟩; rw [hw]; clear hw)
    go_ret
    exact ⟨congrArg (fun z => Ending.returned (Value.int .u64 z)) HV.out, rfl⟩
  · by_cases h2 : 97 ≤ b ∧ b ≤ 122
    · have HV : Hid (IntKind.u64.wrap ((2 : Int) ^ (b - 97 + 16)) = ((bitP b : Nat) : Int)) := by rw [Hid, bitP, if_pos ((okb_iff b).2 (.inl h2)), pos, if_neg (by omega), wrap_pow _ (by omega)]
      have hk : kindP b = 2 := by simp only [kindP, if_neg h1, if_pos h2]
      rw [hk] at HK
      obtain ⟨h2, h3⟩ := h2
      clear hk h1
      have e1 : ((b : Int) - 97 + 16).toNat = b - 97 + 16 := by omega
      go_enter Tryz.func95, Tryz.ntmps95
      go_wp2_with (go_at_call 84; refine (HK.out _).mono ?_; rintro e wq ⟨rfl, hw⟩; rw [hw]; clear hw)
      go_ret
      exact ⟨congrArg (fun z => Ending.returned (Value.int .u64 z)) HV.out, rfl⟩
    · have HV : Hid (bitP b = 0) := by rw [Hid, bitP, if_neg]; rw [okb_iff]; omega
      have hk : kindP b = 0 := by simp only [kindP, if_neg h1, if_neg h2]
      rw [hk] at HK
      clear hk h1 h2
      go_enter Tryz.func95, Tryz.ntmps95
      go_wp2_with (go_at_call 84; refine (HK.out _).mono ?_; rintro e wq ⟨rfl, hw⟩; rw [hw]; clear hw)
      go_ret
      rw [HV.out]
      exact ⟨rfl, rfl⟩

theorem byteAt_any (i : Nat) (hi : i < 64) (w : World) :
    Calls Tryz.prog 105 #[.int .i64 i] w fun e w' => e = .returned (.int .u8 (byteP i : Nat)) ∧ w' = w := by
  by_cases h1 : i < 16
  · have HV : Hid (byteP i = 48 + i) := by rw [Hid, byteP, if_pos h1]
    go_enter Tryz.func105, Tryz.ntmps105
    go_wp2
    go_ret
    rw [HV.out]
    exact ⟨rfl, rfl⟩
  · have HV : Hid ((97 : Int) + ((i : Int) - 16) = ((byteP i : Nat) : Int)) := by rw [Hid, byteP, if_neg h1]; omega
    have h2 : 16 ≤ i := by omega
    go_enter Tryz.func105, Tryz.ntmps105
    go_wp2
    go_ret
    exact ⟨congrArg (fun z => Ending.returned (Value.int .u8 z)) HV.out, rfl⟩

theorem joined_any (a b : Nat) (ha : a < 18446744073709551616) (hb : b < 18446744073709551616) (w : World) :
    Calls Tryz.prog 92 #[.int .u64 a, .int .u64 b] w fun e w' => e = .returned (.int .u64 (a ||| b : Nat)) ∧ w' = w := by
  go_enter Tryz.func92, Tryz.ntmps92
  go_wp2
  go_ret
  exact ⟨congrArg (fun z => Ending.returned (Value.int .u64 z)) (bits_or_u64_nat a b ha hb), rfl⟩

theorem without_any (a b : Nat) (ha : a < 18446744073709551616) (hb : b < 18446744073709551616) (w : World) :
    Calls Tryz.prog 94 #[.int .u64 a, .int .u64 b] w fun e w' => e = .returned (.int .u64 (a &&& (18446744073709551615 - b) : Nat)) ∧ w' = w := by
  go_enter Tryz.func94, Tryz.ntmps94
  go_wp2
  go_ret
  exact ⟨congrArg (fun z => Ending.returned (Value.int .u64 z)) (bits_andNot_u64_nat a b ha hb), rfl⟩

/-- The row of two bytes, as bits; nothing where the two bound no row. -/
def rowP (a c : Nat) : Nat := if (okb a && rowOk a c) = true then rowM (a, c) else 0
theorem rowP_lt (a c : Nat) : rowP a c < 18446744073709551616 := by
  unfold rowP
  split
  · rename_i h
    rw [Bool.and_eq_true] at h
    have hg := good_pos (rowOk_good h.1 h.2)
    have h1 : 2 ^ (pos c + 1) ≤ 2 ^ 42 := Nat.pow_le_pow_right (by decide) (by have := hg.2; simp only at this; omega)
    have h2 : rowM (a, c) ≤ 2 ^ (pos c + 1) := Nat.sub_le _ _
    exact Nat.lt_of_le_of_lt (Nat.le_trans h2 h1) (by decide)
  · decide

theorem kind_same {a c : Nat} (h : kindP a = kindP c) (ha : okb a = true) : okb c = true ∧ (57 < c ↔ 57 < a) := by
  rw [okb_iff] at ha ⊢
  unfold kindP at h
  split at h
  · split at h
    · omega
    · split at h <;> omega
  · split at h
    · split at h
      · omega
      · split at h <;> omega
    · omega

/-- What the walk over rowOf leans on. -/
theorem rowP_cases (a c : Nat) : (kindP a ≠ kindP c ∨ c < a) ∧ rowP a c = 0 ∨ kindP a = kindP c ∧ a ≤ c ∧ bitP c * 2 < 18446744073709551616 ∧ bitP a ≤ bitP c * 2 ∧ rowP a c = bitP c * 2 - bitP a := by
  by_cases hk : kindP a = kindP c
  · by_cases hl : c < a
    · refine .inl ⟨.inr hl, ?_⟩
      rw [rowP, if_neg]
      rw [Bool.and_eq_true, rowOk]
      rintro ⟨_, h⟩
      simp only [Bool.and_eq_true, decide_eq_true_eq] at h
      omega
    · refine .inr ⟨hk, by omega, ?_⟩
      cases ha : okb a with
      | true =>
        obtain ⟨h1, h2⟩ := kind_same hk ha
        have hr : rowOk a c = true := by
          rw [rowOk, h1, decide_eq_true (by omega : a ≤ c)]
          simp [h2]
        have hg := good_pos (rowOk_good ha hr)
        simp only at hg
        have e1 : bitP c * 2 = 2 ^ (pos c + 1) := by rw [bitP, if_pos h1, Nat.pow_succ]
        have e2 : bitP a = 2 ^ pos a := by rw [bitP, if_pos ha]
        rw [e1, e2, rowP, ha, hr, if_pos (by decide)]
        refine ⟨?_, ?_, rfl⟩
        · exact Nat.lt_of_lt_of_le (Nat.pow_lt_pow_right (by decide) (by omega : pos c + 1 < 64)) (by decide)
        · exact Nat.pow_le_pow_right (by decide) (by omega)
      | false =>
        have hc : okb c = false := by
          cases hc : okb c with
          | false => rfl
          | true => rw [(kind_same hk.symm hc).1] at ha; cases ha
        simp [bitP, ha, hc, rowP]
  · refine .inl ⟨.inl hk, ?_⟩
    rw [rowP, if_neg]
    rw [Bool.and_eq_true]
    rintro ⟨ha, h⟩
    obtain ⟨h1, h2, h3, h4⟩ := rowOk_good ha h
    rw [okb_iff] at h1 h2
    apply hk
    simp only at h1 h2 h3 h4
    unfold kindP
    by_cases h5 : a ≤ 57
    · rw [if_pos (by omega), if_pos (by omega)]
    · rw [if_neg (by omega), if_pos (by omega), if_neg (by omega), if_pos (by omega)]

set_option maxHeartbeats 800000 in
set_option maxRecDepth 100000 in
theorem rowOf_any (a c : Nat) (ha : a < 256) (hc : c < 256) (w : World) :
    Calls Tryz.prog 91 #[.int .u8 a, .int .u8 c] w fun e w' => e = .returned (.int .u64 (rowP a c : Nat)) ∧ w' = w := by
  rcases rowP_cases a c with ⟨h, hr⟩ | ⟨hk, hl, h1, h2, hr⟩
  · have HR : Hid (rowP a c = 0) := hr
    clear hr
    by_cases hk : kindP a = kindP c
    · have hl : c < a := h.resolve_left (fun h => h hk)
      have hk' : (kindP a != kindP c) = false := by simpa using hk
      clear h hk
      go_enter Tryz.func91, Tryz.ntmps91
      go_wp2_with (go_at_call 84; refine (kind_any _ (by omega) _).mono ?_; rintro e wq ⟨rfl, hw⟩; rw [hw]; clear hw)
      go_ret
      rw [HR.out]
      exact ⟨rfl, rfl⟩
    · clear h
      have hk' : (kindP a != kindP c) = true := by simpa using hk
      clear hk
      go_enter Tryz.func91, Tryz.ntmps91
      go_wp2_with (go_at_call 84; refine (kind_any _ (by omega) _).mono ?_; rintro e wq ⟨rfl, hw⟩; rw [hw]; clear hw)
      go_ret
      rw [HR.out]
      exact ⟨rfl, rfl⟩
  · have HR : Hid (((bitP c : Int) * 2 - (bitP a : Int)) = ((rowP a c : Nat) : Int)) := by rw [Hid, hr]; omega
    have hk' : (kindP a != kindP c) = false := by simpa using hk
    clear hr hk
    go_enter Tryz.func91, Tryz.ntmps91
    go_wp2_with (first
      | (go_at_call 84; refine (kind_any _ (by omega) _).mono ?_; rintro e wq ⟨rfl, hw⟩; rw [hw]; clear hw)
      | (go_at_call 95; refine (bit_any _ (by omega) _).mono ?_; rintro e wq ⟨rfl, hw⟩; rw [hw]; clear hw))
    go_ret
    exact ⟨congrArg (fun z => Ending.returned (Value.int .u64 z)) HR.out, rfl⟩

end Go.Proofs.YtofpoiccghpliaaGreatDoor

namespace Go.Proofs.YtofpoiccghpliaaGreatDoor
open Go.RowKit

/-- What is read up to a place. -/
def ReadTo (l : List UInt8) (rs : List (Nat × Nat)) (k : Nat) : Prop := rowsL l = (rowsL (l.drop k)).map (rs ++ ·) ∧ ∀ p ∈ rs, GoodR p
theorem readTo_start (l : List UInt8) : ReadTo l [] 0 := ⟨by simp, fun _ h => by cases h⟩
theorem readTo_none {l : List UInt8} {rs : List (Nat × Nat)} {k : Nat} (h : ReadTo l rs k) (hn : rowsL (l.drop k) = none) : rowsL l = none := by rw [h.1, hn]; rfl
theorem readTo_step {l : List UInt8} {rs : List (Nat × Nat)} {k j : Nat} {p : Nat × Nat} (h : ReadTo l rs k) (hs : rowsL (l.drop k) = (rowsL (l.drop j)).map (p :: ·)) (hg : GoodR p) : ReadTo l (rs ++ [p]) j := by
  refine ⟨?_, fun q hq => ?_⟩
  · rw [h.1, hs, Option.map_map]
    congr 1
    funext x
    simp
  · rcases List.mem_append.1 hq with hq | hq
    · exact h.2 q hq
    · rw [List.mem_singleton.1 hq]; exact hg
theorem readTo_end {l : List UInt8} {rs : List (Nat × Nat)} {k : Nat} (h : ReadTo l rs k) (hk : l.length ≤ k) : rowsL l = some rs := by
  rw [h.1, List.drop_of_length_le hk]
  simp [rowsL]
theorem maskL_of {l : List UInt8} {rs : List (Nat × Nat)} (h : rowsL l = some rs) (hl : l.length ≤ 12) : maskL l = maskR rs := by rw [maskL, if_neg (by omega), h]
theorem maskL_no {l : List UInt8} (h : rowsL l = none) : maskL l = 0 := by
  rw [maskL, h]
  split <;> rfl
theorem maskR_lt {rs : List (Nat × Nat)} (h : ∀ p ∈ rs, GoodR p) : maskR rs < 18446744073709551616 := by
  have := testBit_lt (m := maskR rs) fun i hi => by
    rw [maskR_bit rs h i, Bool.and_eq_true, valid_iff] at hi
    omega
  omega

theorem rowP_yes {a c : Nat} (ha : okb a = true) (h : rowOk a c = true) : rowP a c = rowM (a, c) := by rw [rowP, ha, h]; rfl
theorem rowP_no {a c : Nat} (h : (okb a && rowOk a c) = false) : rowP a c = 0 := by rw [rowP, h]; rfl
theorem rowOk_self {a : Nat} (h : okb a = true) : rowOk a a = true := by simp [rowOk, h]

theorem rows_bad' (l : List UInt8) (i : Nat) (h : i + 2 < l.length) (hb : l[i + 1].toNat = 45) (hr : (okb l[i].toNat && rowOk l[i].toNat l[i + 2].toNat) = false) : rowsL (l.drop i) = none := by
  cases ha : okb l[i].toNat with
  | false => exact rows_bad l i (by omega) ha
  | true => exact rows_norow l i h hb (by rw [ha, Bool.true_and] at hr; exact hr)

set_option maxHeartbeats 1600000 in
set_option maxRecDepth 100000 in
theorem readSet_any (s : ByteArray) (w : World) :
    Calls Tryz.prog 74 #[.string s] w fun e w' => e = .returned (.int .u64 (maskL s.data.toList : Nat)) ∧ Below w.heap.size w w' := by
  have HL : Hid (s.data.toList.length = s.size) := by simp [Hid]
  by_cases hlen : 12 < s.size
  · have hlen1 : (12 : Int) < s.size := by omega
    have HV : Hid (maskL s.data.toList = 0) := by rw [Hid, maskL, if_pos (by rw [HL.out]; exact hlen)]
    go_enter Tryz.func74, Tryz.ntmps74
    go_wp2
    go_ret
    rw [HV.out]
    exact ⟨rfl, Below.refl _ _⟩
  · have hlen1 : s.size ≤ 12 := by omega
    clear hlen
    go_enter Tryz.func74, Tryz.ntmps74
    go_wp2
    go_loopw [3, 4] (fun mv iv wr => ∃ (k : Nat) (rs : List (Nat × Nat)), mv = .int .u64 (maskR rs : Nat) ∧ iv = .int .i64 k ∧ k ≤ s.size ∧ ReadTo s.data.toList rs k ∧ Below w.heap.size w wr) (fun _ iv _ => s.size - (intOf iv).toNat)
    case atStart => exact ⟨0, [], rfl, rfl, Nat.zero_le _, readTo_start _, Below.refl _ _⟩
    case round =>
      obtain ⟨k, rs, rfl, rfl, hk, hread, hbel⟩ := hrel
      have HR : Hid (ReadTo s.data.toList rs k) := hread
      have HB : Hid (Below w.heap.size w wr) := hbel
      have hm := maskR_lt hread.2
      clear hread hbel
      by_cases hlt : k < s.size
      · have hu := s[k].toNat_lt
        have g1 : (0 : Int) ≤ (k : Int) := by omega
        have g2 : (k : Int) < (s.size : Int) := by omega
        by_cases hd : ∃ h2 : k + 2 < s.size, s[k + 1].toNat = 45
        · obtain ⟨h2, h45⟩ := hd
          have d1 : ((s[k + 1].toNat : Int) == 45) = true := by rw [h45]; rfl
          have hu2 := s[k + 2].toNat_lt
          have hrl := rowP_lt s[k].toNat s[k + 2].toNat
          have HD : Hid (s[k + 1].toNat = 45) := h45
          clear h45
          cases hrow : (okb s[k].toNat && rowOk s[k].toNat s[k + 2].toNat) with
          | false =>
            have HV : Hid (maskL s.data.toList = 0) := maskL_no (readTo_none HR.out (rows_bad' _ k (by rw [HL.out]; exact h2) HD.out hrow))
            have hp : rowP s[k].toNat s[k + 2].toNat = 0 := rowP_no hrow
            clear hrow
            go_wp2
            go_quiet (fail)
            go_wp2_with (go_at_call 91; refine (rowOf_any _ _ (by omega) (by omega) _).mono ?_; rw [hp]; rintro e wq ⟨rfl, hw⟩; rw [hw]; clear hw)
            go_ret
            rw [HV.out]
            exact ⟨rfl, bel_drewN HB.out _⟩
          | true =>
            rw [Bool.and_eq_true] at hrow
            have hp : rowP s[k].toNat s[k + 2].toNat = rowM (s[k].toNat, s[k + 2].toNat) := rowP_yes hrow.1 hrow.2
            have hne : ((rowM (s[k].toNat, s[k + 2].toNat) : Nat) : Int) ≠ 0 := by
              have := rowM_pos (rowOk_good hrow.1 hrow.2)
              omega
            have hne2 : (((rowM (s[k].toNat, s[k + 2].toNat) : Nat) : Int) == 0) = false := by simpa using hne
            rw [hp] at hrl
            have HS : Hid (ReadTo s.data.toList (rs ++ [(s[k].toNat, s[k + 2].toNat)]) (k + 3)) := readTo_step HR.out (rows_row _ k (by rw [HL.out]; exact h2) hrow.1 HD.out hrow.2) (rowOk_good hrow.1 hrow.2)
            have HM : Hid (maskR (rs ++ [(s[k].toNat, s[k + 2].toNat)]) = maskR rs ||| rowM (s[k].toNat, s[k + 2].toNat)) := maskR_app _ _
            clear hrow hne
            generalize rowM (s[k].toNat, s[k + 2].toNat) = x at *
            go_wp2
            go_quiet (fail)
            go_wp2_with (first
              | (go_at_call 91; refine (rowOf_any _ _ (by omega) (by omega) _).mono ?_; rw [hp]; rintro e wq ⟨rfl, hw⟩; rw [hw]; clear hw)
              | (go_at_call 92; refine (joined_any _ _ hm hrl _).mono ?_; rintro e wq ⟨rfl, hw⟩; rw [hw]; clear hw))
            go_roundw
            case rel => exact ⟨k + 3, _, by rw [HM.out], by go_num, by omega, HS.out, bel_drewN HB.out _⟩
            case measure => simp [intOf]; omega
        · have hone : ∀ h2 : k + 2 < s.data.toList.length, s.data.toList[k + 1].toNat ≠ 45 := fun h2 h45 => hd ⟨by rw [HL.out] at h2; exact h2, h45⟩
          have hrl := rowP_lt s[k].toNat s[k].toNat
          cases ha : okb s[k].toNat with
          | false =>
            have HV : Hid (maskL s.data.toList = 0) := maskL_no (readTo_none HR.out (rows_bad _ k (by rw [HL.out]; exact hlt) ha))
            have hp : rowP s[k].toNat s[k].toNat = 0 := rowP_no (by rw [ha]; rfl)
            clear ha hone
            by_cases h2 : k + 2 < s.size
            · have d1 : ((s[k + 1].toNat : Int) == 45) = false := by
                have : s[k + 1].toNat ≠ 45 := fun h45 => hd ⟨h2, h45⟩
                simpa using (by omega : (s[k + 1].toNat : Int) ≠ 45)
              clear hd
              go_wp2
              go_quiet (fail)
              go_wp2_with (go_at_call 91; refine (rowOf_any _ _ (by omega) (by omega) _).mono ?_; rw [hp]; rintro e wq ⟨rfl, hw⟩; rw [hw]; clear hw)
              go_ret
              rw [HV.out]
              exact ⟨rfl, bel_drewN HB.out _⟩
            · clear hd
              go_wp2
              go_quiet (fail)
              go_wp2_with (go_at_call 91; refine (rowOf_any _ _ (by omega) (by omega) _).mono ?_; rw [hp]; rintro e wq ⟨rfl, hw⟩; rw [hw]; clear hw)
              go_ret
              rw [HV.out]
              exact ⟨rfl, bel_drewN HB.out _⟩
          | true =>
            have hp : rowP s[k].toNat s[k].toNat = rowM (s[k].toNat, s[k].toNat) := rowP_yes ha (rowOk_self ha)
            have hg : GoodR (s[k].toNat, s[k].toNat) := rowOk_good ha (rowOk_self ha)
            have hne2 : (((rowM (s[k].toNat, s[k].toNat) : Nat) : Int) == 0) = false := by
              have := rowM_pos hg
              simpa using (by omega : ((rowM (s[k].toNat, s[k].toNat) : Nat) : Int) ≠ 0)
            rw [hp] at hrl
            have HS : Hid (ReadTo s.data.toList (rs ++ [(s[k].toNat, s[k].toNat)]) (k + 1)) := readTo_step HR.out (rows_one _ k (by rw [HL.out]; exact hlt) ha hone) hg
            have HM : Hid (maskR (rs ++ [(s[k].toNat, s[k].toNat)]) = maskR rs ||| rowM (s[k].toNat, s[k].toNat)) := maskR_app _ _
            clear ha hg hone
            generalize rowM (s[k].toNat, s[k].toNat) = x at *
            by_cases h2 : k + 2 < s.size
            · have d1 : ((s[k + 1].toNat : Int) == 45) = false := by
                have : s[k + 1].toNat ≠ 45 := fun h45 => hd ⟨h2, h45⟩
                simpa using (by omega : (s[k + 1].toNat : Int) ≠ 45)
              clear hd
              go_wp2
              go_quiet (fail)
              go_wp2_with (first
                | (go_at_call 91; refine (rowOf_any _ _ (by omega) (by omega) _).mono ?_; rw [hp]; rintro e wq ⟨rfl, hw⟩; rw [hw]; clear hw)
                | (go_at_call 92; refine (joined_any _ _ hm hrl _).mono ?_; rintro e wq ⟨rfl, hw⟩; rw [hw]; clear hw))
              go_roundw
              case rel => exact ⟨k + 1, _, by rw [HM.out], by go_num, by omega, HS.out, bel_drewN HB.out _⟩
              case measure => simp [intOf]; omega
            · clear hd
              go_wp2
              go_quiet (fail)
              go_wp2_with (first
                | (go_at_call 91; refine (rowOf_any _ _ (by omega) (by omega) _).mono ?_; rw [hp]; rintro e wq ⟨rfl, hw⟩; rw [hw]; clear hw)
                | (go_at_call 92; refine (joined_any _ _ hm hrl _).mono ?_; rintro e wq ⟨rfl, hw⟩; rw [hw]; clear hw))
              go_roundw
              case rel => exact ⟨k + 1, _, by rw [HM.out], by go_num, by omega, HS.out, bel_drewN HB.out _⟩
              case measure => simp [intOf]; omega
      · obtain rfl : k = s.size := by omega
        have HV : Hid (maskL s.data.toList = maskR rs) := maskL_of (readTo_end HR.out (by rw [HL.out]; exact Nat.le_refl _)) (by rw [HL.out]; exact hlen1)
        go_wp2
        go_ret
        rw [HV.out]
        exact ⟨rfl, HB.out⟩

theorem implSetOk_any (s : ByteArray) (w : World) :
    Calls Tryz.prog 88 #[.string s] w fun e w' => e = .returned (.bool (okL s.data.toList)) ∧ Below w.heap.size w w' := by
  have HV : Hid ((((maskL s.data.toList : Nat) : Int) != 0) = okL s.data.toList) := by rw [Hid, maskL_ok, Bool.eq_iff_iff]; simp
  have HR : Hid (∀ W, _) := fun W => readSet_any s W
  generalize maskL s.data.toList = m at *
  go_enter Tryz.func88, Tryz.ntmps88
  go_wp2_with (go_at_call 74; refine (HR.out _).mono ?_; rintro e w1 ⟨rfl, hb1⟩)
  go_ret
  exact ⟨congrArg (fun z => Ending.returned (Value.bool z)) HV.out, hb1⟩

end Go.Proofs.YtofpoiccghpliaaGreatDoor
