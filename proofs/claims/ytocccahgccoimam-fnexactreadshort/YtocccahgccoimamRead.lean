/- What the two functions that read a number answer: at every text and every place, rvOut. The text's length is at most the greatest int. -/
import Derived.Test.YtocccahgccoimamVar
import Derived.Test.YtocccahgccoimamReadPure
namespace Go.Proofs.Ytocccahgccoimam
open Go.RowKit

theorem get_list (s : ByteArray) (j : Nat) (h : j < s.size) : s.data.toList[j]'(by simpa using h) = s[j] := rfl

theorem rv_end_out {s : ByteArray} {a j n sc : Nat} (h : RvRel s.data.toList a j n sc) (hj : j < s.size) (hk : j < a + 5) (hb : s[j].toNat < 128) (ha : a ≤ j) :
    rvOut s.data.toList a = if (1000000000 : Int) < (n : Int) + (s[j].toNat : Int) % 128 * sc ∨ (s[j].toNat = 0 ∧ a < j) then (0, 0, false) else ((n : Int) + (s[j].toNat : Int) % 128 * sc, (j : Int) + 1, true) := by
  have hl : s.data.toList.length = s.size := by simp
  have e := (rv_end h (by rw [hl]; exact hj) hk (by rw [get_list s j hj]; exact hb)).2
  rw [get_list s j hj] at e
  have ec : ((n + s[j].toNat % 128 * sc : Nat) : Int) = (n : Int) + (s[j].toNat : Int) % 128 * sc := by simp
  by_cases hc : 1000000000 < n + s[j].toNat % 128 * sc ∨ (s[j].toNat = 0 ∧ a < j)
  · rw [if_pos hc] at e
    rw [rvOut_none e, if_pos (by rw [← ec]; omega)]
  · rw [if_neg hc] at e
    rw [rvOut_some (by omega) e, if_neg (by rw [← ec]; omega), ec]
    simp only [Prod.mk.injEq, and_true, true_and]
    omega

theorem rv_zero {x : Nat} {a j n sc : Nat} (h : x = 0) :
    (if (1000000000 : Int) < (n : Int) + (x : Int) % 128 * sc ∨ (x = 0 ∧ a < j) then ((0 : Int), (0 : Int), false) else ((n : Int) + (x : Int) % 128 * sc, (j : Int) + 1, true)) =
      if (1000000000 : Int) < (n : Int) ∨ a < j then (0, 0, false) else ((n : Int), (j : Int) + 1, true) := by
  subst h; simp

/-- The rounds' relation, of the slots. -/
def RvSlots (s : ByteArray) (a : Nat) (nv sv iv : Value) : Prop :=
  ∃ j n sc : Nat, nv = .int .i64 n ∧ sv = .int .i64 sc ∧ iv = .int .i64 j ∧ RvRel s.data.toList a j n sc

theorem rv_next {s : ByteArray} {a j n sc : Nat} (h : RvRel s.data.toList a j n sc) (hj : j < s.size) (hk : j < a + 5) (hb : 128 ≤ s[j].toNat) :
    RvSlots s a (.int .i64 ((n : Int) + (s[j].toNat : Int) % 128 * sc)) (.int .i64 ((sc : Int) * 128)) (.int .i64 ((j : Int) + 1)) := by
  have hl : s.data.toList.length = s.size := by simp
  have e := rv_step h (by rw [hl]; exact hj) hk (by rw [get_list s j hj]; exact hb)
  rw [get_list s j hj] at e
  exact ⟨j + 1, _, _, by simp, by simp, by simp, e⟩

def rvVal (s : ByteArray) (a : Int) : Value :=
  .tuple #[.int .i64 (rvOut s.data.toList a).1, .int .i64 (rvOut s.data.toList a).2.1, .bool (rvOut s.data.toList a).2.2]

theorem rvVal_of {s : ByteArray} {a x y : Int} {b : Bool} (h : rvOut s.data.toList a = (x, y, b)) : rvVal s a = .tuple #[.int .i64 x, .int .i64 y, .bool b] := by
  rw [rvVal, h]

theorem byte_mul (b : UInt8) (sc : Nat) (h : sc ≤ 268435456) : (0 : Int) ≤ (b.toNat : Int) % 128 * sc ∧ (b.toNat : Int) % 128 * sc ≤ 34091302912 := by
  constructor
  · exact Int.mul_nonneg (by omega) (by omega)
  · have : (b.toNat : Int) % 128 * sc ≤ 127 * 268435456 := Int.mul_le_mul (by omega) (by omega) (by omega) (by omega)
    omega

set_option maxHeartbeats 400000 in
set_option maxRecDepth 100000 in
theorem implRead_in (s : ByteArray) (a : Nat) (w : World) (hs : s.size ≤ maxLen) (ha : a ≤ s.size) :
    Calls Try.prog 12 #[.string s, .int .i64 a] w fun e w' => e = .returned (rvVal s a) ∧ w' = w := by
  unfold maxLen at hs
  have HL : Hid (s.data.toList.length = s.size) := by simp [Hid]
  go_enter Try.func12, Try.ntmps12
  go_wp2
  go_loop [7, 8, 9] (fun nv sv iv => RvSlots s a nv sv iv) (fun _ _ iv => s.size - (intOf iv).toNat)
  case atStart => exact ⟨a, 0, 1, rfl, rfl, rfl, rv_start _ _⟩
  case round =>
    obtain ⟨j, n, sc, rfl, rfl, rfl, hr⟩ := hrel
    obtain ⟨b1, b2, b3, b4, b5, b6, b7⟩ := rv_bounds hr (by rw [HL.out]; exact ha)
    rw [HL.out] at b3
    have HR : Hid (RvRel s.data.toList a j n sc) := hr
    clear hr
    by_cases hlt : j < s.size
    · by_cases hk : j < a + 5
      · have hsc := b6 hk
        clear b6 b7
        have hbyte : (s[j].toNat : Int) < 256 := by have := s[j].toNat_lt; omega
        obtain ⟨hm1, hm2⟩ := byte_mul s[j] sc hsc
        by_cases hb : 128 ≤ s[j].toNat
        · have R := rv_next HR.out hlt hk hb
          go_wp2
          go_round
          case rel => exact R
          case measure => simp [intOf]; omega
        · have HE : Hid (_ = _) := rv_end_out HR.out hlt hk (by omega) b1
          clear HR
          by_cases h0 : s[j].toNat = 0
          · have HE0 : Hid (_ = _) := (HE.out).trans (rv_zero h0)
            clear HE hm1 hm2
            go_wp2
            all_goals
              go_ret3
              refine ⟨congrArg _ (rvVal_of ?_).symm, rfl⟩
              rw [HE0.out]
              first | rw [if_pos (by omega)] | rw [if_neg (by omega)]
          · go_wp2
            all_goals
              go_ret3
              refine ⟨congrArg _ (rvVal_of ?_).symm, rfl⟩
              rw [HE.out]
              first | rw [if_pos (by omega)] | rw [if_neg (by omega)]
      · have hsc : 34359738368 ≤ sc := by rw [b7 (by omega)]; exact Nat.le_refl _
        clear b6 b7
        have HE : Hid (_ = _) := rvOut_none (rv_none HR.out (.inr (by omega)))
        clear HR
        go_wp2
        go_ret3
        exact ⟨congrArg _ (rvVal_of HE.out).symm, rfl⟩
    · have HE : Hid (_ = _) := rvOut_none (rv_none HR.out (.inl (by rw [HL.out]; omega)))
      clear HR b6 b7
      go_wp2
      go_ret3
      exact ⟨congrArg _ (rvVal_of HE.out).symm, rfl⟩

set_option maxRecDepth 100000 in
theorem implRead_out (s : ByteArray) (a : Int) (w : World) (h : a < 0 ∨ s.size < a) :
    Calls Try.prog 12 #[.string s, .int .i64 a] w fun e w' => e = .returned (rvVal s a) ∧ w' = w := by
  have HE : Hid (_ = _) := rvOut_out s.data.toList a (by simpa using h)
  by_cases h0 : a < 0
  · go_enter Try.func12, Try.ntmps12
    go_wp2
    go_ret3
    exact ⟨congrArg _ (rvVal_of HE.out).symm, rfl⟩
  · have h1 : (s.size : Int) < a := by omega
    go_enter Try.func12, Try.ntmps12
    go_wp2
    go_ret3
    exact ⟨congrArg _ (rvVal_of HE.out).symm, rfl⟩

/-- At every place. -/
theorem implRead_any (s : ByteArray) (a : Int) (w : World) (hs : s.size ≤ 1048576) :
    Calls Try.prog 12 #[.string s, .int .i64 a] w fun e w' => e = .returned (rvVal s a) ∧ w' = w := by
  by_cases h : 0 ≤ a ∧ a ≤ s.size
  · obtain ⟨n, rfl⟩ := Int.eq_ofNat_of_zero_le h.1
    exact implRead_in s n w (by unfold maxLen; omega) (by omega)
  · exact implRead_out s a w (by omega)

end Go.Proofs.Ytocccahgccoimam
