/- What the specification's function that reads a number answers: at every text of at most 1048576 bytes and every place, rvOut. -/
import Derived.Test.YtocccahgccoimamRead
import Derived.Deep.RegionHeld3
namespace Go.Proofs.Ytocccahgccoimam
open Go.RowKit

/-- The test that the specification makes, as the walk leaves it. -/
theorem rv_test {s : ByteArray} {a j n sc : Nat} (h : RvRel s.data.toList a j n sc) (hj : j < s.size) (hk : j < a + 5) (hb : s[j].toNat < 128) :
    ((str (varB ((n : Int) + (s[j].toNat : Int) % 128 * sc).toNat)).toList == (s.extract a (j + 1)).toList) = !decide (s[j].toNat = 0 ∧ a < j) := by
  have hl : s.data.toList.length = s.size := by simp
  have e := (rv_end h (by rw [hl]; exact hj) hk (by rw [get_list s j hj]; exact hb)).1
  rw [get_list s j hj] at e
  have ec : ((n : Int) + (s[j].toNat : Int) % 128 * sc).toNat = n + s[j].toNat % 128 * sc := by
    rw [show (n : Int) + (s[j].toNat : Int) % 128 * sc = ((n + s[j].toNat % 128 * sc : Nat) : Int) by simp, Int.toNat_natCast]
  have e2 : (s.extract a (j + 1)).toList = (s.data.toList.drop a).take (j + 1 - a) := by
    rw [ByteArray.toList_eq]
    simp [ByteArray.data_extract, List.extract_eq_take_drop]
  rw [ec, e2, ByteArray.toList_eq, str_list, Bool.eq_iff_iff]
  simp only [beq_iff_eq, Bool.not_eq_true', decide_eq_false_iff_not]
  exact e

set_option maxHeartbeats 800000 in
set_option maxRecDepth 100000 in
theorem specRead_in (s : ByteArray) (a : Nat) (w : World) (hs : s.size ≤ 1048576) (ha : a ≤ s.size) :
    Calls Try.prog 11 #[.string s, .int .i64 a] w fun e w' => e = .returned (rvVal s a) ∧ Below w.heap.size w w' := by
  have HL : Hid (s.data.toList.length = s.size) := by simp [Hid]
  go_enter Try.func11, Try.ntmps11
  go_wp2_with (go_at_call 21; refine (l01In_any _ _ _ _).mono ?_; rintro e w' ⟨rfl, rfl⟩; rw [show decide ((0 : Int) ≤ (a : Int) ∧ (a : Int) ≤ s.size) = true from by simp; omega])
  go_loop [7, 8, 9] (fun nv sv iv => RvSlots s a nv sv iv) (fun _ _ iv => s.size - (intOf iv).toNat)
  case atStart => exact ⟨a, 0, 1, rfl, rfl, rfl, rv_start _ _⟩
  case round =>
    obtain ⟨j, n, sc, rfl, rfl, rfl, hr⟩ := hrel
    obtain ⟨b1, b2, b3, b4, b5, b6, b7⟩ := rv_bounds hr (by rw [HL.out]; exact ha)
    rw [HL.out] at b3
    have HR : Hid (RvRel s.data.toList a j n sc) := hr
    clear hr
    by_cases hlt : j < s.size
    · by_cases hk : j < a + 5
      · have hsc := b6 hk
        clear b6 b7
        have hbyte : (s[j].toNat : Int) < 256 := by have := s[j].toNat_lt; omega
        obtain ⟨hm1, hm2⟩ := byte_mul s[j] sc hsc
        by_cases hb : 128 ≤ s[j].toNat
        · have R := rv_next HR.out hlt hk hb
          go_wp2
          go_round
          case rel => exact R
          case measure => simp [intOf]; omega
        · have HE : Hid (_ = _) := rv_end_out HR.out hlt hk (by omega) b1
          have HT : Hid (_ = _) := rv_test HR.out hlt hk (by omega)
          clear HR
          by_cases hN : (1000000000 : Int) < (n : Int) + (s[j].toNat : Int) % 128 * sc
          · go_wp2
            go_quiet (fail)
            go_wp2
            go_ret3
            exact ⟨congrArg _ (rvVal_of (by rw [HE.out, if_pos (.inl hN)])).symm, bel_drewN (Below.refl _ _) _⟩
          · have hd : decide ((1000000000 : Int) < (n : Int) + (s[j].toNat : Int) % 128 * sc) = false := by simpa using hN
            have g1 : (0 : Int) ≤ (a : Int) := by omega
            have g2 : (a : Int) ≤ (j : Int) + 1 := by omega
            have g3 : (j : Int) + 1 ≤ (s.size : Int) := by omega
            have hwr : IntKind.i64.wrap ((j : Int) + 1) = (j : Int) + 1 := wrap_small _ (by omega) (by omega)
            go_wp2
            go_region_held3 (fun _ => True) (trivial) ((go_at_call 22; refine (l01Var_int _ _ (by omega) (by omega)).mono ?_; rintro e w' ⟨rfl, hb⟩))
            all_goals go_wp2
            all_goals go_ret3
            · have ht : (!(str (varB ((n : Int) + (s[j].toNat : Int) % 128 * sc).toNat)).toList == (s.extract a (j + 1)).toList) = true := by assumption
              rw [HT.out] at ht
              exact ⟨congrArg _ (rvVal_of (by rw [HE.out, if_pos (.inr (by simpa using ht))])).symm, bel_of_drew hb⟩
            · have ht : (!(str (varB ((n : Int) + (s[j].toNat : Int) % 128 * sc).toNat)).toList == (s.extract a (j + 1)).toList) = false := by assumption
              rw [HT.out] at ht
              exact ⟨congrArg _ (rvVal_of (by rw [HE.out, if_neg (by intro h; rcases h with h | h; omega; simp [h] at ht)])).symm, bel_of_drew hb⟩
      · clear b6 b7
        have HE : Hid (_ = _) := rvOut_none (rv_none HR.out (.inr (by omega)))
        clear HR
        go_wp2
        go_ret3
        exact ⟨congrArg _ (rvVal_of HE.out).symm, Below.refl _ _⟩
    · have HE : Hid (_ = _) := rvOut_none (rv_none HR.out (.inl (by rw [HL.out]; omega)))
      clear HR b6 b7
      go_wp2
      go_ret3
      exact ⟨congrArg _ (rvVal_of HE.out).symm, Below.refl _ _⟩

set_option maxRecDepth 100000 in
theorem specRead_out (s : ByteArray) (a : Int) (w : World) (h : a < 0 ∨ s.size < a) :
    Calls Try.prog 11 #[.string s, .int .i64 a] w fun e w' => e = .returned (rvVal s a) ∧ w' = w := by
  have HE : Hid (_ = _) := rvOut_out s.data.toList a (by simpa using h)
  go_enter Try.func11, Try.ntmps11
  go_wp2_with (go_at_call 21; refine (l01In_any _ _ _ _).mono ?_; rintro e w' ⟨rfl, rfl⟩; rw [show decide ((0 : Int) ≤ a ∧ a ≤ s.size) = false from by simp; omega])
  go_ret3
  exact ⟨congrArg _ (rvVal_of HE.out).symm, rfl⟩

theorem specRead_any (s : ByteArray) (a : Int) (w : World) (hs : s.size ≤ 1048576) :
    Calls Try.prog 11 #[.string s, .int .i64 a] w fun e w' => e = .returned (rvVal s a) ∧ Below w.heap.size w w' := by
  by_cases h : 0 ≤ a ∧ a ≤ s.size
  · obtain ⟨n, rfl⟩ := Int.eq_ofNat_of_zero_le h.1
    exact specRead_in s n w hs (by omega)
  · refine (specRead_out s a w (by omega)).mono ?_
    rintro e w' ⟨rfl, rfl⟩
    exact ⟨rfl, Below.refl _ _⟩

end Go.Proofs.Ytocccahgccoimam
