/- Sums: what the specification's functions answer. -/
import Derived.Test.YtpbbbhchcainfaaDoorRows
import Derived.Test.YtpbbbhchcainfaaDoorSumPure
import Derived.Deep.RegionHeld3
namespace Go.Proofs.YtpbbbhchcainfaaDoor
open Go.RowKit

theorem take_snoc4 (s : ByteArray) (k : Nat) (h : k < s.size) : s.data.toList.take (k + 1) = s.data.toList.take k ++ [s[k]] := by
  rw [List.take_succ_eq_append_getElem (by simpa using h)]; rfl

theorem half_odd (x : Nat) (h : x % 2 = 1) : half x = (x / 2) ^^^ 3558460437 := by rw [half, if_pos h]
theorem half_even (x : Nat) (h : ¬ x % 2 = 1) : half x = x / 2 := by rw [half, if_neg h]

set_option maxHeartbeats 1600000 in
set_option maxRecDepth 100000 in
theorem specSumMore_any (x : Nat) (s : ByteArray) (w : World) (hx : x < 4294967296) (hs : s.size ≤ 1048576) :
    Calls Tryd.prog 15 #[.int .u32 x, .string s] w fun e w' => e = .returned (.int .u32 (sumB x s.data.toList)) ∧ w' = w := by
  go_enter Tryd.func15, Tryd.ntmps15
  go_wp2
  go_loop [0, 5] (fun sv iv => ∃ k : Nat, k ≤ s.size ∧ iv = .int .i64 k ∧ sv = .int .u32 (sumB x (s.data.toList.take k))) (fun _ iv => s.size - (intOf iv).toNat)
  case atStart => exact ⟨0, Nat.zero_le _, rfl, rfl⟩
  case round =>
    obtain ⟨k, hk, rfl, rfl⟩ := hrel
    have hy := sumB_lt (s.data.toList.take k) x hx
    generalize hq : sumB x (s.data.toList.take k) = y at *
    have HQ : Hid (sumB x (s.data.toList.take k) = y) := hq
    clear hq
    by_cases hlt : k < s.size
    · have hb := s[k].toNat_lt
      have ex := u32_xor_nat y s[k].toNat hy (by omega)
      have HN : Hid (sumB x (s.data.toList.take (k + 1)) = halves 8 (y ^^^ s[k].toNat)) := by
        rw [take_snoc4 s k hlt, sumB_snoc, HQ.out]; rfl
      have hz := Nat.xor_lt_two_pow (n := 32) hy (show s[k].toNat < 2 ^ 32 by omega)
      generalize y ^^^ s[k].toNat = z at *
      go_wp2
      go_loop [0, 6] (fun sv jv => ∃ j : Nat, j ≤ 8 ∧ jv = .int .i64 j ∧ sv = .int .u32 (halves j z)) (fun _ jv => 8 - (intOf jv).toNat)
      case atStart => exact ⟨0, by omega, rfl, rfl⟩
      case round =>
        obtain ⟨j, hj, rfl, rfl⟩ := hrel
        have hu := halves_lt j z hz
        generalize hr : halves j z = u at *
        have HR : Hid (halves j z = u) := hr
        clear hr
        by_cases hj8 : j < 8
        · have HS : Hid (halves (j + 1) z = half u) := by rw [halves_snoc, HR.out]; exact rfl
          by_cases hodd : u % 2 = 1
          · have e1 : (((u : Int) % 2) == 1) = true := by simp; omega
            have e2 := u32_xor_nat (u / 2) 3558460437 (by omega) (by omega)
            go_wp2
            go_round
            case rel => exact ⟨j + 1, by omega, by go_num, by rw [HS.out, half_odd u hodd]; exact congrArg _ (by rw [← e2]; simp)⟩
            case measure => simp [intOf]; omega
          · have e1 : (((u : Int) % 2) == 1) = false := by simp; omega
            go_wp2
            go_round
            case rel => exact ⟨j + 1, by omega, by go_num, by rw [HS.out, half_even u hodd]; go_num⟩
            case measure => simp [intOf]; omega
        · obtain rfl : j = 8 := by omega
          go_wp2
          go_round
          case rel => exact ⟨k + 1, by omega, by go_num, by rw [HN.out, HR.out]⟩
          case measure => simp [intOf]; omega
    · obtain rfl : k = s.size := by omega
      have HE : Hid (sumB x s.data.toList = y) := by
        have := HQ.out
        rwa [List.take_of_length_le (by simp)] at this
      go_wp2
      go_ret
      rw [HE.out]
      exact ⟨rfl, rfl⟩

/-- Bytes laid in a new block, made a string. -/
theorem run_lit_string {P : Program} (w : World) (src dst e : TypeId) (l : List UInt8) (hl : l.length ≤ 1000) (hs : P.underlying src = some (.slice e)) (he : P.underlying e = some (.int .u8)) (hd : P.underlying dst = some .string) :
    (convert src dst (.slice (some ⟨w.heap.size, 0, none⟩) l.length l.length)).run P (w.alloc (.cells (bv l).toArray e)) = .ok (.string (str l)) (w.alloc (.cells (bv l).toArray e)) :=
  own_string (base := w.heap.size) l hs he hd (World.ownsRow_lit w (bv l).toArray l.length (Nat.le_refl _) (by unfold maxLen; omega) (by simp [bv_len]))

theorem bv_four (x : Nat) (hx : x < 4294967296) : bv (four x) = [.int .u8 ((x : Int) / 16777216), .int .u8 ((x : Int) / 65536 % 256), .int .u8 ((x : Int) / 256 % 256), .int .u8 ((x : Int) % 256)] := by
  simp only [bv, four, List.map_cons, List.map_nil]
  rw [toNat_ofNat _ (by omega), toNat_ofNat _ (by omega), toNat_ofNat _ (by omega), toNat_ofNat _ (by omega)]
  rw [show x / 16777216 % 256 = x / 16777216 by omega]
  simp

set_option maxHeartbeats 800000 in
theorem four_any (x : Nat) (w : World) (hx : x < 4294967296) :
    Calls Tryd.prog 26 #[.int .u32 x] w fun e w' => e = .returned (.string (str (four x))) ∧ Below w.heap.size w w' := by
  have hcv := fun W => run_lit_string (P := Tryd.prog) W 22 9 5 (four x) (by simp [four]) Tryd.underlying22 Tryd.underlying5 Tryd.underlying9
  rw [bv_four x hx] at hcv
  have hfl : (four x).length = 4 := rfl
  rw [hfl] at hcv
  clear hfl
  go_enter Tryd.func26, Tryd.ntmps26
  go_wp2
  go_ret
  exact ⟨rfl, (Below.refl _ _).alloc (Nat.le_refl _) _⟩

theorem specSumOf_any (s : ByteArray) (w : World) (hs : s.size ≤ 1048576) :
    Calls Tryd.prog 16 #[.string s] w fun e w' => e = .returned (.int .u32 (sumB 4294967295 s.data.toList)) ∧ w' = w := by
  go_enter Tryd.func16, Tryd.ntmps16
  go_wp2_with (go_at_call 15; refine (specSumMore_any 4294967295 s _ (by omega) hs).mono ?_; rintro e w1 ⟨rfl, rfl⟩)
  go_ret
  exact ⟨rfl, rfl⟩

/-- What Sealed and Unsealed answer. -/
def sealB (l : List UInt8) : List UInt8 := l ++ four (sumB 4294967295 l)
def unOk (l : List UInt8) : Bool := decide (4 ≤ l.length) && decide (l.length ≤ 20004) && decide (l.drop (l.length - 4) = four (sumB 4294967295 (l.take (l.length - 4))))
def usVal (l : List UInt8) : Value := if unOk l = true then .tuple #[.string (str (l.take (l.length - 4))), .bool true] else .tuple #[.string (str []), .bool false]
theorem usVal_no {l : List UInt8} (h : unOk l = false) : usVal l = .tuple #[.string (str []), .bool false] := by rw [usVal, if_neg (by simp [h])]
theorem usVal_yes {l : List UInt8} (h : unOk l = true) : usVal l = .tuple #[.string (str (l.take (l.length - 4))), .bool true] := by rw [usVal, if_pos h]

theorem four_len (x : Nat) : (four x).length = 4 := rfl
theorem str_add2 (a b : List UInt8) : str a ++ str b = str (a ++ b) := by
  apply ByteArray.ext
  simp [str]
theorem str_self (s : ByteArray) : str s.data.toList = s := by
  apply ByteArray.ext
  simp [str]

theorem specSealed_yes (s : ByteArray) (w : World) (hs : s.size ≤ 20000) :
    Calls Tryd.prog 17 #[.string s] w fun e w' => e = .returned (.tuple #[.string (str (sealB s.data.toList)), .bool true]) ∧ Below w.heap.size w w' := by
  have HE : Hid (s ++ str (four (sumB 4294967295 s.data.toList)) = str (sealB s.data.toList)) := by
    have := str_add2 s.data.toList (four (sumB 4294967295 s.data.toList))
    rw [str_self] at this
    exact this
  have hlt := sumB_lt s.data.toList 4294967295 (by omega)
  have hz : (str (four (sumB 4294967295 s.data.toList))).size = 4 := by rw [str_size, four_len]
  have hadd := fun W => run_string_add_sum (P := Tryd.prog) (w := W) s (str (four (sumB 4294967295 s.data.toList))) (by omega)
  clear hz
  go_enter Tryd.func17, Tryd.ntmps17
  go_wp2_with (first
    | (go_at_call 16; refine (specSumOf_any s _ (by omega)).mono ?_; rintro e w1 ⟨rfl, rfl⟩)
    | (go_at_call 26; refine (four_any _ _ hlt).mono ?_; rintro e w2 ⟨rfl, hb2⟩))
  go_ret2
  rw [← HE.out]
  exact ⟨rfl, hb2⟩

theorem specSealed_no (s : ByteArray) (w : World) (hs : 20000 < s.size) :
    Calls Tryd.prog 17 #[.string s] w fun e w' => e = .returned (.tuple #[.string (str []), .bool false]) ∧ w' = w := by
  have hs1 : (20000 : Int) < s.size := by omega
  go_enter Tryd.func17, Tryd.ntmps17
  go_wp2
  go_ret2
  exact ⟨rfl, rfl⟩

theorem unOk_iff (l : List UInt8) : unOk l = true ↔ 4 ≤ l.length ∧ l.length ≤ 20004 ∧ l.drop (l.length - 4) = four (sumB 4294967295 (l.take (l.length - 4))) := by
  simp [unOk, and_assoc]

/-- The test that the specification makes, as the walk leaves it. -/
theorem un_test (s : ByteArray) (m : Nat) (hm : m + 4 = s.size) (hs : s.size ≤ 20004) :
    ((s.extract m s.size).toList == (str (four (sumB 4294967295 (s.extract 0 m).data.toList))).toList) = unOk s.data.toList := by
  have hl : s.data.toList.length = s.size := by simp
  have e1 : (s.extract m s.size).toList = s.data.toList.drop (s.data.toList.length - 4) := by
    rw [ByteArray.toList_eq, ByteArray.data_extract, Array.toList_extract, List.extract_eq_take_drop, hl, show s.size - 4 = m by omega]
    exact List.take_of_length_le (by simp)
  have e2 : (s.extract 0 m).data.toList = s.data.toList.take (s.data.toList.length - 4) := by
    rw [ByteArray.data_extract, Array.toList_extract, List.extract_eq_take_drop, hl, show s.size - 4 = m by omega]
    simp
  rw [e1, e2, ByteArray.toList_eq, str_list, Bool.eq_iff_iff, unOk_iff, hl]
  simp only [beq_iff_eq]
  constructor
  · intro h; exact ⟨by omega, by omega, h⟩
  · intro h; exact h.2.2

set_option maxHeartbeats 1600000 in
set_option maxRecDepth 100000 in
theorem specUnsealed_in (s : ByteArray) (m : Nat) (w : World) (hm : m + 4 = s.size) (hs : s.size ≤ 20004) :
    Calls Tryd.prog 18 #[.string s] w fun e w' => e = .returned (usVal s.data.toList) ∧ Below w.heap.size w w' := by
  have HT : Hid (_ = _) := un_test s m hm hs
  have HX : Hid (str (s.data.toList.take (s.data.toList.length - 4)) = s.extract 0 m) := by
    have hl : s.data.toList.length = s.size := by simp
    apply ByteArray.ext
    apply Array.toList_inj.1
    rw [str_list, ByteArray.data_extract, Array.toList_extract, List.extract_eq_take_drop, hl, show s.size - 4 = m by omega]
    simp
  have g1 : (s.size : Int) ≤ (m : Int) + 4 := by omega
  have g2 : (m : Int) + 4 ≤ (s.size : Int) := by omega
  have e1 : (s.size : Int) - 4 = (m : Int) := by omega
  have hlt := sumB_lt (s.extract 0 m).data.toList 4294967295 (by omega)
  have hsz : (s.extract 0 m).size ≤ 1048576 := by rw [ByteArray.size_extract]; omega
  have HS : Hid (∀ W, _) := fun W => specSumOf_any (s.extract 0 m) W hsz
  have HF : Hid (∀ W, _) := fun W => four_any (sumB 4294967295 (s.extract 0 m).data.toList) W hlt
  clear hlt hsz
  generalize sumB 4294967295 (s.extract 0 m).data.toList = v at *
  generalize str (four v) = F at *
  have g3 : (0 : Int) ≤ (m : Int) := by omega
  have g4 : (m : Int) ≤ (s.size : Int) := by omega
  have d1 : decide ((m : Int) < 0) = false := by simp
  have d2 : decide ((20000 : Int) < (m : Int)) = false := by simp; omega
  go_enter Tryd.func18, Tryd.ntmps18
  go_wp2
  go_region_held3 (fun _ => True) (trivial)
    ((first
      | (go_at_call 16; refine (HS.out _).mono ?_; rintro e w1 ⟨rfl, rfl⟩)
      | (go_at_call 26; refine (HF.out _).mono ?_; rintro e w2 ⟨rfl, hb2⟩)))
  all_goals go_wp2
  all_goals go_ret2
  · have ht : (!(s.extract m s.size).toList == F.toList) = true := by assumption
    rw [HT.out] at ht
    exact ⟨congrArg _ (usVal_no (by simpa using ht)).symm, bel_of_drew hb2⟩
  · have ht : (!(s.extract m s.size).toList == F.toList) = false := by assumption
    rw [HT.out] at ht
    refine ⟨?_, bel_of_drew hb2⟩
    rw [usVal_yes (by simpa using ht), HX.out]
    rfl

theorem unOk_out (s : ByteArray) (h : s.size < 4 ∨ 20004 < s.size) : unOk s.data.toList = false := by
  have hl : s.data.toList.length = s.size := by simp
  cases hh : unOk s.data.toList with
  | false => rfl
  | true => have := (unOk_iff _).1 hh; omega

set_option maxRecDepth 100000 in
theorem specUnsealed_any (s : ByteArray) (w : World) (hs : s.size ≤ 1048576) :
    Calls Tryd.prog 18 #[.string s] w fun e w' => e = .returned (usVal s.data.toList) ∧ Below w.heap.size w w' := by
  by_cases h4 : 4 ≤ s.size
  · by_cases h5 : s.size ≤ 20004
    · exact specUnsealed_in s (s.size - 4) w (by omega) h5
    · have HN : Hid (_ = _) := usVal_no (unOk_out s (.inr (by omega)))
      have d1 : decide ((s.size : Int) - 4 < 0) = false := by simp; omega
      have d2 : decide ((20000 : Int) < (s.size : Int) - 4) = true := by simp; omega
      have d3 : (0 : Int) ≤ (s.size : Int) - 4 := by omega
      have d4 : (20000 : Int) < (s.size : Int) - 4 := by omega
      go_enter Tryd.func18, Tryd.ntmps18
      go_wp2
      go_quiet (fail)
      go_wp2
      go_ret2
      exact ⟨congrArg _ HN.out.symm, bel_drewN (Below.refl _ _) _⟩
  · have HN : Hid (_ = _) := usVal_no (unOk_out s (.inl (by omega)))
    have d1 : decide ((s.size : Int) - 4 < 0) = true := by simp; omega
    have d3 : (s.size : Int) - 4 < 0 := by omega
    go_enter Tryd.func18, Tryd.ntmps18
    go_wp2
    go_quiet (fail)
    go_wp2
    go_ret2
    exact ⟨congrArg _ HN.out.symm, bel_drewN (Below.refl _ _) _⟩

end Go.Proofs.YtpbbbhchcainfaaDoor
