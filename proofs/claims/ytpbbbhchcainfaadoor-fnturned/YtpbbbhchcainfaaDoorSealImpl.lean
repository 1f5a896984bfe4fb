/- Sealed and Unsealed: what the program answers. -/
import Derived.Test.YtpbbbhchcainfaaDoorSumImpl
namespace Go.Proofs.YtpbbbhchcainfaaDoor
open Go.RowKit

theorem strClone3 (s : ByteArray) (w : World) (h : s.size ≤ 1048576) :
    Calls Tryd.prog 24 #[.string s] w fun e w' => e = .returned (.string s) ∧ Below w.heap.size w w' := by
  go_enter Tryd.func24, Tryd.ntmps24
  go_wp2_with (go_at_call 27; refine (Tryd.stringslite_Clone _ _ (by omega)).mono ?_; rintro e w1 ⟨rfl, hb1⟩)
  go_ret
  exact ⟨rfl, hb1⟩

theorem turns_drew {w : World} (T : Turns w) : Turns w.drew := T

theorem sealed_yes (s : ByteArray) (w : World) (hs : s.size ≤ 20000) (T : Turns w) :
    Calls Tryd.prog 11 #[.string s] w fun e w' => e = .returned (.tuple #[.string (str (sealB s.data.toList)), .bool true]) ∧ Below w.heap.size w w' := by
  have HE : Hid (s ++ str (four (sumB 4294967295 s.data.toList)) = str (sealB s.data.toList)) := by
    have := str_add2 s.data.toList (four (sumB 4294967295 s.data.toList))
    rw [str_self] at this
    exact this
  have hlt := sumB_lt s.data.toList 4294967295 (by omega)
  have hz : (str (four (sumB 4294967295 s.data.toList))).size = 4 := by rw [str_size, four_len]
  have hadd := fun W => run_string_add_sum (P := Tryd.prog) (w := W) s (str (four (sumB 4294967295 s.data.toList))) (by omega)
  clear hz
  have HT : Hid (Turns w) := T
  clear T
  go_enter Tryd.func11, Tryd.ntmps11
  go_wp2_with (first
    | (go_at_call 14; refine (sumOf_any s _ (by omega) HT.out).mono ?_; rintro e w1 ⟨rfl, rfl⟩)
    | (go_at_call 23; refine (bytes_any _ _ hlt).mono ?_; rintro e w2 ⟨rfl, hb2⟩))
  go_ret2
  rw [← HE.out]
  exact ⟨rfl, hb2⟩

theorem sealed_no (s : ByteArray) (w : World) (hs : 20000 < s.size) :
    Calls Tryd.prog 11 #[.string s] w fun e w' => e = .returned (.tuple #[.string (str []), .bool false]) ∧ w' = w := by
  have hs1 : (20000 : Int) < s.size := by omega
  go_enter Tryd.func11, Tryd.ntmps11
  go_wp2
  go_ret2
  exact ⟨rfl, rfl⟩

/-- The test that the program makes. -/
theorem un_test2 (s : ByteArray) (m : Nat) (hm : m + 4 = s.size) (hs : s.size ≤ 20004) :
    ((str (four (sumB 4294967295 (s.extract 0 m).data.toList))).toList == (s.extract m s.size).toList) = unOk s.data.toList := by
  have hl : s.data.toList.length = s.size := by simp
  have e1 : (s.extract m s.size).toList = s.data.toList.drop (s.data.toList.length - 4) := by
    rw [ByteArray.toList_eq, ByteArray.data_extract, Array.toList_extract, List.extract_eq_take_drop, hl, show s.size - 4 = m by omega]
    exact List.take_of_length_le (by simp)
  have e2 : (s.extract 0 m).data.toList = s.data.toList.take (s.data.toList.length - 4) := by
    rw [ByteArray.data_extract, Array.toList_extract, List.extract_eq_take_drop, hl, show s.size - 4 = m by omega]
    simp
  rw [e1, e2, ByteArray.toList_eq, str_list, Bool.eq_iff_iff, unOk_iff, hl]
  simp only [beq_iff_eq]
  constructor
  · intro h; exact ⟨by omega, by omega, h.symm⟩
  · intro h; exact h.2.2.symm

set_option maxHeartbeats 1600000 in
set_option maxRecDepth 100000 in
theorem unsealed_in (s : ByteArray) (m : Nat) (w : World) (hm : m + 4 = s.size) (hs : s.size ≤ 20004) (T : Turns w) :
    Calls Tryd.prog 12 #[.string s] w fun e w' => e = .returned (usVal s.data.toList) ∧ Below w.heap.size w w' := by
  have HT : Hid (_ = _) := un_test2 s m hm hs
  have HX : Hid (str (s.data.toList.take (s.data.toList.length - 4)) = s.extract 0 m) := by
    have hl : s.data.toList.length = s.size := by simp
    apply ByteArray.ext
    apply Array.toList_inj.1
    rw [str_list, ByteArray.data_extract, Array.toList_extract, List.extract_eq_take_drop, hl, show s.size - 4 = m by omega]
    simp
  have g1 : (s.size : Int) ≤ (m : Int) + 4 := by omega
  have g2 : (m : Int) + 4 ≤ (s.size : Int) := by omega
  have e1 : (s.size : Int) - 4 = (m : Int) := by omega
  have hlt := sumB_lt (s.extract 0 m).data.toList 4294967295 (by omega)
  have hsz : (s.extract 0 m).size ≤ 1048576 := by rw [ByteArray.size_extract]; omega
  have HTu : Hid (Turns w) := T
  clear T
  have HS : Hid (∀ W, _) := fun W => sumOf_any (s.extract 0 m) W (by omega)
  have HF : Hid (∀ W, _) := fun W => bytes_any (sumB 4294967295 (s.extract 0 m).data.toList) W hlt
  have HC : Hid (∀ W, _) := fun W => strClone3 (s.extract 0 m) W hsz
  clear hlt hsz
  generalize sumB 4294967295 (s.extract 0 m).data.toList = v at *
  generalize str (four v) = F at *
  have g3 : (0 : Int) ≤ (m : Int) := by omega
  have g4 : (m : Int) ≤ (s.size : Int) := by omega
  have d1 : decide ((m : Int) < 0) = false := by simp
  have d2 : decide ((20000 : Int) < (m : Int)) = false := by simp; omega
  go_enter Tryd.func12, Tryd.ntmps12
  go_wp2
  go_region_held3 (fun _ => True) (trivial)
    ((first
      | (go_at_call 14; refine (HS.out _ (turns_drew HTu.out)).mono ?_; rintro e w1 ⟨rfl, rfl⟩)
      | (go_at_call 23; refine (HF.out _).mono ?_; rintro e w2 ⟨rfl, hb2⟩)))
  all_goals go_wp2_with (go_at_call 24; refine (HC.out _).mono ?_; rintro e w3 ⟨rfl, hb3⟩)
  all_goals go_ret2
  · have ht : (!F.toList == (s.extract m s.size).toList) = true := by assumption
    rw [HT.out] at ht
    exact ⟨congrArg _ (usVal_no (by simpa using ht)).symm, bel_of_drew hb2⟩
  · have ht : (!F.toList == (s.extract m s.size).toList) = false := by assumption
    rw [HT.out] at ht
    refine ⟨?_, (bel_of_drew hb2).trans (hb3.mono hb2.size)⟩
    rw [usVal_yes (by simpa using ht), HX.out]
    rfl

theorem unOk_out2 (s : ByteArray) (h : s.size < 4 ∨ 20004 < s.size) : unOk s.data.toList = false := by
  have hl : s.data.toList.length = s.size := by simp
  cases hh : unOk s.data.toList with
  | false => rfl
  | true => have := (unOk_iff _).1 hh; omega

set_option maxRecDepth 100000 in
theorem unsealed_any (s : ByteArray) (w : World) (hs : s.size ≤ 1048576) (T : Turns w) :
    Calls Tryd.prog 12 #[.string s] w fun e w' => e = .returned (usVal s.data.toList) ∧ Below w.heap.size w w' := by
  by_cases h4 : 4 ≤ s.size
  · by_cases h5 : s.size ≤ 20004
    · exact unsealed_in s (s.size - 4) w (by omega) h5 T
    · have HN : Hid (_ = _) := usVal_no (unOk_out2 s (.inr (by omega)))
      have d1 : decide ((s.size : Int) - 4 < 0) = false := by simp; omega
      have d2 : decide ((20000 : Int) < (s.size : Int) - 4) = true := by simp; omega
      have d3 : (0 : Int) ≤ (s.size : Int) - 4 := by omega
      have d4 : (20000 : Int) < (s.size : Int) - 4 := by omega
      clear T
      go_enter Tryd.func12, Tryd.ntmps12
      go_wp2
      go_ret2
      exact ⟨congrArg _ HN.out.symm, Below.refl _ _⟩
  · have HN : Hid (_ = _) := usVal_no (unOk_out2 s (.inl (by omega)))
    have d1 : decide ((s.size : Int) - 4 < 0) = true := by simp; omega
    have d3 : (s.size : Int) - 4 < 0 := by omega
    clear T
    go_enter Tryd.func12, Tryd.ntmps12
    go_wp2
    go_ret2
    exact ⟨congrArg _ HN.out.symm, Below.refl _ _⟩

end Go.Proofs.YtpbbbhchcainfaaDoor
