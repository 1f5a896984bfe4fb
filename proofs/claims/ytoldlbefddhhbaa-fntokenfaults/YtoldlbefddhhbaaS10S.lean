/- The specification's l10Letter, l10Figure, l10One. -/
import Derived.Test.YtoldlbefddhhbaaS10P
import Derived.Test.YtoldlbefddhhbaaSetSpec
namespace Go.Proofs.Ytoldlbefddhhbaa
open Go.RowKit
set_option linter.unusedVariables false

theorem let10_any (b : Nat) (w : World) : Calls Try.prog 23 #[.int .u8 b] w fun e w' => e = .returned (.bool (letT b)) ∧ w' = w := by
  by_cases h1 : 97 ≤ b
  · by_cases h2 : b ≤ 122
    · have HV : Hid (letT b = true) := by simp [Hid, letT, h1, h2]
      have d2 : decide ((b : Int) ≤ 122) = true := by rw [decide_eq_true]; omega
      go_enter Try.func23, Try.ntmps23
      go_wp2
      go_ret
      rw [HV.out]
      exact ⟨rfl, rfl⟩
    · have HV : Hid (letT b = false) := by simp [Hid, letT]; omega
      have d2 : decide ((b : Int) ≤ 122) = false := by rw [decide_eq_false]; omega
      have d3 : decide ((65 : Int) ≤ (b : Int)) = true := by rw [decide_eq_true]; omega
      have d4 : decide ((b : Int) ≤ 90) = false := by rw [decide_eq_false]; omega
      go_enter Try.func23, Try.ntmps23
      go_wp2
      go_ret
      rw [HV.out]
      exact ⟨rfl, rfl⟩
  · have d1 : decide ((97 : Int) ≤ (b : Int)) = false := by rw [decide_eq_false]; omega
    by_cases h3 : 65 ≤ b
    · have d3 : decide ((65 : Int) ≤ (b : Int)) = true := by rw [decide_eq_true]; omega
      by_cases h4 : b ≤ 90
      · have HV : Hid (letT b = true) := by simp [Hid, letT, h3, h4]
        have d4 : decide ((b : Int) ≤ 90) = true := by rw [decide_eq_true]; omega
        go_enter Try.func23, Try.ntmps23
        go_wp2
        go_ret
        rw [HV.out]
        exact ⟨rfl, rfl⟩
      · have HV : Hid (letT b = false) := by simp [Hid, letT]; omega
        have d4 : decide ((b : Int) ≤ 90) = false := by rw [decide_eq_false]; omega
        go_enter Try.func23, Try.ntmps23
        go_wp2
        go_ret
        rw [HV.out]
        exact ⟨rfl, rfl⟩
    · have d3 : decide ((65 : Int) ≤ (b : Int)) = false := by rw [decide_eq_false]; omega
      have HV : Hid (letT b = false) := by simp [Hid, letT]; omega
      go_enter Try.func23, Try.ntmps23
      go_wp2
      go_ret
      rw [HV.out]
      exact ⟨rfl, rfl⟩
theorem fig10_any (b : Nat) (w : World) : Calls Try.prog 24 #[.int .u8 b] w fun e w' => e = .returned (.bool (figT b)) ∧ w' = w := by
  by_cases h1 : 48 ≤ b
  · have d1 : decide ((48 : Int) ≤ (b : Int)) = true := by rw [decide_eq_true]; omega
    by_cases h2 : b ≤ 57
    · have HV : Hid (figT b = true) := by simp [Hid, figT, h1, h2]
      have d2 : decide ((b : Int) ≤ 57) = true := by rw [decide_eq_true]; omega
      go_enter Try.func24, Try.ntmps24
      go_wp2
      go_ret
      rw [HV.out]
      exact ⟨rfl, rfl⟩
    · have HV : Hid (figT b = false) := by simp [Hid, figT]; omega
      have d2 : decide ((b : Int) ≤ 57) = false := by rw [decide_eq_false]; omega
      go_enter Try.func24, Try.ntmps24
      go_wp2
      go_ret
      rw [HV.out]
      exact ⟨rfl, rfl⟩
  · have d1 : decide ((48 : Int) ≤ (b : Int)) = false := by rw [decide_eq_false]; omega
    have HV : Hid (figT b = false) := by simp [Hid, figT]; omega
    go_enter Try.func24, Try.ntmps24
    go_wp2
    go_ret
    rw [HV.out]
    exact ⟨rfl, rfl⟩

theorem ext_take (s : ByteArray) (i j : Nat) : s.extract i j = bytesOf ((s.data.toList.drop i).take (j - i)) := by
  apply ByteArray.ext
  rw [ByteArray.data_extract, ← Array.toList_inj, Array.toList_extract]
  rfl
theorem drop_at {s : ByteArray} {k : Nat} (h : k < s.size) : s.data.toList.drop k = s[k] :: s.data.toList.drop (k + 1) := by
  rw [List.drop_eq_getElem_cons (by simpa using h)]
  rfl
theorem rest_at {s : ByteArray} {k n : Nat} (h : k + n < s.size) : ∃ h2 : n < (s.data.toList.drop k).length, (s.data.toList.drop k)[n] = s[k + n] := by
  refine ⟨by rw [List.length_drop]; have : s.data.toList.length = s.size := by simp
             omega, ?_⟩
  rw [List.getElem_drop]
  rfl

end Go.Proofs.Ytoldlbefddhhbaa
