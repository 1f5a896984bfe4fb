/- The law on ShortText, walked out of contracts: it returns true at every text. -/
import Derived.Test.YtocccahgccoimamVar
namespace Go.Proofs.Ytocccahgccoimam
open Go.RowKit

theorem implShort_yes (s : ByteArray) (w : World) (hs : s.size ≤ 20000) :
    Calls Try.prog 14 #[.string s] w fun e w' => e = .returned (.tuple #[.string (str (varB s.size) ++ s), .bool true]) ∧ Below w.heap.size w w' := by
  have hv := varB_len s.size
  have hz := str_size (varB s.size)
  have hadd := fun W => run_string_add_sum (P := Try.prog) (w := W) (str (varB s.size)) s (by omega)
  clear hz hv
  go_enter Try.func14, Try.ntmps14
  go_wp2_with (go_at_call 10; refine (implVar_yes _ _ (by omega)).mono ?_; rintro e w1 ⟨rfl, hb1⟩)
  go_ret2
  exact ⟨rfl, hb1⟩

theorem specShort_yes (s : ByteArray) (w : World) (hs : s.size ≤ 20000) :
    Calls Try.prog 13 #[.string s] w fun e w' => e = .returned (.tuple #[.string (str (varB s.size) ++ s), .bool true]) ∧ Below w.heap.size w w' := by
  have hv := varB_len s.size
  have hz := str_size (varB s.size)
  have hadd := fun W => run_string_add_sum (P := Try.prog) (w := W) (str (varB s.size)) s (by omega)
  clear hz hv
  go_enter Try.func13, Try.ntmps13
  go_wp2_with (go_at_call 22; refine (l01Var_any _ _ (by omega)).mono ?_; rintro e w1 ⟨rfl, hb1⟩)
  go_ret2
  exact ⟨rfl, hb1⟩

theorem implShort_no (s : ByteArray) (w : World) (hs : 20000 < s.size) :
    Calls Try.prog 14 #[.string s] w fun e w' => e = .returned (.tuple #[.string (str []), .bool false]) ∧ w' = w := by
  have hs1 : (20000 : Int) < s.size := by omega
  go_enter Try.func14, Try.ntmps14
  go_wp2
  go_ret2
  exact ⟨rfl, rfl⟩

theorem specShort_no (s : ByteArray) (w : World) (hs : 20000 < s.size) :
    Calls Try.prog 13 #[.string s] w fun e w' => e = .returned (.tuple #[.string (str []), .bool false]) ∧ w' = w := by
  have hs1 : (20000 : Int) < s.size := by omega
  go_enter Try.func13, Try.ntmps13
  go_wp2
  go_ret2
  exact ⟨rfl, rfl⟩

theorem fnExactShortText_walk (s : ByteArray) (_hs : s.size ≤ maxLen) (w : World) :
    Calls Try.prog 5 #[.string s] w fun e w' => e = .returned (.bool true) ∧ Below w.heap.size w w' := by
  by_cases h : s.size ≤ 20000
  · go_enter Try.func5, Try.ntmps5
    go_wp2_with (first
      | (go_at_call 13; refine (specShort_yes _ _ h).mono ?_; rintro e w1 ⟨rfl, hb1⟩)
      | (go_at_call 14; refine (implShort_yes _ _ h).mono ?_; rintro e w2 ⟨rfl, hb2⟩))
    go_ret
    exact ⟨rfl, hb1.trans (hb2.mono hb1.size)⟩
  · by_cases h1 : s.size ≤ 1048576
    · go_enter Try.func5, Try.ntmps5
      go_wp2_with (first
        | (go_at_call 13; refine (specShort_no _ _ (by omega)).mono ?_; rintro e w1 ⟨rfl, rfl⟩)
        | (go_at_call 14; refine (implShort_no _ _ (by omega)).mono ?_; rintro e w2 ⟨rfl, rfl⟩))
      go_ret
      exact ⟨rfl, Below.refl _ _⟩
    · have h2 : (1048576 : Int) < s.size := by omega
      go_enter Try.func5, Try.ntmps5
      go_wp2
      go_ret
      exact ⟨rfl, Below.refl _ _⟩

end Go.Proofs.Ytocccahgccoimam
