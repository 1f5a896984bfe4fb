/- The program's kindOf. -/
import Derived.Test.YtkojkicfibmjdaaRows
import Derived.Test.YtkojkicfibmjdaaKit
namespace Go.Proofs.Ytkojkicfibmjdaa
open Go.RowKit

def kindP (b : Nat) : Int := if 48 ≤ b ∧ b ≤ 57 then 1 else if 97 ≤ b ∧ b ≤ 122 then 2 else 0

theorem kind_any (b : Nat) (hb : b < 256) (w : World) :
    Calls Try.prog 34 #[.int .u8 b] w fun e w' => e = .returned (.int .i64 (kindP b)) ∧ w' = w := by
  by_cases h1 : 48 ≤ b ∧ b ≤ 57
  · have HV : Hid (kindP b = 1) := by simp only [Hid, kindP, if_pos h1]
    obtain ⟨h1, h2⟩ := h1
    go_enter Try.func34, Try.ntmps34
    go_wp2
    go_ret
    rw [HV.out]
    exact ⟨rfl, rfl⟩
  · by_cases h2 : 97 ≤ b ∧ b ≤ 122
    · have HV : Hid (kindP b = 2) := by simp only [Hid, kindP, if_neg h1, if_pos h2]
      obtain ⟨h2, h3⟩ := h2
      clear h1
      go_enter Try.func34, Try.ntmps34
      go_wp2
      go_ret
      rw [HV.out]
      exact ⟨rfl, rfl⟩
    · have HV : Hid (kindP b = 0) := by simp only [Hid, kindP, if_neg h1, if_neg h2]
      by_cases h3 : b < 48
      · go_enter Try.func34, Try.ntmps34
        go_wp2
        go_ret
        rw [HV.out]
        exact ⟨rfl, rfl⟩
      · by_cases h4 : b < 97
        · have h5 : 57 < b := by omega
          go_enter Try.func34, Try.ntmps34
          go_wp2
          go_ret
          rw [HV.out]
          exact ⟨rfl, rfl⟩
        · have h5 : 122 < b := by omega
          go_enter Try.func34, Try.ntmps34
          go_wp2
          go_ret
          rw [HV.out]
          exact ⟨rfl, rfl⟩

end Go.Proofs.Ytkojkicfibmjdaa
