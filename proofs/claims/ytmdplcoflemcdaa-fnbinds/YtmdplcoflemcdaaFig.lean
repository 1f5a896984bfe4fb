/- The figure of a half byte: what the specification's function answers at 0 .. 15. -/
import Derived.Test.YtmdplcoflemcdaaRows
import Derived.Test.YtmdplcoflemcdaaKit
namespace Go.Proofs.Ytmdplcoflemcdaa
open Go.RowKit

/-- The figure of a half byte, as a number. -/
def figI (x : Int) : Int := if x < 10 then 48 + x else 87 + x
def figB (n : Nat) : UInt8 := UInt8.ofNat (if n < 10 then 48 + n else 87 + n)
theorem figB_toNat (n : Nat) (h : n < 16) : ((figB n).toNat : Int) = figI n := by
  unfold figB figI
  rw [toNat_ofNat _ (by split <;> omega)]
  split <;> split <;> omega

theorem fig_any (x : Int) (w : World) (h0 : 0 ≤ x) (h1 : x < 16) :
    Calls Try.prog 32 #[.int .i64 x] w fun e w' => e = .returned (.int .u8 (figI x)) ∧ w' = w := by
  by_cases h : x < 10
  · have HF : Hid (figI x = 48 + x) := by simp [Hid, figI, h]
    go_enter Try.func32, Try.ntmps32
    go_wp2
    go_ret
    rw [HF.out]
    exact ⟨rfl, rfl⟩
  · have HF : Hid (figI x = 97 + x - 10) := by simp only [Hid, figI, if_neg h]; omega
    go_enter Try.func32, Try.ntmps32
    go_wp2
    go_ret
    rw [HF.out]
    exact ⟨rfl, rfl⟩

end Go.Proofs.Ytmdplcoflemcdaa
