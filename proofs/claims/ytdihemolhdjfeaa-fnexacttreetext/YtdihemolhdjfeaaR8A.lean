/- The program's isAhead, and what a node's cells are. -/
import Derived.Test.YtdihemolhdjfeaaTData
namespace Go.Proofs.Ytdihemolhdjfeaa
open Go.RowKit

theorem isAhead8 (k i : Int) (w : World) :
    Calls Try.prog 27 #[.int .i64 k, .int .i64 i] w fun e w' => e = .returned (.bool (decide (0 ≤ k ∧ k < i))) ∧ w' = w := by
  by_cases h0 : 0 ≤ k
  · by_cases h1 : k < i
    · rw [decide_eq_true ⟨h0, h1⟩]
      go_enter Try.func27, Try.ntmps27
      go_wp2
      go_ret
      exact ⟨rfl, rfl⟩
    · rw [decide_eq_false (by omega)]
      go_enter Try.func27, Try.ntmps27
      go_wp2
      go_ret
      exact ⟨rfl, rfl⟩
  · rw [decide_eq_false (by omega)]
    go_enter Try.func27, Try.ntmps27
    go_wp2
    go_ret
    exact ⟨rfl, rfl⟩

end Go.Proofs.Ytdihemolhdjfeaa
