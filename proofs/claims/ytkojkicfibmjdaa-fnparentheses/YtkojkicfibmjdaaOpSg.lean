/- Right operators have signs of one byte; what climbs has right operators. No program is named. -/
import Derived.Test.YtkojkicfibmjdaaOpC
namespace Go.Proofs.Ytkojkicfibmjdaa
open Go.RowKit
theorem signs_of {xs : List OpD} (h : opsB xs = true) : ∀ x ∈ xs, x.sign.size ≤ maxLen := fun x hx => by
  rw [(sign_one h hx).1]
  decide
theorem climb_ops {xs : List OpD} {text s : ByteArray} (h : climbB xs text = some s) : opsB xs = true := by
  unfold climbB at h
  split at h
  · cases h
  · rename_i h1
    cases ho : opsB xs with
    | true => rfl
    | false => exact absurd (.inl (by rw [ho]; decide)) h1
end Go.Proofs.Ytkojkicfibmjdaa
