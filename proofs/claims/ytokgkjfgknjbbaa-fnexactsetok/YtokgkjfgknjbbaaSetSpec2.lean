/- The specification's InSet and SetBytes. -/
import Derived.Test.YtokgkjfgknjbbaaSetSpec
namespace Go.Proofs.Ytokgkjfgknjbbaa
open Go.RowKit

theorem inL_no {l : List UInt8} (h : okL l = false) (x : Nat) : inL l x = false := by rw [inL, h]; rfl
theorem inL_rows {l : List UInt8} {rs : List (Nat × Nat)} (h : rowsL l = some rs) (ho : okL l = true) (x : Nat) : inL l x = inR rs x := by rw [inL, ho, h]; rfl



end Go.Proofs.Ytokgkjfgknjbbaa
