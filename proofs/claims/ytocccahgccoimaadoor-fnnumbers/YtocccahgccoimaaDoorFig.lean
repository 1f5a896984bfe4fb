/- The figure of a half byte: what the specification's function answers at 0 .. 15. -/
import Derived.Test.YtocccahgccoimaaDoorRows
import Derived.Test.YtocccahgccoimaaDoorKit
namespace Go.Proofs.YtocccahgccoimaaDoor
open Go.RowKit

/-- The figure of a half byte, as a number. -/
def figI (x : Int) : Int := if x < 10 then 48 + x else 87 + x
def figB (n : Nat) : UInt8 := UInt8.ofNat (if n < 10 then 48 + n else 87 + n)
theorem figB_toNat (n : Nat) (h : n < 16) : ((figB n).toNat : Int) = figI n := by
  unfold figB figI
  rw [toNat_ofNat _ (by split <;> omega)]
  split <;> split <;> omega


end Go.Proofs.YtocccahgccoimaaDoor
