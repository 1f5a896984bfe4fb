/- What BindNum answers, in pure terms. -/
import Derived.Test.YtccbbghlckbihaaKit
namespace Go.Proofs.Ytccbbghlckbihaa
open Go.RowKit

/-- BindNum. -/
def figsB (l : List UInt8) : Bool := l.all fun u => decide (48 ≤ u.toNat) && decide (u.toNat ≤ 57)
def numI (n : Int) : List UInt8 → Int
  | [] => n
  | u :: l => numI (10 * n + (u.toNat : Int) - 48) l
def bindNum (s : ByteArray) : Int :=
  if (decide ((1 : Int) ≤ s.size ∧ (s.size : Int) ≤ 2) && figsB s.data.toList) = true then numI 0 s.data.toList
  else if 99 < s.size then 99 else s.size

end Go.Proofs.Ytccbbghlckbihaa
