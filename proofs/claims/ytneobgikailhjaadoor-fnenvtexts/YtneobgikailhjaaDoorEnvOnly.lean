/- EnvOnly of the specification. -/
import Derived.Test.YtneobgikailhjaaDoorEnvSet
import Derived.Test.YtneobgikailhjaaDoorSKit
namespace Go.Proofs.YtneobgikailhjaaDoor
open Go.RowKit

def inB (ss : List ByteArray) (s : ByteArray) : Bool := ss.any (fun t => decide (t = s))
theorem inB_iff (ss : List ByteArray) (s : ByteArray) : inB ss s = true ↔ s ∈ ss := by simp [inB]
def onlyB (xs : List VarD) (ss : List ByteArray) : List VarD := xs.filter (fun x => inB ss x.1)



end Go.Proofs.YtneobgikailhjaaDoor
