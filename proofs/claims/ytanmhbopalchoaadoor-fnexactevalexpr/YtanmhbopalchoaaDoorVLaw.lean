/- The exact laws on names and numbers, walked out of contracts, the program's own contracts handed in. -/
import Derived.Test.YtanmhbopalchoaaDoorVOpen
import Derived.Test.YtanmhbopalchoaaDoorVKit
import Derived.Test.YtanmhbopalchoaaDoorEnvSet
namespace Go.Proofs.YtanmhbopalchoaaDoor
open Go.RowKit

/-- A list within the laws' bounds. -/
def VIn (xs : List VarD) : Prop := xs.length ≤ 1048576 ∧ (∀ x ∈ xs, x.1.size ≤ 1048576) ∧ (∀ x ∈ xs, -9223372036854775808 ≤ x.2 ∧ x.2 ≤ 9223372036854775807)

theorem vIn_of {xs : List VarD} {r : Int} (h : 0 ≤ r ∧ r + xs.length + totS xs = 1048576) (hb : ∀ x ∈ xs, x.1.size ≤ maxLen ∧ (-9223372036854775808 ≤ x.2 ∧ x.2 ≤ 9223372036854775807)) : VIn xs :=
  ⟨by omega, fun x hx => by have := totS_mem hx; omega, fun x hx => (hb x hx).2⟩


end Go.Proofs.YtanmhbopalchoaaDoor
