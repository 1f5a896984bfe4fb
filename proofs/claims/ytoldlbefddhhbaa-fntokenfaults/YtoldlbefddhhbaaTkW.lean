/- The law FnTokenFaults, walked. -/
import Derived.Test.YtoldlbefddhhbaaTkO
import Derived.Test.YtoldlbefddhhbaaTkG
namespace Go.Proofs.Ytoldlbefddhhbaa
open Go.RowKit
theorem fnTokenFaults_walk (a : Option Addr) (n cap : Nat) (w : World) (hcode : CodeRow w (.slice a n cap) n) :
    Calls Try.prog 4 #[.slice a n cap] w fun e w' => e = .returned (.bool true) ∧ Below w.heap.size w w' :=
  fnTokenFaults_of implTokens_any a n cap w hcode
end Go.Proofs.Ytoldlbefddhhbaa
