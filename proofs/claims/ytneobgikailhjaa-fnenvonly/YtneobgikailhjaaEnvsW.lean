/- The law on drawn names that are set and got, walked. -/
import Derived.Test.YtneobgikailhjaaEnvI
import Derived.Test.YtneobgikailhjaaEnvMapI
namespace Go.Proofs.Ytneobgikailhjaa
open Go.RowKit

theorem iEnvOk : IEnvOk := fun v xs w hv hr => implEnvOk_any v xs w (by have := hv.1; omega) hr
theorem iEnvGet : IEnvGet := fun v xs name w hv _ hr => implEnvGet_any v xs name w (by have := hv.1; omega) hr
theorem iEnvSet : IEnvSet := fun v xs name num w hv hcase hn h0 h1 hr => by
  have key : setOkI xs name num = setOk xs name num ∧ setLI xs name num = setL xs name num := by
    rcases hcase with h | h
    · exact setI_asc name num h
    · exact setI_no name num h
  have := implEnvSet_any v xs name num w hv.1 (fun x hx => ⟨hv.2.1 x hx, hv.2.2 x hx⟩) hn h0 h1 hr
  rwa [key.1, key.2] at this

theorem fnEnvs_walk (a : Option Addr) (n cap : Nat) (w : World) (hcode : CodeRow w (.slice a n cap) n) :
    Calls Try.prog 3 #[.slice a n cap] w fun e w' => e = .returned (.bool true) ∧ Below w.heap.size w w' :=
  fnEnvs_of iEnvOk iEnvGet iEnvSet a n cap w hcode

end Go.Proofs.Ytneobgikailhjaa
