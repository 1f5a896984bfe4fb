/- The exact laws on EnvGet and EnvOnly, walked. -/
import Derived.Test.YtneobgikailhjabVLaw3
import Derived.Test.YtneobgikailhjabOnlyI
namespace Go.Proofs.Ytneobgikailhjab
open Go.RowKit

theorem fnExactEnvGet_walk (v : Value) (xs : List VarD) (name : ByteArray) (hs : name.size ≤ maxLen) (w : World) (h : VArg w v xs) :
    Calls Try.prog 3 #[v, .string name] w fun e w' => e = .returned (.bool true) ∧ Below w.heap.size w w' :=
  fnExactEnvGet_of (fun v xs name w hv _ hr => implEnvGet_any v xs name w (by have := hv.1; omega) hr) v xs name hs w h

theorem fnExactEnvOnly_walk (v : Value) (xs : List VarD) (u : Value) (ss : List ByteArray) (w : World) (h : VArg w v xs) (h' : SArg w u ss) :
    Calls Try.prog 4 #[v, u] w fun e w' => e = .returned (.bool true) ∧ Below w.heap.size w w' :=
  fnExactEnvOnly_of (fun v u xs ss w hv hs hr hr' => implEnvOnly_any v u xs ss w hv.1 hv.2.1 hs.1 hs.2 hr hr') v xs u ss w h h'

end Go.Proofs.Ytneobgikailhjab
