/-
  No cell of these rows narrows 'for every input' (looked for: loops, veiled, ifaces, maps, wideKeys, modest, calm, conditions, laid).
  DERIVED. THE GIVEN ROWS OF THIS SEAT. 5 by the template 'for every input the law returns true; each argument reads behind the call as it read before'; 0 by the template 'total and deterministic' (their statements: YtneobgikailhjaaTotals.lean).
  GIVEN WITH THE SEED: the statements are not yours to turn. If you find one false, say at which input.
  Laid BY PROGRAM, IN A SANDBOX (cutbox-rows.mjs): the forced cells as the released guide's own fill.sh prints them over the translation 9ea426bb563b8950… (all of the seat's roots in one cut). By AI agents, Wed Nov 11 2026. No macro, syntax, notation, axiom, sorry.
-/
import Derived.Test.YtneobgikailhjaaChecked
import GoSem.Claim
import GoSem.ClaimJoined
import GoSem.ClaimMapViews
import Derived.JoinedTies
import Derived.KernelRfl
namespace Go.Proofs.Ytneobgikailhjaa
/- THE CELL 'sum', in the pinned program and in every row, IS THE sha256 OF THE DUMP (.gsa) THAT YtneobgikailhjaaProg.lean LOADS. Nothing in Lean hashes anything: it is a label: what it is worth is what the hold of that sum in a sandbox is worth. -/
noncomputable def Try.pinned : Pinned := { name := "ytneobgikailhjaa", sum := "9ea426bb563b89505f3cf8f7112e87a79a0045267693dc44c1f881971ff47609", checked := Try.checked }
namespace Rows
def none {H : Type} : Left H := { results := [], args := [] }

/-- 'laws.FnEnvs': WHATEVER THE INPUT: true; the input reads as it did. -/
def fnEnvsSpec : ChangeSpec := { name := "fnEnvs", fn := fun _ => fun
  | [d] => { results := [.lit (.bool true)], args := [d] }
  | _ => none }
def fnEnvsRow : OpenClaim := { program := "ytneobgikailhjaa", sum := "9ea426bb563b89505f3cf8f7112e87a79a0045267693dc44c1f881971ff47609", func := "loop.example/g00243/laws.FnEnvs", spec := "fnEnvs", unfollowed := true, recurses := true, apart := false }
def FnEnvsSaid : Prop := fnEnvsRow.holds Try.pinned (OpenSpec.ofChange fnEnvsSpec)

/-- ITS FALSE NEIGHBOUR: 'it returns false'. Refute it at one input. -/
def fnEnvsWrong : ChangeSpec := { name := "fnEnvs", fn := fun _ => fun
  | [d] => { results := [.lit (.bool false)], args := [d] }
  | _ => none }
def FnEnvsWrongFalsely : Prop := fnEnvsRow.holds Try.pinned (OpenSpec.ofChange fnEnvsWrong)

/-- 'laws.FnEnvsTold': WHATEVER THE INPUT: true; the input reads as it did. -/
def fnEnvsToldSpec : ChangeSpec := { name := "fnEnvsTold", fn := fun _ => fun
  | [d] => { results := [.lit (.bool true)], args := [d] }
  | _ => none }
def fnEnvsToldRow : OpenClaim := { program := "ytneobgikailhjaa", sum := "9ea426bb563b89505f3cf8f7112e87a79a0045267693dc44c1f881971ff47609", func := "loop.example/g00243/laws.FnEnvsTold", spec := "fnEnvsTold", unfollowed := true, recurses := true, apart := false }
def FnEnvsToldSaid : Prop := fnEnvsToldRow.holds Try.pinned (OpenSpec.ofChange fnEnvsToldSpec)

/-- ITS FALSE NEIGHBOUR: 'it returns false'. Refute it at one input. -/
def fnEnvsToldWrong : ChangeSpec := { name := "fnEnvsTold", fn := fun _ => fun
  | [d] => { results := [.lit (.bool false)], args := [d] }
  | _ => none }
def FnEnvsToldWrongFalsely : Prop := fnEnvsToldRow.holds Try.pinned (OpenSpec.ofChange fnEnvsToldWrong)

/-- 'laws.FnEnvOnly': WHATEVER THE INPUT: true; the input reads as it did. -/
def fnEnvOnlySpec : ChangeSpec := { name := "fnEnvOnly", fn := fun _ => fun
  | [d] => { results := [.lit (.bool true)], args := [d] }
  | _ => none }
def fnEnvOnlyRow : OpenClaim := { program := "ytneobgikailhjaa", sum := "9ea426bb563b89505f3cf8f7112e87a79a0045267693dc44c1f881971ff47609", func := "loop.example/g00243/laws.FnEnvOnly", spec := "fnEnvOnly", apart := false }
def FnEnvOnlySaid : Prop := fnEnvOnlyRow.holds Try.pinned (OpenSpec.ofChange fnEnvOnlySpec)

/-- ITS FALSE NEIGHBOUR: 'it returns false'. Refute it at one input. -/
def fnEnvOnlyWrong : ChangeSpec := { name := "fnEnvOnly", fn := fun _ => fun
  | [d] => { results := [.lit (.bool false)], args := [d] }
  | _ => none }
def FnEnvOnlyWrongFalsely : Prop := fnEnvOnlyRow.holds Try.pinned (OpenSpec.ofChange fnEnvOnlyWrong)

/-- 'laws.FnExactVarName': WHATEVER THE INPUT: true; the input reads as it did. -/
def fnExactVarNameSpec : ChangeSpec := { name := "fnExactVarName", fn := fun _ => fun
  | [d] => { results := [.lit (.bool true)], args := [d] }
  | _ => none }
def fnExactVarNameRow : OpenClaim := { program := "ytneobgikailhjaa", sum := "9ea426bb563b89505f3cf8f7112e87a79a0045267693dc44c1f881971ff47609", func := "loop.example/g00243/laws.FnExactVarName", spec := "fnExactVarName", apart := false }
def FnExactVarNameSaid : Prop := fnExactVarNameRow.holds Try.pinned (OpenSpec.ofChange fnExactVarNameSpec)

/-- ITS FALSE NEIGHBOUR: 'it returns false'. Refute it at one input. -/
def fnExactVarNameWrong : ChangeSpec := { name := "fnExactVarName", fn := fun _ => fun
  | [d] => { results := [.lit (.bool false)], args := [d] }
  | _ => none }
def FnExactVarNameWrongFalsely : Prop := fnExactVarNameRow.holds Try.pinned (OpenSpec.ofChange fnExactVarNameWrong)

/-- 'laws.FnExactEnvOk': WHATEVER THE INPUT: true; the input reads as it did. -/
def fnExactEnvOkSpec : ChangeSpec := { name := "fnExactEnvOk", fn := fun _ => fun
  | [d] => { results := [.lit (.bool true)], args := [d] }
  | _ => none }
def fnExactEnvOkRow : OpenClaim := { program := "ytneobgikailhjaa", sum := "9ea426bb563b89505f3cf8f7112e87a79a0045267693dc44c1f881971ff47609", func := "loop.example/g00243/laws.FnExactEnvOk", spec := "fnExactEnvOk", apart := false }
def FnExactEnvOkSaid : Prop := fnExactEnvOkRow.holds Try.pinned (OpenSpec.ofChange fnExactEnvOkSpec)

/-- ITS FALSE NEIGHBOUR: 'it returns false'. Refute it at one input. -/
def fnExactEnvOkWrong : ChangeSpec := { name := "fnExactEnvOk", fn := fun _ => fun
  | [d] => { results := [.lit (.bool false)], args := [d] }
  | _ => none }
def FnExactEnvOkWrongFalsely : Prop := fnExactEnvOkRow.holds Try.pinned (OpenSpec.ofChange fnExactEnvOkWrong)

/- THE SECOND FORM. 'bulk': how many values and letters a reading holds, each counted each time it is reached (what is shared counts as often as it is met; a slice's spare places count too). A statement '..UptoSaid' is the law's where the arguments, and the package variables that the reading takes, are together of bulk at most 1048576: NARROWER than '..Said'. Prove '..Said' where nothing that the law and all that it calls make is longer than what came in: it says more and counts as full. Else prove '..UptoSaid'. A law counts once. -/
mutual
def uptoBulk {H : Type} : DataW H → Nat
  | .lit (.string bytes) => bytes.length + 1
  | .lit _ => 1
  | .nil => 1
  | .ptr d => uptoBulk d + 1
  | .slice elems spare => uptoBulkAll elems + uptoBulkAll spare + 1
  | .agg parts => uptoBulkAll parts + 1
  | .iface _ d => uptoBulk d + 1
  | .map entries => uptoBulkEntries entries + 1
  | .held _ => 1
def uptoBulkAll {H : Type} : List (DataW H) → Nat
  | [] => 0
  | d :: r => uptoBulk d + uptoBulkAll r
def uptoBulkEntries {H : Type} : List (Lit × DataW H) → Nat
  | [] => 0
  | x :: r => uptoBulkEntry x + uptoBulkEntries r
def uptoBulkEntry {H : Type} : Lit × DataW H → Nat
  | (.string bytes, d) => bytes.length + uptoBulk d + 1
  | (_, d) => uptoBulk d + 1
 end
def uptoSmall : (H : Type) → List (DataW H) → Bool := fun _ ds => decide (uptoBulkAll ds ≤ 1048576)
def OpenSpec.upto (s : _root_.Go.ChangeSpec) : _root_.Go.OpenSpec := { _root_.Go.OpenSpec.ofChange s with cond := some uptoSmall }

/-- 'laws.FnEnvs', WHERE WHAT IT READS IS OF BULK AT MOST 1048576: true; the input reads as it did. -/
def fnEnvsUptoRow : OpenClaim := { program := "ytneobgikailhjaa", sum := "9ea426bb563b89505f3cf8f7112e87a79a0045267693dc44c1f881971ff47609", func := "loop.example/g00243/laws.FnEnvs", spec := "fnEnvs", unfollowed := true, recurses := true, apart := false, narrowed := true }
def FnEnvsUptoSaid : Prop := fnEnvsUptoRow.holds Try.pinned (OpenSpec.upto fnEnvsSpec)

/-- 'laws.FnEnvsTold', WHERE WHAT IT READS IS OF BULK AT MOST 1048576: true; the input reads as it did. -/
def fnEnvsToldUptoRow : OpenClaim := { program := "ytneobgikailhjaa", sum := "9ea426bb563b89505f3cf8f7112e87a79a0045267693dc44c1f881971ff47609", func := "loop.example/g00243/laws.FnEnvsTold", spec := "fnEnvsTold", unfollowed := true, recurses := true, apart := false, narrowed := true }
def FnEnvsToldUptoSaid : Prop := fnEnvsToldUptoRow.holds Try.pinned (OpenSpec.upto fnEnvsToldSpec)

/-- 'laws.FnEnvOnly', WHERE WHAT IT READS IS OF BULK AT MOST 1048576: true; the input reads as it did. -/
def fnEnvOnlyUptoRow : OpenClaim := { program := "ytneobgikailhjaa", sum := "9ea426bb563b89505f3cf8f7112e87a79a0045267693dc44c1f881971ff47609", func := "loop.example/g00243/laws.FnEnvOnly", spec := "fnEnvOnly", apart := false, narrowed := true }
def FnEnvOnlyUptoSaid : Prop := fnEnvOnlyUptoRow.holds Try.pinned (OpenSpec.upto fnEnvOnlySpec)

/-- 'laws.FnExactVarName', WHERE WHAT IT READS IS OF BULK AT MOST 1048576: true; the input reads as it did. -/
def fnExactVarNameUptoRow : OpenClaim := { program := "ytneobgikailhjaa", sum := "9ea426bb563b89505f3cf8f7112e87a79a0045267693dc44c1f881971ff47609", func := "loop.example/g00243/laws.FnExactVarName", spec := "fnExactVarName", apart := false, narrowed := true }
def FnExactVarNameUptoSaid : Prop := fnExactVarNameUptoRow.holds Try.pinned (OpenSpec.upto fnExactVarNameSpec)

/-- 'laws.FnExactEnvOk', WHERE WHAT IT READS IS OF BULK AT MOST 1048576: true; the input reads as it did. -/
def fnExactEnvOkUptoRow : OpenClaim := { program := "ytneobgikailhjaa", sum := "9ea426bb563b89505f3cf8f7112e87a79a0045267693dc44c1f881971ff47609", func := "loop.example/g00243/laws.FnExactEnvOk", spec := "fnExactEnvOk", apart := false, narrowed := true }
def FnExactEnvOkUptoSaid : Prop := fnExactEnvOkUptoRow.holds Try.pinned (OpenSpec.upto fnExactEnvOkSpec)

end Rows
end Go.Proofs.Ytneobgikailhjaa
