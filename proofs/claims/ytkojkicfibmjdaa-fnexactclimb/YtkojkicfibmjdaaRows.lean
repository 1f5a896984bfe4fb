/-
  No cell of these rows narrows 'for every input' (looked for: loops, veiled, ifaces, maps, wideKeys, modest, calm, conditions, laid).
  DERIVED. THE GIVEN ROWS OF THIS SEAT. 3 by the template 'for every input the law returns true; each argument reads behind the call as it read before'; 0 by the template 'total and deterministic' (their statements: YtkojkicfibmjdaaTotals.lean).
  GIVEN WITH THE SEED: the statements are not yours to turn. If you find one false, say at which input.
  Laid BY PROGRAM, IN A SANDBOX (cutbox-rows.mjs): the forced cells as the released guide's own fill.sh prints them over the translation c27b0931a9b49d84… (all of the seat's roots in one cut). By AI agents, Wed Nov 11 2026. No macro, syntax, notation, axiom, sorry.
-/
import Derived.Test.YtkojkicfibmjdaaChecked
import GoSem.Claim
import GoSem.ClaimJoined
import GoSem.ClaimMapViews
import Derived.JoinedTies
import Derived.KernelRfl
namespace Go.Proofs.Ytkojkicfibmjdaa
/- THE CELL 'sum', in the pinned program and in every row, IS THE sha256 OF THE DUMP (.gsa) THAT YtkojkicfibmjdaaProg.lean LOADS. Nothing in Lean hashes anything: it is a label: what it is worth is what the hold of that sum in a sandbox is worth. -/
noncomputable def Try.pinned : Pinned := { name := "ytkojkicfibmjdaa", sum := "c27b0931a9b49d84f0f59704a69a20140f9deefa3a7d9e87412736ff84f660a2", checked := Try.checked }
namespace Rows
def none {H : Type} : Left H := { results := [], args := [] }

/-- 'laws.FnSides': WHATEVER THE INPUT: true; the input reads as it did. -/
def fnSidesSpec : ChangeSpec := { name := "fnSides", fn := fun _ => fun
  | [d] => { results := [.lit (.bool true)], args := [d] }
  | _ => none }
def fnSidesRow : OpenClaim := { program := "ytkojkicfibmjdaa", sum := "c27b0931a9b49d84f0f59704a69a20140f9deefa3a7d9e87412736ff84f660a2", func := "loop.example/g00243/laws.FnSides", spec := "fnSides", inPlace := ["internal/bytealg.IndexByteString", "internal/bytealg.IndexString"], unfollowed := true, recurses := true, named := ["internal/bytealg.MaxLen"], apart := false }
def FnSidesSaid : Prop := fnSidesRow.holds Try.pinned (OpenSpec.ofChange fnSidesSpec)

/-- ITS FALSE NEIGHBOUR: 'it returns false'. Refute it at one input. -/
def fnSidesWrong : ChangeSpec := { name := "fnSides", fn := fun _ => fun
  | [d] => { results := [.lit (.bool false)], args := [d] }
  | _ => none }
def FnSidesWrongFalsely : Prop := fnSidesRow.holds Try.pinned (OpenSpec.ofChange fnSidesWrong)

/-- 'laws.FnParentheses': WHATEVER THE INPUT: true; the input reads as it did. -/
def fnParenthesesSpec : ChangeSpec := { name := "fnParentheses", fn := fun _ => fun
  | [d] => { results := [.lit (.bool true)], args := [d] }
  | _ => none }
def fnParenthesesRow : OpenClaim := { program := "ytkojkicfibmjdaa", sum := "c27b0931a9b49d84f0f59704a69a20140f9deefa3a7d9e87412736ff84f660a2", func := "loop.example/g00243/laws.FnParentheses", spec := "fnParentheses", inPlace := ["internal/bytealg.IndexByteString", "internal/bytealg.IndexString"], unfollowed := true, recurses := true, named := ["internal/bytealg.MaxLen"], apart := false }
def FnParenthesesSaid : Prop := fnParenthesesRow.holds Try.pinned (OpenSpec.ofChange fnParenthesesSpec)

/-- ITS FALSE NEIGHBOUR: 'it returns false'. Refute it at one input. -/
def fnParenthesesWrong : ChangeSpec := { name := "fnParentheses", fn := fun _ => fun
  | [d] => { results := [.lit (.bool false)], args := [d] }
  | _ => none }
def FnParenthesesWrongFalsely : Prop := fnParenthesesRow.holds Try.pinned (OpenSpec.ofChange fnParenthesesWrong)

/-- 'laws.FnExactClimb': WHATEVER THE INPUT: true; the input reads as it did. -/
def fnExactClimbSpec : ChangeSpec := { name := "fnExactClimb", fn := fun _ => fun
  | [d1, d2] => { results := [.lit (.bool true)], args := [d1, d2] }
  | _ => none }
def fnExactClimbRow : OpenClaim := { program := "ytkojkicfibmjdaa", sum := "c27b0931a9b49d84f0f59704a69a20140f9deefa3a7d9e87412736ff84f660a2", func := "loop.example/g00243/laws.FnExactClimb", spec := "fnExactClimb", inPlace := ["internal/bytealg.IndexByteString", "internal/bytealg.IndexString"], unfollowed := true, recurses := true, named := ["internal/bytealg.MaxLen"], apart := false }
def FnExactClimbSaid : Prop := fnExactClimbRow.holds Try.pinned (OpenSpec.ofChange fnExactClimbSpec)

/-- ITS FALSE NEIGHBOUR: 'it returns false'. Refute it at one input. -/
def fnExactClimbWrong : ChangeSpec := { name := "fnExactClimb", fn := fun _ => fun
  | [d1, d2] => { results := [.lit (.bool false)], args := [d1, d2] }
  | _ => none }
def FnExactClimbWrongFalsely : Prop := fnExactClimbRow.holds Try.pinned (OpenSpec.ofChange fnExactClimbWrong)

/- THE SECOND FORM. 'bulk': how many values and letters a reading holds, each counted each time it is reached (what is shared counts as often as it is met; a slice's spare places count too). A statement '..UptoSaid' is the law's where the arguments, and the package variables that the reading takes, are together of bulk at most 1048576: NARROWER than '..Said'. Prove '..Said' where nothing that the law and all that it calls make is longer than what came in: it says more and counts as full. Else prove '..UptoSaid'. A law counts once. -/
mutual
def uptoBulk {H : Type} : DataW H → Nat
  | .lit (.string bytes) => bytes.length + 1
  | .lit _ => 1
  | .nil => 1
  | .ptr d => uptoBulk d + 1
  | .slice elems spare => uptoBulkAll elems + uptoBulkAll spare + 1
  | .agg parts => uptoBulkAll parts + 1
  | .iface _ d => uptoBulk d + 1
  | .map entries => uptoBulkEntries entries + 1
  | .held _ => 1
def uptoBulkAll {H : Type} : List (DataW H) → Nat
  | [] => 0
  | d :: r => uptoBulk d + uptoBulkAll r
def uptoBulkEntries {H : Type} : List (Lit × DataW H) → Nat
  | [] => 0
  | x :: r => uptoBulkEntry x + uptoBulkEntries r
def uptoBulkEntry {H : Type} : Lit × DataW H → Nat
  | (.string bytes, d) => bytes.length + uptoBulk d + 1
  | (_, d) => uptoBulk d + 1
 end
def uptoSmall : (H : Type) → List (DataW H) → Bool := fun _ ds => decide (uptoBulkAll ds ≤ 1048576)
def OpenSpec.upto (s : _root_.Go.ChangeSpec) : _root_.Go.OpenSpec := { _root_.Go.OpenSpec.ofChange s with cond := some uptoSmall }

/-- 'laws.FnSides', WHERE WHAT IT READS IS OF BULK AT MOST 1048576: true; the input reads as it did. -/
def fnSidesUptoRow : OpenClaim := { program := "ytkojkicfibmjdaa", sum := "c27b0931a9b49d84f0f59704a69a20140f9deefa3a7d9e87412736ff84f660a2", func := "loop.example/g00243/laws.FnSides", spec := "fnSides", inPlace := ["internal/bytealg.IndexByteString", "internal/bytealg.IndexString"], unfollowed := true, recurses := true, named := ["internal/bytealg.MaxLen"], apart := false, narrowed := true }
def FnSidesUptoSaid : Prop := fnSidesUptoRow.holds Try.pinned (OpenSpec.upto fnSidesSpec)

/-- 'laws.FnParentheses', WHERE WHAT IT READS IS OF BULK AT MOST 1048576: true; the input reads as it did. -/
def fnParenthesesUptoRow : OpenClaim := { program := "ytkojkicfibmjdaa", sum := "c27b0931a9b49d84f0f59704a69a20140f9deefa3a7d9e87412736ff84f660a2", func := "loop.example/g00243/laws.FnParentheses", spec := "fnParentheses", inPlace := ["internal/bytealg.IndexByteString", "internal/bytealg.IndexString"], unfollowed := true, recurses := true, named := ["internal/bytealg.MaxLen"], apart := false, narrowed := true }
def FnParenthesesUptoSaid : Prop := fnParenthesesUptoRow.holds Try.pinned (OpenSpec.upto fnParenthesesSpec)

/-- 'laws.FnExactClimb', WHERE WHAT IT READS IS OF BULK AT MOST 1048576: true; the input reads as it did. -/
def fnExactClimbUptoRow : OpenClaim := { program := "ytkojkicfibmjdaa", sum := "c27b0931a9b49d84f0f59704a69a20140f9deefa3a7d9e87412736ff84f660a2", func := "loop.example/g00243/laws.FnExactClimb", spec := "fnExactClimb", inPlace := ["internal/bytealg.IndexByteString", "internal/bytealg.IndexString"], unfollowed := true, recurses := true, named := ["internal/bytealg.MaxLen"], apart := false, narrowed := true }
def FnExactClimbUptoSaid : Prop := fnExactClimbUptoRow.holds Try.pinned (OpenSpec.upto fnExactClimbSpec)

end Rows
end Go.Proofs.Ytkojkicfibmjdaa
