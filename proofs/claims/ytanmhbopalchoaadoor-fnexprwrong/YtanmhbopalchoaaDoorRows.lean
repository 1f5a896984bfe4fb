/-
  NARROWER THAN 'FOR EVERY INPUT', by the rows' own cells (each row's printed sentence says how): FnExprs: laid · FnExprFree: laid · FnExprWrong: laid · FnExactExprOk: laid · FnExactEvalExpr: laid.
  DERIVED. THE GIVEN ROWS OF THIS SEAT. 5 by the template 'for every input the law returns true; each argument reads behind the call as it read before'; 0 by the template 'total and deterministic' (their statements: YtanmhbopalchoaaDoorTotals.lean).
  GIVEN WITH THE SEED: the statements are not yours to turn. If you find one false, say at which input.
  Laid BY PROGRAM, IN A SANDBOX (cutbox-rows.mjs): the forced cells as the released guide's own fill.sh prints them over the translation 04917dab4ba8f9d9… (all of the seat's roots in one cut). By AI agents, Wed Nov 11 2026. No macro, syntax, notation, axiom, sorry.
-/
import Derived.Test.YtanmhbopalchoaaDoorChecked
import GoSem.Claim
import GoSem.ClaimJoined
import GoSem.ClaimMapViews
import Derived.JoinedTies
import Derived.KernelRfl
namespace Go.Proofs.YtanmhbopalchoaaDoor
/- THE CELL 'sum', in the pinned program and in every row, IS THE sha256 OF THE DUMP (.gsa) THAT YtanmhbopalchoaaDoorProg.lean LOADS. Nothing in Lean hashes anything: it is a label: what it is worth is what the hold of that sum in a sandbox is worth. -/
noncomputable def Tryd.pinned : Pinned := { name := "ytanmhbopalchoaadoor", sum := "04917dab4ba8f9d9ae5fcf1152e1e3e5b0ae1fa7fa6f26b040bd8f17e1e2a4a4", checked := Tryd.checked }
namespace Rows
def none {H : Type} : Left H := { results := [], args := [] }

/- WHAT THE LISTED PACKAGE-LEVEL VARIABLES READ AS WHEN THE CALL BEGINS. Each datum BY PROGRAM (the guide's laid-datum.mjs) off the statement by which the dump's own 'gosem.cut.vars' lays the variable. In a bare row this is a premise. The card (YtanmhbopalchoaaDoorCards.lean) ties it to the program's text. -/
def laid_errors_errorType {H : Type} : DataW H := .iface "internal/reflectlite.rtype" (.agg [.ptr (.lit (.string [101, 114, 114, 111, 114]))])

/-- 'laws.FnExprs': WHATEVER THE INPUT: true; the input reads as it did. -/
def fnExprsSpec : ChangeSpec := { name := "fnExprs", fn := fun _ => fun
  | [d] => { results := [.lit (.bool true)], args := [d] }
  | _ => none }
def fnExprsRow : OpenClaim := { program := "ytanmhbopalchoaadoor", sum := "04917dab4ba8f9d9ae5fcf1152e1e3e5b0ae1fa7fa6f26b040bd8f17e1e2a4a4", func := "loop.example/g00243/laws.FnExprs", spec := "fnExprs", inPlace := ["internal/reflectlite.ValueOf", "(internal/reflectlite.Value).Type", "(internal/reflectlite.Value).IsNil", "internal/reflectlite.TypeOf", "(internal/reflectlite.Value).Elem", "(internal/reflectlite.Value).Set"], unfollowed := true, recurses := true, named := ["errors.errorType"], apart := false, laid := [("errors.errorType", laid_errors_errorType)] }
def FnExprsSaid : Prop := fnExprsRow.holds Tryd.pinned (OpenSpec.ofChange fnExprsSpec)

/-- ITS FALSE NEIGHBOUR: 'it returns false'. Refute it at one input. -/
def fnExprsWrong : ChangeSpec := { name := "fnExprs", fn := fun _ => fun
  | [d] => { results := [.lit (.bool false)], args := [d] }
  | _ => none }
def FnExprsWrongFalsely : Prop := fnExprsRow.holds Tryd.pinned (OpenSpec.ofChange fnExprsWrong)

/-- 'laws.FnExprFree': WHATEVER THE INPUT: true; the input reads as it did. -/
def fnExprFreeSpec : ChangeSpec := { name := "fnExprFree", fn := fun _ => fun
  | [d] => { results := [.lit (.bool true)], args := [d] }
  | _ => none }
def fnExprFreeRow : OpenClaim := { program := "ytanmhbopalchoaadoor", sum := "04917dab4ba8f9d9ae5fcf1152e1e3e5b0ae1fa7fa6f26b040bd8f17e1e2a4a4", func := "loop.example/g00243/laws.FnExprFree", spec := "fnExprFree", inPlace := ["internal/reflectlite.ValueOf", "(internal/reflectlite.Value).Type", "(internal/reflectlite.Value).IsNil", "internal/reflectlite.TypeOf", "(internal/reflectlite.Value).Elem", "(internal/reflectlite.Value).Set"], unfollowed := true, recurses := true, named := ["errors.errorType"], apart := false, laid := [("errors.errorType", laid_errors_errorType)] }
def FnExprFreeSaid : Prop := fnExprFreeRow.holds Tryd.pinned (OpenSpec.ofChange fnExprFreeSpec)

/-- ITS FALSE NEIGHBOUR: 'it returns false'. Refute it at one input. -/
def fnExprFreeWrong : ChangeSpec := { name := "fnExprFree", fn := fun _ => fun
  | [d] => { results := [.lit (.bool false)], args := [d] }
  | _ => none }
def FnExprFreeWrongFalsely : Prop := fnExprFreeRow.holds Tryd.pinned (OpenSpec.ofChange fnExprFreeWrong)

/-- 'laws.FnExprWrong': WHATEVER THE INPUT: true; the input reads as it did. -/
def fnExprWrongSpec : ChangeSpec := { name := "fnExprWrong", fn := fun _ => fun
  | [d] => { results := [.lit (.bool true)], args := [d] }
  | _ => none }
def fnExprWrongRow : OpenClaim := { program := "ytanmhbopalchoaadoor", sum := "04917dab4ba8f9d9ae5fcf1152e1e3e5b0ae1fa7fa6f26b040bd8f17e1e2a4a4", func := "loop.example/g00243/laws.FnExprWrong", spec := "fnExprWrong", inPlace := ["internal/reflectlite.ValueOf", "(internal/reflectlite.Value).Type", "(internal/reflectlite.Value).IsNil", "internal/reflectlite.TypeOf", "(internal/reflectlite.Value).Elem", "(internal/reflectlite.Value).Set"], unfollowed := true, recurses := true, named := ["errors.errorType"], apart := false, laid := [("errors.errorType", laid_errors_errorType)] }
def FnExprWrongSaid : Prop := fnExprWrongRow.holds Tryd.pinned (OpenSpec.ofChange fnExprWrongSpec)

/-- ITS FALSE NEIGHBOUR: 'it returns false'. Refute it at one input. -/
def fnExprWrongWrong : ChangeSpec := { name := "fnExprWrong", fn := fun _ => fun
  | [d] => { results := [.lit (.bool false)], args := [d] }
  | _ => none }
def FnExprWrongWrongFalsely : Prop := fnExprWrongRow.holds Tryd.pinned (OpenSpec.ofChange fnExprWrongWrong)

/-- 'laws.FnExactExprOk': WHATEVER THE INPUT: true; the input reads as it did. -/
def fnExactExprOkSpec : ChangeSpec := { name := "fnExactExprOk", fn := fun _ => fun
  | [d] => { results := [.lit (.bool true)], args := [d] }
  | _ => none }
def fnExactExprOkRow : OpenClaim := { program := "ytanmhbopalchoaadoor", sum := "04917dab4ba8f9d9ae5fcf1152e1e3e5b0ae1fa7fa6f26b040bd8f17e1e2a4a4", func := "loop.example/g00243/laws.FnExactExprOk", spec := "fnExactExprOk", inPlace := ["internal/reflectlite.ValueOf", "(internal/reflectlite.Value).Type", "(internal/reflectlite.Value).IsNil", "internal/reflectlite.TypeOf", "(internal/reflectlite.Value).Elem", "(internal/reflectlite.Value).Set"], unfollowed := true, recurses := true, named := ["errors.errorType"], apart := false, laid := [("errors.errorType", laid_errors_errorType)] }
def FnExactExprOkSaid : Prop := fnExactExprOkRow.holds Tryd.pinned (OpenSpec.ofChange fnExactExprOkSpec)

/-- ITS FALSE NEIGHBOUR: 'it returns false'. Refute it at one input. -/
def fnExactExprOkWrong : ChangeSpec := { name := "fnExactExprOk", fn := fun _ => fun
  | [d] => { results := [.lit (.bool false)], args := [d] }
  | _ => none }
def FnExactExprOkWrongFalsely : Prop := fnExactExprOkRow.holds Tryd.pinned (OpenSpec.ofChange fnExactExprOkWrong)

/-- 'laws.FnExactEvalExpr': WHATEVER THE INPUT: true; the input reads as it did. -/
def fnExactEvalExprSpec : ChangeSpec := { name := "fnExactEvalExpr", fn := fun _ => fun
  | [d1, d2, d3] => { results := [.lit (.bool true)], args := [d1, d2, d3] }
  | _ => none }
def fnExactEvalExprRow : OpenClaim := { program := "ytanmhbopalchoaadoor", sum := "04917dab4ba8f9d9ae5fcf1152e1e3e5b0ae1fa7fa6f26b040bd8f17e1e2a4a4", func := "loop.example/g00243/laws.FnExactEvalExpr", spec := "fnExactEvalExpr", inPlace := ["internal/reflectlite.ValueOf", "(internal/reflectlite.Value).Type", "(internal/reflectlite.Value).IsNil", "internal/reflectlite.TypeOf", "(internal/reflectlite.Value).Elem", "(internal/reflectlite.Value).Set"], unfollowed := true, recurses := true, named := ["errors.errorType"], apart := false, laid := [("errors.errorType", laid_errors_errorType)] }
def FnExactEvalExprSaid : Prop := fnExactEvalExprRow.holds Tryd.pinned (OpenSpec.ofChange fnExactEvalExprSpec)

/-- ITS FALSE NEIGHBOUR: 'it returns false'. Refute it at one input. -/
def fnExactEvalExprWrong : ChangeSpec := { name := "fnExactEvalExpr", fn := fun _ => fun
  | [d1, d2, d3] => { results := [.lit (.bool false)], args := [d1, d2, d3] }
  | _ => none }
def FnExactEvalExprWrongFalsely : Prop := fnExactEvalExprRow.holds Tryd.pinned (OpenSpec.ofChange fnExactEvalExprWrong)

/- THE SECOND FORM. 'bulk': how many values and letters a reading holds, each counted each time it is reached (what is shared counts as often as it is met; a slice's spare places count too). A statement '..UptoSaid' is the law's where the arguments, and the package variables that the reading takes, are together of bulk at most 1048576: NARROWER than '..Said'. Prove '..Said' where nothing that the law and all that it calls make is longer than what came in: it says more and counts as full. Else prove '..UptoSaid'. A law counts once. -/
mutual
def uptoBulk {H : Type} : DataW H → Nat
  | .lit (.string bytes) => bytes.length + 1
  | .lit _ => 1
  | .nil => 1
  | .ptr d => uptoBulk d + 1
  | .slice elems spare => uptoBulkAll elems + uptoBulkAll spare + 1
  | .agg parts => uptoBulkAll parts + 1
  | .iface _ d => uptoBulk d + 1
  | .map entries => uptoBulkEntries entries + 1
  | .held _ => 1
def uptoBulkAll {H : Type} : List (DataW H) → Nat
  | [] => 0
  | d :: r => uptoBulk d + uptoBulkAll r
def uptoBulkEntries {H : Type} : List (Lit × DataW H) → Nat
  | [] => 0
  | x :: r => uptoBulkEntry x + uptoBulkEntries r
def uptoBulkEntry {H : Type} : Lit × DataW H → Nat
  | (.string bytes, d) => bytes.length + uptoBulk d + 1
  | (_, d) => uptoBulk d + 1
 end
def uptoSmall : (H : Type) → List (DataW H) → Bool := fun _ ds => decide (uptoBulkAll ds ≤ 1048576)
def OpenSpec.upto (s : _root_.Go.ChangeSpec) : _root_.Go.OpenSpec := { _root_.Go.OpenSpec.ofChange s with cond := some uptoSmall }

/-- 'laws.FnExprs', WHERE WHAT IT READS IS OF BULK AT MOST 1048576: true; the input reads as it did. -/
def fnExprsUptoRow : OpenClaim := { program := "ytanmhbopalchoaadoor", sum := "04917dab4ba8f9d9ae5fcf1152e1e3e5b0ae1fa7fa6f26b040bd8f17e1e2a4a4", func := "loop.example/g00243/laws.FnExprs", spec := "fnExprs", inPlace := ["internal/reflectlite.ValueOf", "(internal/reflectlite.Value).Type", "(internal/reflectlite.Value).IsNil", "internal/reflectlite.TypeOf", "(internal/reflectlite.Value).Elem", "(internal/reflectlite.Value).Set"], unfollowed := true, recurses := true, named := ["errors.errorType"], apart := false, laid := [("errors.errorType", laid_errors_errorType)], narrowed := true }
def FnExprsUptoSaid : Prop := fnExprsUptoRow.holds Tryd.pinned (OpenSpec.upto fnExprsSpec)

/-- 'laws.FnExprFree', WHERE WHAT IT READS IS OF BULK AT MOST 1048576: true; the input reads as it did. -/
def fnExprFreeUptoRow : OpenClaim := { program := "ytanmhbopalchoaadoor", sum := "04917dab4ba8f9d9ae5fcf1152e1e3e5b0ae1fa7fa6f26b040bd8f17e1e2a4a4", func := "loop.example/g00243/laws.FnExprFree", spec := "fnExprFree", inPlace := ["internal/reflectlite.ValueOf", "(internal/reflectlite.Value).Type", "(internal/reflectlite.Value).IsNil", "internal/reflectlite.TypeOf", "(internal/reflectlite.Value).Elem", "(internal/reflectlite.Value).Set"], unfollowed := true, recurses := true, named := ["errors.errorType"], apart := false, laid := [("errors.errorType", laid_errors_errorType)], narrowed := true }
def FnExprFreeUptoSaid : Prop := fnExprFreeUptoRow.holds Tryd.pinned (OpenSpec.upto fnExprFreeSpec)

/-- 'laws.FnExprWrong', WHERE WHAT IT READS IS OF BULK AT MOST 1048576: true; the input reads as it did. -/
def fnExprWrongUptoRow : OpenClaim := { program := "ytanmhbopalchoaadoor", sum := "04917dab4ba8f9d9ae5fcf1152e1e3e5b0ae1fa7fa6f26b040bd8f17e1e2a4a4", func := "loop.example/g00243/laws.FnExprWrong", spec := "fnExprWrong", inPlace := ["internal/reflectlite.ValueOf", "(internal/reflectlite.Value).Type", "(internal/reflectlite.Value).IsNil", "internal/reflectlite.TypeOf", "(internal/reflectlite.Value).Elem", "(internal/reflectlite.Value).Set"], unfollowed := true, recurses := true, named := ["errors.errorType"], apart := false, laid := [("errors.errorType", laid_errors_errorType)], narrowed := true }
def FnExprWrongUptoSaid : Prop := fnExprWrongUptoRow.holds Tryd.pinned (OpenSpec.upto fnExprWrongSpec)

/-- 'laws.FnExactExprOk', WHERE WHAT IT READS IS OF BULK AT MOST 1048576: true; the input reads as it did. -/
def fnExactExprOkUptoRow : OpenClaim := { program := "ytanmhbopalchoaadoor", sum := "04917dab4ba8f9d9ae5fcf1152e1e3e5b0ae1fa7fa6f26b040bd8f17e1e2a4a4", func := "loop.example/g00243/laws.FnExactExprOk", spec := "fnExactExprOk", inPlace := ["internal/reflectlite.ValueOf", "(internal/reflectlite.Value).Type", "(internal/reflectlite.Value).IsNil", "internal/reflectlite.TypeOf", "(internal/reflectlite.Value).Elem", "(internal/reflectlite.Value).Set"], unfollowed := true, recurses := true, named := ["errors.errorType"], apart := false, laid := [("errors.errorType", laid_errors_errorType)], narrowed := true }
def FnExactExprOkUptoSaid : Prop := fnExactExprOkUptoRow.holds Tryd.pinned (OpenSpec.upto fnExactExprOkSpec)

/-- 'laws.FnExactEvalExpr', WHERE WHAT IT READS IS OF BULK AT MOST 1048576: true; the input reads as it did. -/
def fnExactEvalExprUptoRow : OpenClaim := { program := "ytanmhbopalchoaadoor", sum := "04917dab4ba8f9d9ae5fcf1152e1e3e5b0ae1fa7fa6f26b040bd8f17e1e2a4a4", func := "loop.example/g00243/laws.FnExactEvalExpr", spec := "fnExactEvalExpr", inPlace := ["internal/reflectlite.ValueOf", "(internal/reflectlite.Value).Type", "(internal/reflectlite.Value).IsNil", "internal/reflectlite.TypeOf", "(internal/reflectlite.Value).Elem", "(internal/reflectlite.Value).Set"], unfollowed := true, recurses := true, named := ["errors.errorType"], apart := false, laid := [("errors.errorType", laid_errors_errorType)], narrowed := true }
def FnExactEvalExprUptoSaid : Prop := fnExactEvalExprUptoRow.holds Tryd.pinned (OpenSpec.upto fnExactEvalExprSpec)

end Rows
end Go.Proofs.YtanmhbopalchoaaDoor
