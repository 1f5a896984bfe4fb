/-
  No cell of these rows narrows 'for every input' (looked for: loops, veiled, ifaces, maps, wideKeys, modest, calm, conditions, laid).
  DERIVED. THE GIVEN ROWS OF THIS SEAT. 3 by the template 'for every input the law returns true; each argument reads behind the call as it read before'; 0 by the template 'total and deterministic' (their statements: YtpcfcheicdnogaaTotals.lean).
  GIVEN WITH THE SEED: the statements are not yours to turn. If you find one false, say at which input.
  Laid BY PROGRAM, IN A SANDBOX (cutbox-rows.mjs): the forced cells as the released guide's own fill.sh prints them over the translation 4fc897bb4b718355… (all of the seat's roots in one cut). By AI agents, Wed Nov 11 2026. No macro, syntax, notation, axiom, sorry.
-/
import Derived.Test.YtpcfcheicdnogaaChecked
import GoSem.Claim
import GoSem.ClaimJoined
import GoSem.ClaimMapViews
import Derived.JoinedTies
import Derived.KernelRfl
namespace Go.Proofs.Ytpcfcheicdnogaa
/- THE CELL 'sum', in the pinned program and in every row, IS THE sha256 OF THE DUMP (.gsa) THAT YtpcfcheicdnogaaProg.lean LOADS. Nothing in Lean hashes anything: it is a label: what it is worth is what the hold of that sum in a sandbox is worth. -/
noncomputable def Try.pinned : Pinned := { name := "ytpcfcheicdnogaa", sum := "4fc897bb4b718355fabbd0fe4a55998f9ad501e433786709fe94349a978b92bb", checked := Try.checked }
namespace Rows
def none {H : Type} : Left H := { results := [], args := [] }

/-- 'laws.FnExactCountForest': WHATEVER THE INPUT: true; the input reads as it did. -/
def fnExactCountForestSpec : ChangeSpec := { name := "fnExactCountForest", fn := fun _ => fun
  | [d1, d2] => { results := [.lit (.bool true)], args := [d1, d2] }
  | _ => none }
def fnExactCountForestRow : OpenClaim := { program := "ytpcfcheicdnogaa", sum := "4fc897bb4b718355fabbd0fe4a55998f9ad501e433786709fe94349a978b92bb", func := "loop.example/g00243/laws.FnExactCountForest", spec := "fnExactCountForest", apart := false }
def FnExactCountForestSaid : Prop := fnExactCountForestRow.holds Try.pinned (OpenSpec.ofChange fnExactCountForestSpec)

/-- ITS FALSE NEIGHBOUR: 'it returns false'. Refute it at one input. -/
def fnExactCountForestWrong : ChangeSpec := { name := "fnExactCountForest", fn := fun _ => fun
  | [d1, d2] => { results := [.lit (.bool false)], args := [d1, d2] }
  | _ => none }
def FnExactCountForestWrongFalsely : Prop := fnExactCountForestRow.holds Try.pinned (OpenSpec.ofChange fnExactCountForestWrong)

/-- 'laws.FnExactCircles': WHATEVER THE INPUT: true; the input reads as it did. -/
def fnExactCirclesSpec : ChangeSpec := { name := "fnExactCircles", fn := fun _ => fun
  | [d] => { results := [.lit (.bool true)], args := [d] }
  | _ => none }
def fnExactCirclesRow : OpenClaim := { program := "ytpcfcheicdnogaa", sum := "4fc897bb4b718355fabbd0fe4a55998f9ad501e433786709fe94349a978b92bb", func := "loop.example/g00243/laws.FnExactCircles", spec := "fnExactCircles", apart := false }
def FnExactCirclesSaid : Prop := fnExactCirclesRow.holds Try.pinned (OpenSpec.ofChange fnExactCirclesSpec)

/-- ITS FALSE NEIGHBOUR: 'it returns false'. Refute it at one input. -/
def fnExactCirclesWrong : ChangeSpec := { name := "fnExactCircles", fn := fun _ => fun
  | [d] => { results := [.lit (.bool false)], args := [d] }
  | _ => none }
def FnExactCirclesWrongFalsely : Prop := fnExactCirclesRow.holds Try.pinned (OpenSpec.ofChange fnExactCirclesWrong)

/-- 'laws.FnExactAmbiguous': WHATEVER THE INPUT: true; the input reads as it did. -/
def fnExactAmbiguousSpec : ChangeSpec := { name := "fnExactAmbiguous", fn := fun _ => fun
  | [d] => { results := [.lit (.bool true)], args := [d] }
  | _ => none }
def fnExactAmbiguousRow : OpenClaim := { program := "ytpcfcheicdnogaa", sum := "4fc897bb4b718355fabbd0fe4a55998f9ad501e433786709fe94349a978b92bb", func := "loop.example/g00243/laws.FnExactAmbiguous", spec := "fnExactAmbiguous", unfollowed := true, recurses := true, apart := false }
def FnExactAmbiguousSaid : Prop := fnExactAmbiguousRow.holds Try.pinned (OpenSpec.ofChange fnExactAmbiguousSpec)

/-- ITS FALSE NEIGHBOUR: 'it returns false'. Refute it at one input. -/
def fnExactAmbiguousWrong : ChangeSpec := { name := "fnExactAmbiguous", fn := fun _ => fun
  | [d] => { results := [.lit (.bool false)], args := [d] }
  | _ => none }
def FnExactAmbiguousWrongFalsely : Prop := fnExactAmbiguousRow.holds Try.pinned (OpenSpec.ofChange fnExactAmbiguousWrong)

/- THE SECOND FORM. 'bulk': how many values and letters a reading holds, each counted each time it is reached (what is shared counts as often as it is met; a slice's spare places count too). A statement '..UptoSaid' is the law's where the arguments, and the package variables that the reading takes, are together of bulk at most 1048576: NARROWER than '..Said'. Prove '..Said' where nothing that the law and all that it calls make is longer than what came in: it says more and counts as full. Else prove '..UptoSaid'. A law counts once. -/
mutual
def uptoBulk {H : Type} : DataW H → Nat
  | .lit (.string bytes) => bytes.length + 1
  | .lit _ => 1
  | .nil => 1
  | .ptr d => uptoBulk d + 1
  | .slice elems spare => uptoBulkAll elems + uptoBulkAll spare + 1
  | .agg parts => uptoBulkAll parts + 1
  | .iface _ d => uptoBulk d + 1
  | .map entries => uptoBulkEntries entries + 1
  | .held _ => 1
def uptoBulkAll {H : Type} : List (DataW H) → Nat
  | [] => 0
  | d :: r => uptoBulk d + uptoBulkAll r
def uptoBulkEntries {H : Type} : List (Lit × DataW H) → Nat
  | [] => 0
  | x :: r => uptoBulkEntry x + uptoBulkEntries r
def uptoBulkEntry {H : Type} : Lit × DataW H → Nat
  | (.string bytes, d) => bytes.length + uptoBulk d + 1
  | (_, d) => uptoBulk d + 1
 end
def uptoSmall : (H : Type) → List (DataW H) → Bool := fun _ ds => decide (uptoBulkAll ds ≤ 1048576)
def OpenSpec.upto (s : _root_.Go.ChangeSpec) : _root_.Go.OpenSpec := { _root_.Go.OpenSpec.ofChange s with cond := some uptoSmall }

/-- 'laws.FnExactCountForest', WHERE WHAT IT READS IS OF BULK AT MOST 1048576: true; the input reads as it did. -/
def fnExactCountForestUptoRow : OpenClaim := { program := "ytpcfcheicdnogaa", sum := "4fc897bb4b718355fabbd0fe4a55998f9ad501e433786709fe94349a978b92bb", func := "loop.example/g00243/laws.FnExactCountForest", spec := "fnExactCountForest", apart := false, narrowed := true }
def FnExactCountForestUptoSaid : Prop := fnExactCountForestUptoRow.holds Try.pinned (OpenSpec.upto fnExactCountForestSpec)

/-- 'laws.FnExactCircles', WHERE WHAT IT READS IS OF BULK AT MOST 1048576: true; the input reads as it did. -/
def fnExactCirclesUptoRow : OpenClaim := { program := "ytpcfcheicdnogaa", sum := "4fc897bb4b718355fabbd0fe4a55998f9ad501e433786709fe94349a978b92bb", func := "loop.example/g00243/laws.FnExactCircles", spec := "fnExactCircles", apart := false, narrowed := true }
def FnExactCirclesUptoSaid : Prop := fnExactCirclesUptoRow.holds Try.pinned (OpenSpec.upto fnExactCirclesSpec)

/-- 'laws.FnExactAmbiguous', WHERE WHAT IT READS IS OF BULK AT MOST 1048576: true; the input reads as it did. -/
def fnExactAmbiguousUptoRow : OpenClaim := { program := "ytpcfcheicdnogaa", sum := "4fc897bb4b718355fabbd0fe4a55998f9ad501e433786709fe94349a978b92bb", func := "loop.example/g00243/laws.FnExactAmbiguous", spec := "fnExactAmbiguous", unfollowed := true, recurses := true, apart := false, narrowed := true }
def FnExactAmbiguousUptoSaid : Prop := fnExactAmbiguousUptoRow.holds Try.pinned (OpenSpec.upto fnExactAmbiguousSpec)

end Rows
end Go.Proofs.Ytpcfcheicdnogaa
