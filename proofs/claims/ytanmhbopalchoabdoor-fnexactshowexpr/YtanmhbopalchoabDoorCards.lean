/-
  DERIVED. GIVEN WITH THE SEED: THE CARDS: each row of YtanmhbopalchoabDoorRows.lean that lists a variable, with what it lists TIED to the program's text (the seventh form; the later family's looks); each row that meets fmt, with fmt's text TOLD by the authors' own Lean function (tested against real Go, not proved from fmt's source: count such statements apart). THE CARD IS WHAT COUNTS. Prove the row's statement (the work); the ties are given (YtanmhbopalchoabDoorTie.lean); close each card by the builder's one call (the guide's Derived/Test/ToyasCard.lean, 'card_holds'). Laid BY PROGRAM, IN A SANDBOX (cutbox-door.mjs). By AI agents, Wed Nov 11 2026. No macro, syntax, notation, axiom, sorry.
-/
import Derived.Test.YtanmhbopalchoabDoorRows
import GoSem.ClaimSeven
namespace Go.Proofs.YtanmhbopalchoabDoor
namespace Rows

/-- THE TIED CARD OF 'laws.FnExactFreeOf'. -/
def fnExactFreeOfCard : Claim7 := { stood := { row := fnExactFreeOfRow, standIns := [], harness := (true, "cd81656c720e26109e22df4945617d2daadd347edfd5aa6b2be5c54fe11f9fb3"), looks := true }, kinds := [], alts := [], laidByText := true, laidKinds := [.handle], laidTests := true, laidLooks := .later }
def FnExactFreeOfCardSaid : Prop := Claim7.holds Tryd.pinned (.plain (OpenSpec.ofChange fnExactFreeOfSpec)) fnExactFreeOfCard

/-- THE TIED CARD OF 'laws.FnExactShowExpr'. -/
def fnExactShowExprCard : Claim7 := { stood := { row := fnExactShowExprRow, standIns := [], harness := (true, "cd81656c720e26109e22df4945617d2daadd347edfd5aa6b2be5c54fe11f9fb3"), looks := true }, kinds := [], alts := [], laidByText := true, laidKinds := [.data, .data, .data, .handle], laidTests := true, laidLooks := .later }
def FnExactShowExprCardSaid : Prop := Claim7.holds Tryd.pinned (.plain (OpenSpec.ofChange fnExactShowExprSpec)) fnExactShowExprCard

/-- THE SECOND FORM's CARD OF 'laws.FnExactFreeOf'. -/
def fnExactFreeOfUptoCard : Claim7 := { stood := { row := fnExactFreeOfUptoRow, standIns := [], harness := (true, "cd81656c720e26109e22df4945617d2daadd347edfd5aa6b2be5c54fe11f9fb3"), looks := true }, kinds := [], alts := [], laidByText := true, laidKinds := [.handle], laidTests := true, laidLooks := .later }
def FnExactFreeOfUptoCardSaid : Prop := Claim7.holds Tryd.pinned (.plain (OpenSpec.upto fnExactFreeOfSpec)) fnExactFreeOfUptoCard

/-- THE SECOND FORM's CARD OF 'laws.FnExactShowExpr'. -/
def fnExactShowExprUptoCard : Claim7 := { stood := { row := fnExactShowExprUptoRow, standIns := [], harness := (true, "cd81656c720e26109e22df4945617d2daadd347edfd5aa6b2be5c54fe11f9fb3"), looks := true }, kinds := [], alts := [], laidByText := true, laidKinds := [.data, .data, .data, .handle], laidTests := true, laidLooks := .later }
def FnExactShowExprUptoCardSaid : Prop := Claim7.holds Tryd.pinned (.plain (OpenSpec.upto fnExactShowExprSpec)) fnExactShowExprUptoCard
end Rows
end Go.Proofs.YtanmhbopalchoabDoor
