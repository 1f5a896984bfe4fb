/-
  DERIVED. GIVEN WITH THE SEED: THE CARDS: each row of YtofpoiccghpliaaGreatDoorRows.lean that lists a variable, with what it lists TIED to the program's text (the seventh form; the later family's looks); each row that meets fmt, with fmt's text TOLD by the authors' own Lean function (tested against real Go, not proved from fmt's source: count such statements apart). THE CARD IS WHAT COUNTS. Prove the row's statement (the work); the ties are given (YtofpoiccghpliaaGreatDoorTie.lean); close each card by the builder's one call (the guide's Derived/Test/ToyasCard.lean, 'card_holds'). Laid BY PROGRAM, IN A SANDBOX (cutbox-door.mjs). By AI agents, Wed Nov 11 2026. No macro, syntax, notation, axiom, sorry.
-/
import Derived.Test.YtofpoiccghpliaaGreatDoorRows
import GoSem.ClaimSeven
namespace Go.Proofs.YtofpoiccghpliaaGreatDoor
namespace Rows

/-- THE TIED CARD OF 'laws.FnExactNullable'. -/
def fnExactNullableCard : Claim7 := { stood := { row := fnExactNullableRow, standIns := [], harness := (true, "3ab8d3c58daaa524e0da52f195de16b0c4f7674b6ef03f4410a3823bb1263881"), looks := true }, kinds := [], alts := [], laidByText := true, laidKinds := [.data, .handle], laidTests := true, laidLooks := .later }
def FnExactNullableCardSaid : Prop := Claim7.holds Tryz.pinned (.plain (OpenSpec.ofChange fnExactNullableSpec)) fnExactNullableCard

/-- THE SECOND FORM's CARD OF 'laws.FnExactNullable'. -/
def fnExactNullableUptoCard : Claim7 := { stood := { row := fnExactNullableUptoRow, standIns := [], harness := (true, "3ab8d3c58daaa524e0da52f195de16b0c4f7674b6ef03f4410a3823bb1263881"), looks := true }, kinds := [], alts := [], laidByText := true, laidKinds := [.data, .handle], laidTests := true, laidLooks := .later }
def FnExactNullableUptoCardSaid : Prop := Claim7.holds Tryz.pinned (.plain (OpenSpec.upto fnExactNullableSpec)) fnExactNullableUptoCard
end Rows
end Go.Proofs.YtofpoiccghpliaaGreatDoor
