/-
  DERIVED. GIVEN WITH THE SEED: THE CARDS: each row of YtneobgikailhjabDoorRows.lean that lists a variable, with what it lists TIED to the program's text (the seventh form; the later family's looks); each row that meets fmt, with fmt's text TOLD by the authors' own Lean function (tested against real Go, not proved from fmt's source: count such statements apart). THE CARD IS WHAT COUNTS. Prove the row's statement (the work); the ties are given (YtneobgikailhjabDoorTie.lean); close each card by the builder's one call (the guide's Derived/Test/ToyasCard.lean, 'card_holds'). Laid BY PROGRAM, IN A SANDBOX (cutbox-door.mjs). By AI agents, Wed Nov 11 2026. No macro, syntax, notation, axiom, sorry.
-/
import Derived.Test.YtneobgikailhjabDoorRows
import GoSem.ClaimSeven
namespace Go.Proofs.YtneobgikailhjabDoor
namespace Rows

/-- THE TIED CARD OF 'laws.FnExactEnvText'. -/
def fnExactEnvTextCard : Claim7 := { stood := { row := fnExactEnvTextRow, standIns := [], harness := (true, "c8ea45868b9ede34ba49f7aab82171cfd5d19f3529f8d46b527a9bc0b6d2713a"), looks := false }, kinds := [], alts := [], laidByText := true, laidKinds := [.data, .data, .data], laidTests := true, laidLooks := .later }
def FnExactEnvTextCardSaid : Prop := Claim7.holds Tryd.pinned (.plain (OpenSpec.ofChange fnExactEnvTextSpec)) fnExactEnvTextCard

/-- THE SECOND FORM's CARD OF 'laws.FnExactEnvText'. -/
def fnExactEnvTextUptoCard : Claim7 := { stood := { row := fnExactEnvTextUptoRow, standIns := [], harness := (true, "c8ea45868b9ede34ba49f7aab82171cfd5d19f3529f8d46b527a9bc0b6d2713a"), looks := false }, kinds := [], alts := [], laidByText := true, laidKinds := [.data, .data, .data], laidTests := true, laidLooks := .later }
def FnExactEnvTextUptoCardSaid : Prop := Claim7.holds Tryd.pinned (.plain (OpenSpec.upto fnExactEnvTextSpec)) fnExactEnvTextUptoCard
end Rows
end Go.Proofs.YtneobgikailhjabDoor
