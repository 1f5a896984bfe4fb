/-
  DERIVED. GIVEN WITH THE SEED: THE CARDS: each row of YtneobgikailhjaaDoorRows.lean that lists a variable, with what it lists TIED to the program's text (the seventh form; the later family's looks); each row that meets fmt, with fmt's text TOLD by the authors' own Lean function (tested against real Go, not proved from fmt's source: count such statements apart). THE CARD IS WHAT COUNTS. Prove the row's statement (the work); the ties are given (YtneobgikailhjaaDoorTie.lean); close each card by the builder's one call (the guide's Derived/Test/ToyasCard.lean, 'card_holds'). Laid BY PROGRAM, IN A SANDBOX (cutbox-door.mjs). By AI agents, Wed Nov 11 2026. No macro, syntax, notation, axiom, sorry.
-/
import Derived.Test.YtneobgikailhjaaDoorRows
import GoSem.ClaimSeven
namespace Go.Proofs.YtneobgikailhjaaDoor
namespace Rows

/-- THE TIED CARD OF 'laws.FnEnvTexts'. -/
def fnEnvTextsCard : Claim7 := { stood := { row := fnEnvTextsRow, standIns := [], harness := (true, "56378157699d402a4da67ba92f670c8997bf37bb2afccef15777ccd44cf16565"), looks := false }, kinds := [], alts := [], laidByText := true, laidKinds := [.data, .data, .data], laidTests := true, laidLooks := .later }
def FnEnvTextsCardSaid : Prop := Claim7.holds Tryd.pinned (.plain (OpenSpec.ofChange fnEnvTextsSpec)) fnEnvTextsCard

/-- THE SECOND FORM's CARD OF 'laws.FnEnvTexts'. -/
def fnEnvTextsUptoCard : Claim7 := { stood := { row := fnEnvTextsUptoRow, standIns := [], harness := (true, "56378157699d402a4da67ba92f670c8997bf37bb2afccef15777ccd44cf16565"), looks := false }, kinds := [], alts := [], laidByText := true, laidKinds := [.data, .data, .data], laidTests := true, laidLooks := .later }
def FnEnvTextsUptoCardSaid : Prop := Claim7.holds Tryd.pinned (.plain (OpenSpec.upto fnEnvTextsSpec)) fnEnvTextsUptoCard
end Rows
end Go.Proofs.YtneobgikailhjaaDoor
