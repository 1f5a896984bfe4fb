/-
  DERIVED. GIVEN WITH THE SEED: THE CARDS: each row of YtbpfapjchmignaaDoorRows.lean that lists a variable, with what it lists TIED to the program's text (the seventh form; the later family's looks); each row that meets fmt, with fmt's text TOLD by the authors' own Lean function (tested against real Go, not proved from fmt's source: count such statements apart). THE CARD IS WHAT COUNTS. Prove the row's statement (the work); the ties are given (YtbpfapjchmignaaDoorTie.lean); close each card by the builder's one call (the guide's Derived/Test/ToyasCard.lean, 'card_holds'). Laid BY PROGRAM, IN A SANDBOX (cutbox-door.mjs). By AI agents, Wed Nov 11 2026. No macro, syntax, notation, axiom, sorry.
-/
import Derived.Test.YtbpfapjchmignaaDoorRows
import GoSem.ClaimSeven
namespace Go.Proofs.YtbpfapjchmignaaDoor
namespace Rows

/-- THE TIED CARD OF 'laws.FnExprTexts'. -/
def fnExprTextsCard : Claim7 := { stood := { row := fnExprTextsRow, standIns := [], harness := (true, "24cfe0ecd431ab2c0247b407c942d64e5e90884fc349574d21c3c88fc426a120"), looks := true }, kinds := [], alts := [], laidByText := true, laidKinds := [.handle], laidTests := true, laidLooks := .later }
def FnExprTextsCardSaid : Prop := Claim7.holds Tryd.pinned (.plain (OpenSpec.ofChange fnExprTextsSpec)) fnExprTextsCard

/-- THE SECOND FORM's CARD OF 'laws.FnExprTexts'. -/
def fnExprTextsUptoCard : Claim7 := { stood := { row := fnExprTextsUptoRow, standIns := [], harness := (true, "24cfe0ecd431ab2c0247b407c942d64e5e90884fc349574d21c3c88fc426a120"), looks := true }, kinds := [], alts := [], laidByText := true, laidKinds := [.handle], laidTests := true, laidLooks := .later }
def FnExprTextsUptoCardSaid : Prop := Claim7.holds Tryd.pinned (.plain (OpenSpec.upto fnExprTextsSpec)) fnExprTextsUptoCard
end Rows
end Go.Proofs.YtbpfapjchmignaaDoor
