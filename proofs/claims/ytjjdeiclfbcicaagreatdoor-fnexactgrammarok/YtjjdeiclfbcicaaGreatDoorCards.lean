/-
  DERIVED. GIVEN WITH THE SEED: THE CARDS: each row of YtjjdeiclfbcicaaGreatDoorRows.lean that lists a variable, with what it lists TIED to the program's text (the seventh form; the later family's looks); each row that meets fmt, with fmt's text TOLD by the authors' own Lean function (tested against real Go, not proved from fmt's source: count such statements apart). THE CARD IS WHAT COUNTS. Prove the row's statement (the work); the ties are given (YtjjdeiclfbcicaaGreatDoorTie.lean); close each card by the builder's one call (the guide's Derived/Test/ToyasCard.lean, 'card_holds'). Laid BY PROGRAM, IN A SANDBOX (cutbox-door.mjs). By AI agents, Wed Nov 11 2026. No macro, syntax, notation, axiom, sorry.
-/
import Derived.Test.YtjjdeiclfbcicaaGreatDoorRows
import GoSem.ClaimSeven
namespace Go.Proofs.YtjjdeiclfbcicaaGreatDoor
namespace Rows

/-- THE TIED CARD OF 'laws.FnExactGrammarOk'. -/
def fnExactGrammarOkCard : Claim7 := { stood := { row := fnExactGrammarOkRow, standIns := [], harness := (true, "eecb9d9f0aa6ba656be75a32e33073b319f76bddbf523d9d150389af530229b8"), looks := true }, kinds := [], alts := [], laidByText := true, laidKinds := [.handle], laidTests := true, laidLooks := .later }
def FnExactGrammarOkCardSaid : Prop := Claim7.holds Tryz.pinned (.plain (OpenSpec.ofChange fnExactGrammarOkSpec)) fnExactGrammarOkCard

/-- THE SECOND FORM's CARD OF 'laws.FnExactGrammarOk'. -/
def fnExactGrammarOkUptoCard : Claim7 := { stood := { row := fnExactGrammarOkUptoRow, standIns := [], harness := (true, "eecb9d9f0aa6ba656be75a32e33073b319f76bddbf523d9d150389af530229b8"), looks := true }, kinds := [], alts := [], laidByText := true, laidKinds := [.handle], laidTests := true, laidLooks := .later }
def FnExactGrammarOkUptoCardSaid : Prop := Claim7.holds Tryz.pinned (.plain (OpenSpec.upto fnExactGrammarOkSpec)) fnExactGrammarOkUptoCard
end Rows
end Go.Proofs.YtjjdeiclfbcicaaGreatDoor
