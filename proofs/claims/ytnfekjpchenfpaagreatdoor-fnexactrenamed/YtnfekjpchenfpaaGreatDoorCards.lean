/-
  DERIVED. GIVEN WITH THE SEED: THE CARDS: each row of YtnfekjpchenfpaaGreatDoorRows.lean that lists a variable, with what it lists TIED to the program's text (the seventh form; the later family's looks); each row that meets fmt, with fmt's text TOLD by the authors' own Lean function (tested against real Go, not proved from fmt's source: count such statements apart). THE CARD IS WHAT COUNTS. Prove the row's statement (the work); the ties are given (YtnfekjpchenfpaaGreatDoorTie.lean); close each card by the builder's one call (the guide's Derived/Test/ToyasCard.lean, 'card_holds'). Laid BY PROGRAM, IN A SANDBOX (cutbox-door.mjs). By AI agents, Wed Nov 11 2026. No macro, syntax, notation, axiom, sorry.
-/
import Derived.Test.YtnfekjpchenfpaaGreatDoorRows
import GoSem.ClaimSeven
namespace Go.Proofs.YtnfekjpchenfpaaGreatDoor
namespace Rows

/-- THE TIED CARD OF 'laws.FnExactTrimmed'. -/
def fnExactTrimmedCard : Claim7 := { stood := { row := fnExactTrimmedRow, standIns := [], harness := (true, "e8a7aa023ca7f4f85d0dfe10143da286351cd4eb5863b08f7fe7bab48d49474f"), looks := true }, kinds := [], alts := [], laidByText := true, laidKinds := [.handle], laidTests := true, laidLooks := .later }
def FnExactTrimmedCardSaid : Prop := Claim7.holds Tryz.pinned (.plain (OpenSpec.ofChange fnExactTrimmedSpec)) fnExactTrimmedCard

/-- THE TIED CARD OF 'laws.FnExactRenamed'. -/
def fnExactRenamedCard : Claim7 := { stood := { row := fnExactRenamedRow, standIns := [], harness := (true, "e8a7aa023ca7f4f85d0dfe10143da286351cd4eb5863b08f7fe7bab48d49474f"), looks := true }, kinds := [], alts := [], laidByText := true, laidKinds := [.handle], laidTests := true, laidLooks := .later }
def FnExactRenamedCardSaid : Prop := Claim7.holds Tryz.pinned (.plain (OpenSpec.ofChange fnExactRenamedSpec)) fnExactRenamedCard

/-- THE SECOND FORM's CARD OF 'laws.FnExactTrimmed'. -/
def fnExactTrimmedUptoCard : Claim7 := { stood := { row := fnExactTrimmedUptoRow, standIns := [], harness := (true, "e8a7aa023ca7f4f85d0dfe10143da286351cd4eb5863b08f7fe7bab48d49474f"), looks := true }, kinds := [], alts := [], laidByText := true, laidKinds := [.handle], laidTests := true, laidLooks := .later }
def FnExactTrimmedUptoCardSaid : Prop := Claim7.holds Tryz.pinned (.plain (OpenSpec.upto fnExactTrimmedSpec)) fnExactTrimmedUptoCard

/-- THE SECOND FORM's CARD OF 'laws.FnExactRenamed'. -/
def fnExactRenamedUptoCard : Claim7 := { stood := { row := fnExactRenamedUptoRow, standIns := [], harness := (true, "e8a7aa023ca7f4f85d0dfe10143da286351cd4eb5863b08f7fe7bab48d49474f"), looks := true }, kinds := [], alts := [], laidByText := true, laidKinds := [.handle], laidTests := true, laidLooks := .later }
def FnExactRenamedUptoCardSaid : Prop := Claim7.holds Tryz.pinned (.plain (OpenSpec.upto fnExactRenamedSpec)) fnExactRenamedUptoCard
end Rows
end Go.Proofs.YtnfekjpchenfpaaGreatDoor
