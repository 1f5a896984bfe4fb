/-
  DERIVED. GIVEN WITH THE SEED: THE CARDS: each row of YtpbicppcehhphaaGreatDoorRows.lean that lists a variable, with what it lists TIED to the program's text (the seventh form; the later family's looks); each row that meets fmt, with fmt's text TOLD by the authors' own Lean function (tested against real Go, not proved from fmt's source: count such statements apart). THE CARD IS WHAT COUNTS. Prove the row's statement (the work); the ties are given (YtpbicppcehhphaaGreatDoorTie.lean); close each card by the builder's one call (the guide's Derived/Test/ToyasCard.lean, 'card_holds'). Laid BY PROGRAM, IN A SANDBOX (cutbox-door.mjs). By AI agents, Wed Nov 11 2026. No macro, syntax, notation, axiom, sorry.
-/
import Derived.Test.YtpbicppcehhphaaGreatDoorRows
import GoSem.ClaimSeven
namespace Go.Proofs.YtpbicppcehhphaaGreatDoor
namespace Rows

/-- THE TIED CARD OF 'laws.FnGrammars'. -/
def fnGrammarsCard : Claim7 := { stood := { row := fnGrammarsRow, standIns := [], harness := (true, "413eb01e2d6188178f7e66ae8336fd44e66f6f95f2a5685915a053caa5ff35f4"), looks := true }, kinds := [], alts := [], laidByText := true, laidKinds := [.handle], laidTests := true, laidLooks := .later }
def FnGrammarsCardSaid : Prop := Claim7.holds Tryz.pinned (.plain (OpenSpec.ofChange fnGrammarsSpec)) fnGrammarsCard

/-- THE SECOND FORM's CARD OF 'laws.FnGrammars'. -/
def fnGrammarsUptoCard : Claim7 := { stood := { row := fnGrammarsUptoRow, standIns := [], harness := (true, "413eb01e2d6188178f7e66ae8336fd44e66f6f95f2a5685915a053caa5ff35f4"), looks := true }, kinds := [], alts := [], laidByText := true, laidKinds := [.handle], laidTests := true, laidLooks := .later }
def FnGrammarsUptoCardSaid : Prop := Claim7.holds Tryz.pinned (.plain (OpenSpec.upto fnGrammarsSpec)) fnGrammarsUptoCard
end Rows
end Go.Proofs.YtpbicppcehhphaaGreatDoor
