/-
  DERIVED. GIVEN WITH THE SEED: THE CARDS: each row of YtokgkjfgknjbbabDoorRows.lean that lists a variable, with what it lists TIED to the program's text (the seventh form; the later family's looks); each row that meets fmt, with fmt's text TOLD by the authors' own Lean function (tested against real Go, not proved from fmt's source: count such statements apart). THE CARD IS WHAT COUNTS. Prove the row's statement (the work); the ties are given (YtokgkjfgknjbbabDoorTie.lean); close each card by the builder's one call (the guide's Derived/Test/ToyasCard.lean, 'card_holds'). Laid BY PROGRAM, IN A SANDBOX (cutbox-door.mjs). By AI agents, Wed Nov 11 2026. No macro, syntax, notation, axiom, sorry.
-/
import Derived.Test.YtokgkjfgknjbbabDoorRows
import GoSem.ClaimSeven
namespace Go.Proofs.YtokgkjfgknjbbabDoor
namespace Rows

/-- THE TIED CARD OF 'laws.FnExactSetBytes'. -/
def fnExactSetBytesCard : Claim7 := { stood := { row := fnExactSetBytesRow, standIns := [], harness := (true, "c7343ff62cffce6eccfb53669bce86fed1f3672508a2c6aaacbeb5274400966b"), looks := false }, kinds := [], alts := [], laidByText := true, laidKinds := [.data], laidTests := true, laidLooks := .later }
def FnExactSetBytesCardSaid : Prop := Claim7.holds Tryd.pinned (.plain (OpenSpec.ofChange fnExactSetBytesSpec)) fnExactSetBytesCard

/-- THE TIED CARD OF 'laws.FnExactJoinSets'. -/
def fnExactJoinSetsCard : Claim7 := { stood := { row := fnExactJoinSetsRow, standIns := [], harness := (true, "c7343ff62cffce6eccfb53669bce86fed1f3672508a2c6aaacbeb5274400966b"), looks := false }, kinds := [], alts := [], laidByText := true, laidKinds := [.data], laidTests := true, laidLooks := .later }
def FnExactJoinSetsCardSaid : Prop := Claim7.holds Tryd.pinned (.plain (OpenSpec.ofChange fnExactJoinSetsSpec)) fnExactJoinSetsCard

/-- THE TIED CARD OF 'laws.FnExactMeetSets'. -/
def fnExactMeetSetsCard : Claim7 := { stood := { row := fnExactMeetSetsRow, standIns := [], harness := (true, "c7343ff62cffce6eccfb53669bce86fed1f3672508a2c6aaacbeb5274400966b"), looks := false }, kinds := [], alts := [], laidByText := true, laidKinds := [.data], laidTests := true, laidLooks := .later }
def FnExactMeetSetsCardSaid : Prop := Claim7.holds Tryd.pinned (.plain (OpenSpec.ofChange fnExactMeetSetsSpec)) fnExactMeetSetsCard

/-- THE TIED CARD OF 'laws.FnExactSetOf'. -/
def fnExactSetOfCard : Claim7 := { stood := { row := fnExactSetOfRow, standIns := [], harness := (true, "c7343ff62cffce6eccfb53669bce86fed1f3672508a2c6aaacbeb5274400966b"), looks := false }, kinds := [], alts := [], laidByText := true, laidKinds := [.data], laidTests := true, laidLooks := .later }
def FnExactSetOfCardSaid : Prop := Claim7.holds Tryd.pinned (.plain (OpenSpec.ofChange fnExactSetOfSpec)) fnExactSetOfCard

/-- THE SECOND FORM's CARD OF 'laws.FnExactSetBytes'. -/
def fnExactSetBytesUptoCard : Claim7 := { stood := { row := fnExactSetBytesUptoRow, standIns := [], harness := (true, "c7343ff62cffce6eccfb53669bce86fed1f3672508a2c6aaacbeb5274400966b"), looks := false }, kinds := [], alts := [], laidByText := true, laidKinds := [.data], laidTests := true, laidLooks := .later }
def FnExactSetBytesUptoCardSaid : Prop := Claim7.holds Tryd.pinned (.plain (OpenSpec.upto fnExactSetBytesSpec)) fnExactSetBytesUptoCard

/-- THE SECOND FORM's CARD OF 'laws.FnExactJoinSets'. -/
def fnExactJoinSetsUptoCard : Claim7 := { stood := { row := fnExactJoinSetsUptoRow, standIns := [], harness := (true, "c7343ff62cffce6eccfb53669bce86fed1f3672508a2c6aaacbeb5274400966b"), looks := false }, kinds := [], alts := [], laidByText := true, laidKinds := [.data], laidTests := true, laidLooks := .later }
def FnExactJoinSetsUptoCardSaid : Prop := Claim7.holds Tryd.pinned (.plain (OpenSpec.upto fnExactJoinSetsSpec)) fnExactJoinSetsUptoCard

/-- THE SECOND FORM's CARD OF 'laws.FnExactMeetSets'. -/
def fnExactMeetSetsUptoCard : Claim7 := { stood := { row := fnExactMeetSetsUptoRow, standIns := [], harness := (true, "c7343ff62cffce6eccfb53669bce86fed1f3672508a2c6aaacbeb5274400966b"), looks := false }, kinds := [], alts := [], laidByText := true, laidKinds := [.data], laidTests := true, laidLooks := .later }
def FnExactMeetSetsUptoCardSaid : Prop := Claim7.holds Tryd.pinned (.plain (OpenSpec.upto fnExactMeetSetsSpec)) fnExactMeetSetsUptoCard

/-- THE SECOND FORM's CARD OF 'laws.FnExactSetOf'. -/
def fnExactSetOfUptoCard : Claim7 := { stood := { row := fnExactSetOfUptoRow, standIns := [], harness := (true, "c7343ff62cffce6eccfb53669bce86fed1f3672508a2c6aaacbeb5274400966b"), looks := false }, kinds := [], alts := [], laidByText := true, laidKinds := [.data], laidTests := true, laidLooks := .later }
def FnExactSetOfUptoCardSaid : Prop := Claim7.holds Tryd.pinned (.plain (OpenSpec.upto fnExactSetOfSpec)) fnExactSetOfUptoCard
end Rows
end Go.Proofs.YtokgkjfgknjbbabDoor
