/-
  DERIVED. GIVEN WITH THE SEED: THE CARDS: each row of YtokgkjfgknjbbaaDoorRows.lean that lists a variable, with what it lists TIED to the program's text (the seventh form; the later family's looks); each row that meets fmt, with fmt's text TOLD by the authors' own Lean function (tested against real Go, not proved from fmt's source: count such statements apart). THE CARD IS WHAT COUNTS. Prove the row's statement (the work); the ties are given (YtokgkjfgknjbbaaDoorTie.lean); close each card by the builder's one call (the guide's Derived/Test/ToyasCard.lean, 'card_holds'). Laid BY PROGRAM, IN A SANDBOX (cutbox-door.mjs). By AI agents, Wed Nov 11 2026. No macro, syntax, notation, axiom, sorry.
-/
import Derived.Test.YtokgkjfgknjbbaaDoorRows
import GoSem.ClaimSeven
namespace Go.Proofs.YtokgkjfgknjbbaaDoor
namespace Rows

/-- THE TIED CARD OF 'laws.FnExprFree'. -/
def fnExprFreeCard : Claim7 := { stood := { row := fnExprFreeRow, standIns := [], harness := (true, "db3c03d3d2bb728cb95b937bed478b552981fc3df7a94796bea10592643186d0"), looks := true }, kinds := [], alts := [], laidByText := true, laidKinds := [.handle], laidTests := true, laidLooks := .later }
def FnExprFreeCardSaid : Prop := Claim7.holds Tryd.pinned (.plain (OpenSpec.ofChange fnExprFreeSpec)) fnExprFreeCard

/-- THE TIED CARD OF 'laws.FnSets'. -/
def fnSetsCard : Claim7 := { stood := { row := fnSetsRow, standIns := [], harness := (true, "db3c03d3d2bb728cb95b937bed478b552981fc3df7a94796bea10592643186d0"), looks := true }, kinds := [], alts := [], laidByText := true, laidKinds := [.data], laidTests := true, laidLooks := .later }
def FnSetsCardSaid : Prop := Claim7.holds Tryd.pinned (.plain (OpenSpec.ofChange fnSetsSpec)) fnSetsCard

/-- THE TIED CARD OF 'laws.FnSetsOf'. -/
def fnSetsOfCard : Claim7 := { stood := { row := fnSetsOfRow, standIns := [], harness := (true, "db3c03d3d2bb728cb95b937bed478b552981fc3df7a94796bea10592643186d0"), looks := true }, kinds := [], alts := [], laidByText := true, laidKinds := [.data], laidTests := true, laidLooks := .later }
def FnSetsOfCardSaid : Prop := Claim7.holds Tryd.pinned (.plain (OpenSpec.ofChange fnSetsOfSpec)) fnSetsOfCard

/-- THE TIED CARD OF 'laws.FnSetsJoined'. -/
def fnSetsJoinedCard : Claim7 := { stood := { row := fnSetsJoinedRow, standIns := [], harness := (true, "db3c03d3d2bb728cb95b937bed478b552981fc3df7a94796bea10592643186d0"), looks := true }, kinds := [], alts := [], laidByText := true, laidKinds := [.data], laidTests := true, laidLooks := .later }
def FnSetsJoinedCardSaid : Prop := Claim7.holds Tryd.pinned (.plain (OpenSpec.ofChange fnSetsJoinedSpec)) fnSetsJoinedCard

/-- THE TIED CARD OF 'laws.FnSetsMet'. -/
def fnSetsMetCard : Claim7 := { stood := { row := fnSetsMetRow, standIns := [], harness := (true, "db3c03d3d2bb728cb95b937bed478b552981fc3df7a94796bea10592643186d0"), looks := true }, kinds := [], alts := [], laidByText := true, laidKinds := [.data], laidTests := true, laidLooks := .later }
def FnSetsMetCardSaid : Prop := Claim7.holds Tryd.pinned (.plain (OpenSpec.ofChange fnSetsMetSpec)) fnSetsMetCard

/-- THE SECOND FORM's CARD OF 'laws.FnExprFree'. -/
def fnExprFreeUptoCard : Claim7 := { stood := { row := fnExprFreeUptoRow, standIns := [], harness := (true, "db3c03d3d2bb728cb95b937bed478b552981fc3df7a94796bea10592643186d0"), looks := true }, kinds := [], alts := [], laidByText := true, laidKinds := [.handle], laidTests := true, laidLooks := .later }
def FnExprFreeUptoCardSaid : Prop := Claim7.holds Tryd.pinned (.plain (OpenSpec.upto fnExprFreeSpec)) fnExprFreeUptoCard

/-- THE SECOND FORM's CARD OF 'laws.FnSets'. -/
def fnSetsUptoCard : Claim7 := { stood := { row := fnSetsUptoRow, standIns := [], harness := (true, "db3c03d3d2bb728cb95b937bed478b552981fc3df7a94796bea10592643186d0"), looks := true }, kinds := [], alts := [], laidByText := true, laidKinds := [.data], laidTests := true, laidLooks := .later }
def FnSetsUptoCardSaid : Prop := Claim7.holds Tryd.pinned (.plain (OpenSpec.upto fnSetsSpec)) fnSetsUptoCard

/-- THE SECOND FORM's CARD OF 'laws.FnSetsOf'. -/
def fnSetsOfUptoCard : Claim7 := { stood := { row := fnSetsOfUptoRow, standIns := [], harness := (true, "db3c03d3d2bb728cb95b937bed478b552981fc3df7a94796bea10592643186d0"), looks := true }, kinds := [], alts := [], laidByText := true, laidKinds := [.data], laidTests := true, laidLooks := .later }
def FnSetsOfUptoCardSaid : Prop := Claim7.holds Tryd.pinned (.plain (OpenSpec.upto fnSetsOfSpec)) fnSetsOfUptoCard

/-- THE SECOND FORM's CARD OF 'laws.FnSetsJoined'. -/
def fnSetsJoinedUptoCard : Claim7 := { stood := { row := fnSetsJoinedUptoRow, standIns := [], harness := (true, "db3c03d3d2bb728cb95b937bed478b552981fc3df7a94796bea10592643186d0"), looks := true }, kinds := [], alts := [], laidByText := true, laidKinds := [.data], laidTests := true, laidLooks := .later }
def FnSetsJoinedUptoCardSaid : Prop := Claim7.holds Tryd.pinned (.plain (OpenSpec.upto fnSetsJoinedSpec)) fnSetsJoinedUptoCard

/-- THE SECOND FORM's CARD OF 'laws.FnSetsMet'. -/
def fnSetsMetUptoCard : Claim7 := { stood := { row := fnSetsMetUptoRow, standIns := [], harness := (true, "db3c03d3d2bb728cb95b937bed478b552981fc3df7a94796bea10592643186d0"), looks := true }, kinds := [], alts := [], laidByText := true, laidKinds := [.data], laidTests := true, laidLooks := .later }
def FnSetsMetUptoCardSaid : Prop := Claim7.holds Tryd.pinned (.plain (OpenSpec.upto fnSetsMetSpec)) fnSetsMetUptoCard
end Rows
end Go.Proofs.YtokgkjfgknjbbaaDoor
