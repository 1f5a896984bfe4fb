/-
  DERIVED. GIVEN WITH THE SEED: THE CARDS: each row of YtanmhbopalchoaaDoorRows.lean that lists a variable, with what it lists TIED to the program's text (the seventh form; the later family's looks); each row that meets fmt, with fmt's text TOLD by the authors' own Lean function (tested against real Go, not proved from fmt's source: count such statements apart). THE CARD IS WHAT COUNTS. Prove the row's statement (the work); the ties are given (YtanmhbopalchoaaDoorTie.lean); close each card by the builder's one call (the guide's Derived/Test/ToyasCard.lean, 'card_holds'). Laid BY PROGRAM, IN A SANDBOX (cutbox-door.mjs). By AI agents, Wed Nov 11 2026. No macro, syntax, notation, axiom, sorry.
-/
import Derived.Test.YtanmhbopalchoaaDoorRows
import GoSem.ClaimSeven
namespace Go.Proofs.YtanmhbopalchoaaDoor
namespace Rows

/-- THE TIED CARD OF 'laws.FnExprs'. -/
def fnExprsCard : Claim7 := { stood := { row := fnExprsRow, standIns := [], harness := (true, "c8f6e515b05b3dc9d89de75714d45d0596d7a392a7052b2d45e7f2f8b33fd631"), looks := true }, kinds := [], alts := [], laidByText := true, laidKinds := [.handle], laidTests := true, laidLooks := .later }
def FnExprsCardSaid : Prop := Claim7.holds Tryd.pinned (.plain (OpenSpec.ofChange fnExprsSpec)) fnExprsCard

/-- THE TIED CARD OF 'laws.FnExprFree'. -/
def fnExprFreeCard : Claim7 := { stood := { row := fnExprFreeRow, standIns := [], harness := (true, "c8f6e515b05b3dc9d89de75714d45d0596d7a392a7052b2d45e7f2f8b33fd631"), looks := true }, kinds := [], alts := [], laidByText := true, laidKinds := [.handle], laidTests := true, laidLooks := .later }
def FnExprFreeCardSaid : Prop := Claim7.holds Tryd.pinned (.plain (OpenSpec.ofChange fnExprFreeSpec)) fnExprFreeCard

/-- THE TIED CARD OF 'laws.FnExprWrong'. -/
def fnExprWrongCard : Claim7 := { stood := { row := fnExprWrongRow, standIns := [], harness := (true, "c8f6e515b05b3dc9d89de75714d45d0596d7a392a7052b2d45e7f2f8b33fd631"), looks := true }, kinds := [], alts := [], laidByText := true, laidKinds := [.handle], laidTests := true, laidLooks := .later }
def FnExprWrongCardSaid : Prop := Claim7.holds Tryd.pinned (.plain (OpenSpec.ofChange fnExprWrongSpec)) fnExprWrongCard

/-- THE TIED CARD OF 'laws.FnExactExprOk'. -/
def fnExactExprOkCard : Claim7 := { stood := { row := fnExactExprOkRow, standIns := [], harness := (true, "c8f6e515b05b3dc9d89de75714d45d0596d7a392a7052b2d45e7f2f8b33fd631"), looks := true }, kinds := [], alts := [], laidByText := true, laidKinds := [.handle], laidTests := true, laidLooks := .later }
def FnExactExprOkCardSaid : Prop := Claim7.holds Tryd.pinned (.plain (OpenSpec.ofChange fnExactExprOkSpec)) fnExactExprOkCard

/-- THE TIED CARD OF 'laws.FnExactEvalExpr'. -/
def fnExactEvalExprCard : Claim7 := { stood := { row := fnExactEvalExprRow, standIns := [], harness := (true, "c8f6e515b05b3dc9d89de75714d45d0596d7a392a7052b2d45e7f2f8b33fd631"), looks := true }, kinds := [], alts := [], laidByText := true, laidKinds := [.handle], laidTests := true, laidLooks := .later }
def FnExactEvalExprCardSaid : Prop := Claim7.holds Tryd.pinned (.plain (OpenSpec.ofChange fnExactEvalExprSpec)) fnExactEvalExprCard

/-- THE SECOND FORM's CARD OF 'laws.FnExprs'. -/
def fnExprsUptoCard : Claim7 := { stood := { row := fnExprsUptoRow, standIns := [], harness := (true, "c8f6e515b05b3dc9d89de75714d45d0596d7a392a7052b2d45e7f2f8b33fd631"), looks := true }, kinds := [], alts := [], laidByText := true, laidKinds := [.handle], laidTests := true, laidLooks := .later }
def FnExprsUptoCardSaid : Prop := Claim7.holds Tryd.pinned (.plain (OpenSpec.upto fnExprsSpec)) fnExprsUptoCard

/-- THE SECOND FORM's CARD OF 'laws.FnExprFree'. -/
def fnExprFreeUptoCard : Claim7 := { stood := { row := fnExprFreeUptoRow, standIns := [], harness := (true, "c8f6e515b05b3dc9d89de75714d45d0596d7a392a7052b2d45e7f2f8b33fd631"), looks := true }, kinds := [], alts := [], laidByText := true, laidKinds := [.handle], laidTests := true, laidLooks := .later }
def FnExprFreeUptoCardSaid : Prop := Claim7.holds Tryd.pinned (.plain (OpenSpec.upto fnExprFreeSpec)) fnExprFreeUptoCard

/-- THE SECOND FORM's CARD OF 'laws.FnExprWrong'. -/
def fnExprWrongUptoCard : Claim7 := { stood := { row := fnExprWrongUptoRow, standIns := [], harness := (true, "c8f6e515b05b3dc9d89de75714d45d0596d7a392a7052b2d45e7f2f8b33fd631"), looks := true }, kinds := [], alts := [], laidByText := true, laidKinds := [.handle], laidTests := true, laidLooks := .later }
def FnExprWrongUptoCardSaid : Prop := Claim7.holds Tryd.pinned (.plain (OpenSpec.upto fnExprWrongSpec)) fnExprWrongUptoCard

/-- THE SECOND FORM's CARD OF 'laws.FnExactExprOk'. -/
def fnExactExprOkUptoCard : Claim7 := { stood := { row := fnExactExprOkUptoRow, standIns := [], harness := (true, "c8f6e515b05b3dc9d89de75714d45d0596d7a392a7052b2d45e7f2f8b33fd631"), looks := true }, kinds := [], alts := [], laidByText := true, laidKinds := [.handle], laidTests := true, laidLooks := .later }
def FnExactExprOkUptoCardSaid : Prop := Claim7.holds Tryd.pinned (.plain (OpenSpec.upto fnExactExprOkSpec)) fnExactExprOkUptoCard

/-- THE SECOND FORM's CARD OF 'laws.FnExactEvalExpr'. -/
def fnExactEvalExprUptoCard : Claim7 := { stood := { row := fnExactEvalExprUptoRow, standIns := [], harness := (true, "c8f6e515b05b3dc9d89de75714d45d0596d7a392a7052b2d45e7f2f8b33fd631"), looks := true }, kinds := [], alts := [], laidByText := true, laidKinds := [.handle], laidTests := true, laidLooks := .later }
def FnExactEvalExprUptoCardSaid : Prop := Claim7.holds Tryd.pinned (.plain (OpenSpec.upto fnExactEvalExprSpec)) fnExactEvalExprUptoCard
end Rows
end Go.Proofs.YtanmhbopalchoaaDoor
