/-
  DERIVED. GIVEN WITH THE SEED: THE CARDS: each row of YtdefaeieiaegaaaGreatDoorRows.lean that lists a variable, with what it lists TIED to the program's text (the seventh form; the later family's looks); each row that meets fmt, with fmt's text TOLD by the authors' own Lean function (tested against real Go, not proved from fmt's source: count such statements apart). THE CARD IS WHAT COUNTS. Prove the row's statement (the work); the ties are given (YtdefaeieiaegaaaGreatDoorTie.lean); close each card by the builder's one call (the guide's Derived/Test/ToyasCard.lean, 'card_holds'). Laid BY PROGRAM, IN A SANDBOX (cutbox-door.mjs). By AI agents, Wed Nov 11 2026. No macro, syntax, notation, axiom, sorry.
-/
import Derived.Test.YtdefaeieiaegaaaGreatDoorRows
import GoSem.ClaimSeven
namespace Go.Proofs.YtdefaeieiaegaaaGreatDoor
namespace Rows

/-- THE TIED CARD OF 'lychwaylaw.TextPrints'. -/
def textPrintsCard : Claim7 := { stood := { row := textPrintsRow, standIns := [], harness := (true, "dcdfce5172450e36f3ccf140f6bd935ce6d963e2e5d0b7dd44de47bb4f661764"), looks := true }, kinds := [], alts := [], laidByText := true, laidKinds := [.data, .data, .data, .data, .data, .data], laidTests := true, laidLooks := .later }
def TextPrintsCardSaid : Prop := Claim7.holds Tryz.pinned (.plain (OpenSpec.ofChange textPrintsSpec)) textPrintsCard

/-- THE TIED CARD OF 'lychwaylaw.TextReads'. -/
def textReadsCard : Claim7 := { stood := { row := textReadsRow, standIns := [], harness := (true, "dcdfce5172450e36f3ccf140f6bd935ce6d963e2e5d0b7dd44de47bb4f661764"), looks := true }, kinds := [], alts := [], laidByText := true, laidKinds := [.data, .data, .data, .data, .sentinel, .sentinel, .data, .data, .data, .data, .pinned], laidTests := true, laidLooks := .later }
def TextReadsCardSaid : Prop := Claim7.holds Tryz.pinned (.plain (OpenSpec.ofChange textReadsSpec)) textReadsCard

/-- THE TIED CARD OF 'lychwaykeep.TextBack'. -/
def textBackCard : Claim7 := { stood := { row := textBackRow, standIns := [], harness := (true, "dcdfce5172450e36f3ccf140f6bd935ce6d963e2e5d0b7dd44de47bb4f661764"), looks := true }, kinds := [], alts := [], laidByText := true, laidKinds := [.data, .data, .data, .data, .sentinel, .sentinel, .data, .data, .data, .data, .pinned], laidTests := true, laidLooks := .later }
def TextBackCardSaid : Prop := Claim7.holds Tryz.pinned (.plain (OpenSpec.ofChange textBackSpec)) textBackCard

/-- THE TIED CARD OF 'lychwaykeep.TextTurned'. -/
def textTurnedCard : Claim7 := { stood := { row := textTurnedRow, standIns := [], harness := (true, "dcdfce5172450e36f3ccf140f6bd935ce6d963e2e5d0b7dd44de47bb4f661764"), looks := true }, kinds := [], alts := [], laidByText := true, laidKinds := [.data, .data, .data, .data, .sentinel, .sentinel, .data, .data, .data, .data, .pinned], laidTests := true, laidLooks := .later }
def TextTurnedCardSaid : Prop := Claim7.holds Tryz.pinned (.plain (OpenSpec.ofChange textTurnedSpec)) textTurnedCard

/-- THE TIED CARD OF 'lychwaykeep.ExprOfLine'. -/
def exprOfLineCard : Claim7 := { stood := { row := exprOfLineRow, standIns := [], harness := (true, "dcdfce5172450e36f3ccf140f6bd935ce6d963e2e5d0b7dd44de47bb4f661764"), looks := true }, kinds := [], alts := [], laidByText := true, laidKinds := [.data, .data, .data, .data, .sentinel, .sentinel, .data, .data, .data, .data, .pinned], laidTests := true, laidLooks := .later }
def ExprOfLineCardSaid : Prop := Claim7.holds Tryz.pinned (.plain (OpenSpec.ofChange exprOfLineSpec)) exprOfLineCard

/-- THE SECOND FORM's CARD OF 'lychwaylaw.TextPrints'. -/
def textPrintsUptoCard : Claim7 := { stood := { row := textPrintsUptoRow, standIns := [], harness := (true, "dcdfce5172450e36f3ccf140f6bd935ce6d963e2e5d0b7dd44de47bb4f661764"), looks := true }, kinds := [], alts := [], laidByText := true, laidKinds := [.data, .data, .data, .data, .data, .data], laidTests := true, laidLooks := .later }
def TextPrintsUptoCardSaid : Prop := Claim7.holds Tryz.pinned (.plain (OpenSpec.upto textPrintsSpec)) textPrintsUptoCard

/-- THE SECOND FORM's CARD OF 'lychwaylaw.TextReads'. -/
def textReadsUptoCard : Claim7 := { stood := { row := textReadsUptoRow, standIns := [], harness := (true, "dcdfce5172450e36f3ccf140f6bd935ce6d963e2e5d0b7dd44de47bb4f661764"), looks := true }, kinds := [], alts := [], laidByText := true, laidKinds := [.data, .data, .data, .data, .sentinel, .sentinel, .data, .data, .data, .data, .pinned], laidTests := true, laidLooks := .later }
def TextReadsUptoCardSaid : Prop := Claim7.holds Tryz.pinned (.plain (OpenSpec.upto textReadsSpec)) textReadsUptoCard

/-- THE SECOND FORM's CARD OF 'lychwaykeep.TextBack'. -/
def textBackUptoCard : Claim7 := { stood := { row := textBackUptoRow, standIns := [], harness := (true, "dcdfce5172450e36f3ccf140f6bd935ce6d963e2e5d0b7dd44de47bb4f661764"), looks := true }, kinds := [], alts := [], laidByText := true, laidKinds := [.data, .data, .data, .data, .sentinel, .sentinel, .data, .data, .data, .data, .pinned], laidTests := true, laidLooks := .later }
def TextBackUptoCardSaid : Prop := Claim7.holds Tryz.pinned (.plain (OpenSpec.upto textBackSpec)) textBackUptoCard

/-- THE SECOND FORM's CARD OF 'lychwaykeep.TextTurned'. -/
def textTurnedUptoCard : Claim7 := { stood := { row := textTurnedUptoRow, standIns := [], harness := (true, "dcdfce5172450e36f3ccf140f6bd935ce6d963e2e5d0b7dd44de47bb4f661764"), looks := true }, kinds := [], alts := [], laidByText := true, laidKinds := [.data, .data, .data, .data, .sentinel, .sentinel, .data, .data, .data, .data, .pinned], laidTests := true, laidLooks := .later }
def TextTurnedUptoCardSaid : Prop := Claim7.holds Tryz.pinned (.plain (OpenSpec.upto textTurnedSpec)) textTurnedUptoCard

/-- THE SECOND FORM's CARD OF 'lychwaykeep.ExprOfLine'. -/
def exprOfLineUptoCard : Claim7 := { stood := { row := exprOfLineUptoRow, standIns := [], harness := (true, "dcdfce5172450e36f3ccf140f6bd935ce6d963e2e5d0b7dd44de47bb4f661764"), looks := true }, kinds := [], alts := [], laidByText := true, laidKinds := [.data, .data, .data, .data, .sentinel, .sentinel, .data, .data, .data, .data, .pinned], laidTests := true, laidLooks := .later }
def ExprOfLineUptoCardSaid : Prop := Claim7.holds Tryz.pinned (.plain (OpenSpec.upto exprOfLineSpec)) exprOfLineUptoCard
end Rows
end Go.Proofs.YtdefaeieiaegaaaGreatDoor
