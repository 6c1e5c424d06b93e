/-
  DERIVED. GIVEN WITH THE SEED: THE CARDS: each row of YtonlkmkfcaadlaaGreatDoorRows.lean that lists a variable, with what it lists TIED to the program's text (the seventh form; the later family's looks); each row that meets fmt, with fmt's text TOLD by the authors' own Lean function (tested against real Go, not proved from fmt's source: count such statements apart). THE CARD IS WHAT COUNTS. Prove the row's statement (the work); the ties are given (YtonlkmkfcaadlaaGreatDoorTie.lean); close each card by the builder's one call (the guide's Derived/Test/ToyasCard.lean, 'card_holds'). Laid BY PROGRAM, IN A SANDBOX (cutbox-door.mjs). By AI agents, Wed Nov 11 2026. No macro, syntax, notation, axiom, sorry.
-/
import Derived.Test.YtonlkmkfcaadlaaGreatDoorRows
import GoSem.ClaimSeven
namespace Go.Proofs.YtonlkmkfcaadlaaGreatDoor
namespace Rows

/-- THE TIED CARD OF 'lychwaykeep.WholeFixed'. -/
def wholeFixedCard : Claim7 := { stood := { row := wholeFixedRow, standIns := [], harness := (true, "5b614f18355bc39049820e1e7d69463dd0b52438914661f6016dc5c10f953c8b"), looks := false }, kinds := [], alts := [], laidByText := true, laidKinds := [.data], laidTests := true, laidLooks := .later }
def WholeFixedCardSaid : Prop := Claim7.holds Tryz.pinned (.plain (OpenSpec.ofChange wholeFixedSpec)) wholeFixedCard

/-- THE TIED CARD OF 'lychwaykeep.WholeAnswered'. -/
def wholeAnsweredCard : Claim7 := { stood := { row := wholeAnsweredRow, standIns := [], harness := (true, "5b614f18355bc39049820e1e7d69463dd0b52438914661f6016dc5c10f953c8b"), looks := false }, kinds := [], alts := [], laidByText := true, laidKinds := [.data], laidTests := true, laidLooks := .later }
def WholeAnsweredCardSaid : Prop := Claim7.holds Tryz.pinned (.plain (OpenSpec.ofChange wholeAnsweredSpec)) wholeAnsweredCard

/-- THE TIED CARD OF 'lychwaykeep.WholeTurned'. -/
def wholeTurnedCard : Claim7 := { stood := { row := wholeTurnedRow, standIns := [], harness := (true, "5b614f18355bc39049820e1e7d69463dd0b52438914661f6016dc5c10f953c8b"), looks := false }, kinds := [], alts := [], laidByText := true, laidKinds := [.data], laidTests := true, laidLooks := .later }
def WholeTurnedCardSaid : Prop := Claim7.holds Tryz.pinned (.plain (OpenSpec.ofChange wholeTurnedSpec)) wholeTurnedCard

/-- THE TIED CARD OF 'lychwaykeep.WholeGrows'. -/
def wholeGrowsCard : Claim7 := { stood := { row := wholeGrowsRow, standIns := [], harness := (true, "5b614f18355bc39049820e1e7d69463dd0b52438914661f6016dc5c10f953c8b"), looks := false }, kinds := [], alts := [], laidByText := true, laidKinds := [.data], laidTests := true, laidLooks := .later }
def WholeGrowsCardSaid : Prop := Claim7.holds Tryz.pinned (.plain (OpenSpec.ofChange wholeGrowsSpec)) wholeGrowsCard

/-- THE TIED CARD OF 'lychwaykeep.WholeTold'. -/
def wholeToldCard : Claim7 := { stood := { row := wholeToldRow, standIns := [], harness := (true, "5b614f18355bc39049820e1e7d69463dd0b52438914661f6016dc5c10f953c8b"), looks := false }, kinds := [], alts := [], laidByText := true, laidKinds := [.data], laidTests := true, laidLooks := .later }
def WholeToldCardSaid : Prop := Claim7.holds Tryz.pinned (.plain (OpenSpec.ofChange wholeToldSpec)) wholeToldCard

/-- THE TIED CARD OF 'lychwaykeep.DeltaSame'. -/
def deltaSameCard : Claim7 := { stood := { row := deltaSameRow, standIns := [], harness := (true, "5b614f18355bc39049820e1e7d69463dd0b52438914661f6016dc5c10f953c8b"), looks := false }, kinds := [], alts := [], laidByText := true, laidKinds := [.data], laidTests := true, laidLooks := .later }
def DeltaSameCardSaid : Prop := Claim7.holds Tryz.pinned (.plain (OpenSpec.ofChange deltaSameSpec)) deltaSameCard

/-- THE TIED CARD OF 'lychwaykeep.DeltaFew'. -/
def deltaFewCard : Claim7 := { stood := { row := deltaFewRow, standIns := [], harness := (true, "5b614f18355bc39049820e1e7d69463dd0b52438914661f6016dc5c10f953c8b"), looks := false }, kinds := [], alts := [], laidByText := true, laidKinds := [.data], laidTests := true, laidLooks := .later }
def DeltaFewCardSaid : Prop := Claim7.holds Tryz.pinned (.plain (OpenSpec.ofChange deltaFewSpec)) deltaFewCard

/-- THE TIED CARD OF 'lychwaykeep.DeltaTold'. -/
def deltaToldCard : Claim7 := { stood := { row := deltaToldRow, standIns := [], harness := (true, "5b614f18355bc39049820e1e7d69463dd0b52438914661f6016dc5c10f953c8b"), looks := false }, kinds := [], alts := [], laidByText := true, laidKinds := [.data], laidTests := true, laidLooks := .later }
def DeltaToldCardSaid : Prop := Claim7.holds Tryz.pinned (.plain (OpenSpec.ofChange deltaToldSpec)) deltaToldCard

/-- THE TIED CARD OF 'lychwaykeep.DeltaBack'. -/
def deltaBackCard : Claim7 := { stood := { row := deltaBackRow, standIns := [], harness := (true, "5b614f18355bc39049820e1e7d69463dd0b52438914661f6016dc5c10f953c8b"), looks := false }, kinds := [], alts := [], laidByText := true, laidKinds := [.data], laidTests := true, laidLooks := .later }
def DeltaBackCardSaid : Prop := Claim7.holds Tryz.pinned (.plain (OpenSpec.ofChange deltaBackSpec)) deltaBackCard

/-- THE SECOND FORM's CARD OF 'lychwaykeep.WholeFixed'. -/
def wholeFixedUptoCard : Claim7 := { stood := { row := wholeFixedUptoRow, standIns := [], harness := (true, "5b614f18355bc39049820e1e7d69463dd0b52438914661f6016dc5c10f953c8b"), looks := false }, kinds := [], alts := [], laidByText := true, laidKinds := [.data], laidTests := true, laidLooks := .later }
def WholeFixedUptoCardSaid : Prop := Claim7.holds Tryz.pinned (.plain (OpenSpec.upto wholeFixedSpec)) wholeFixedUptoCard

/-- THE SECOND FORM's CARD OF 'lychwaykeep.WholeAnswered'. -/
def wholeAnsweredUptoCard : Claim7 := { stood := { row := wholeAnsweredUptoRow, standIns := [], harness := (true, "5b614f18355bc39049820e1e7d69463dd0b52438914661f6016dc5c10f953c8b"), looks := false }, kinds := [], alts := [], laidByText := true, laidKinds := [.data], laidTests := true, laidLooks := .later }
def WholeAnsweredUptoCardSaid : Prop := Claim7.holds Tryz.pinned (.plain (OpenSpec.upto wholeAnsweredSpec)) wholeAnsweredUptoCard

/-- THE SECOND FORM's CARD OF 'lychwaykeep.WholeTurned'. -/
def wholeTurnedUptoCard : Claim7 := { stood := { row := wholeTurnedUptoRow, standIns := [], harness := (true, "5b614f18355bc39049820e1e7d69463dd0b52438914661f6016dc5c10f953c8b"), looks := false }, kinds := [], alts := [], laidByText := true, laidKinds := [.data], laidTests := true, laidLooks := .later }
def WholeTurnedUptoCardSaid : Prop := Claim7.holds Tryz.pinned (.plain (OpenSpec.upto wholeTurnedSpec)) wholeTurnedUptoCard

/-- THE SECOND FORM's CARD OF 'lychwaykeep.WholeGrows'. -/
def wholeGrowsUptoCard : Claim7 := { stood := { row := wholeGrowsUptoRow, standIns := [], harness := (true, "5b614f18355bc39049820e1e7d69463dd0b52438914661f6016dc5c10f953c8b"), looks := false }, kinds := [], alts := [], laidByText := true, laidKinds := [.data], laidTests := true, laidLooks := .later }
def WholeGrowsUptoCardSaid : Prop := Claim7.holds Tryz.pinned (.plain (OpenSpec.upto wholeGrowsSpec)) wholeGrowsUptoCard

/-- THE SECOND FORM's CARD OF 'lychwaykeep.WholeTold'. -/
def wholeToldUptoCard : Claim7 := { stood := { row := wholeToldUptoRow, standIns := [], harness := (true, "5b614f18355bc39049820e1e7d69463dd0b52438914661f6016dc5c10f953c8b"), looks := false }, kinds := [], alts := [], laidByText := true, laidKinds := [.data], laidTests := true, laidLooks := .later }
def WholeToldUptoCardSaid : Prop := Claim7.holds Tryz.pinned (.plain (OpenSpec.upto wholeToldSpec)) wholeToldUptoCard

/-- THE SECOND FORM's CARD OF 'lychwaykeep.DeltaSame'. -/
def deltaSameUptoCard : Claim7 := { stood := { row := deltaSameUptoRow, standIns := [], harness := (true, "5b614f18355bc39049820e1e7d69463dd0b52438914661f6016dc5c10f953c8b"), looks := false }, kinds := [], alts := [], laidByText := true, laidKinds := [.data], laidTests := true, laidLooks := .later }
def DeltaSameUptoCardSaid : Prop := Claim7.holds Tryz.pinned (.plain (OpenSpec.upto deltaSameSpec)) deltaSameUptoCard

/-- THE SECOND FORM's CARD OF 'lychwaykeep.DeltaFew'. -/
def deltaFewUptoCard : Claim7 := { stood := { row := deltaFewUptoRow, standIns := [], harness := (true, "5b614f18355bc39049820e1e7d69463dd0b52438914661f6016dc5c10f953c8b"), looks := false }, kinds := [], alts := [], laidByText := true, laidKinds := [.data], laidTests := true, laidLooks := .later }
def DeltaFewUptoCardSaid : Prop := Claim7.holds Tryz.pinned (.plain (OpenSpec.upto deltaFewSpec)) deltaFewUptoCard

/-- THE SECOND FORM's CARD OF 'lychwaykeep.DeltaTold'. -/
def deltaToldUptoCard : Claim7 := { stood := { row := deltaToldUptoRow, standIns := [], harness := (true, "5b614f18355bc39049820e1e7d69463dd0b52438914661f6016dc5c10f953c8b"), looks := false }, kinds := [], alts := [], laidByText := true, laidKinds := [.data], laidTests := true, laidLooks := .later }
def DeltaToldUptoCardSaid : Prop := Claim7.holds Tryz.pinned (.plain (OpenSpec.upto deltaToldSpec)) deltaToldUptoCard

/-- THE SECOND FORM's CARD OF 'lychwaykeep.DeltaBack'. -/
def deltaBackUptoCard : Claim7 := { stood := { row := deltaBackUptoRow, standIns := [], harness := (true, "5b614f18355bc39049820e1e7d69463dd0b52438914661f6016dc5c10f953c8b"), looks := false }, kinds := [], alts := [], laidByText := true, laidKinds := [.data], laidTests := true, laidLooks := .later }
def DeltaBackUptoCardSaid : Prop := Claim7.holds Tryz.pinned (.plain (OpenSpec.upto deltaBackSpec)) deltaBackUptoCard
end Rows
end Go.Proofs.YtonlkmkfcaadlaaGreatDoor
