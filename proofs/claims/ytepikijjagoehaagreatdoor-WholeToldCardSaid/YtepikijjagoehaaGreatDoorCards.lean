/-
  DERIVED. GIVEN WITH THE SEED: THE CARDS: each row of YtepikijjagoehaaGreatDoorRows.lean that lists a variable, with what it lists TIED to the program's text (the seventh form; the later family's looks); each row that meets fmt, with fmt's text TOLD by the authors' own Lean function (tested against real Go, not proved from fmt's source: count such statements apart). THE CARD IS WHAT COUNTS. Prove the row's statement (the work); the ties are given (YtepikijjagoehaaGreatDoorTie.lean); close each card by the builder's one call (the guide's Derived/Test/ToyasCard.lean, 'card_holds'). Laid BY PROGRAM, IN A SANDBOX (cutbox-door.mjs). By AI agents, Wed Nov 11 2026. No macro, syntax, notation, axiom, sorry.
-/
import Derived.Test.YtepikijjagoehaaGreatDoorRows
import GoSem.ClaimSeven
namespace Go.Proofs.YtepikijjagoehaaGreatDoor
namespace Rows

/-- THE TIED CARD OF 'lychwaylaw.TextReads'. -/
def textReadsCard : Claim7 := { stood := { row := textReadsRow, standIns := [], harness := (true, "aca00e02352f83b5779a41627447b89a9fbb52629f7e450add6352ec313db91f"), looks := true }, kinds := [], alts := [], laidByText := true, laidKinds := [.data, .data, .data, .data, .sentinel, .sentinel, .data, .data, .data, .data, .pinned], laidTests := true, laidLooks := .later }
def TextReadsCardSaid : Prop := Claim7.holds Tryz.pinned (.plain (OpenSpec.ofChange textReadsSpec)) textReadsCard

/-- THE TIED CARD OF 'lychwaykeep.TextTurned'. -/
def textTurnedCard : Claim7 := { stood := { row := textTurnedRow, standIns := [], harness := (true, "aca00e02352f83b5779a41627447b89a9fbb52629f7e450add6352ec313db91f"), looks := true }, kinds := [], alts := [], laidByText := true, laidKinds := [.data, .data, .data, .data, .sentinel, .sentinel, .data, .data, .data, .data, .pinned], laidTests := true, laidLooks := .later }
def TextTurnedCardSaid : Prop := Claim7.holds Tryz.pinned (.plain (OpenSpec.ofChange textTurnedSpec)) textTurnedCard

/-- THE TIED CARD OF 'lychwaylaw.WholeAlls'. -/
def wholeAllsCard : Claim7 := { stood := { row := wholeAllsRow, standIns := [], harness := (true, "aca00e02352f83b5779a41627447b89a9fbb52629f7e450add6352ec313db91f"), looks := true }, kinds := [], alts := [], laidByText := true, laidKinds := [.data], laidTests := true, laidLooks := .later }
def WholeAllsCardSaid : Prop := Claim7.holds Tryz.pinned (.plain (OpenSpec.ofChange wholeAllsSpec)) wholeAllsCard

/-- THE TIED CARD OF 'lychwaykeep.WholeFixed'. -/
def wholeFixedCard : Claim7 := { stood := { row := wholeFixedRow, standIns := [], harness := (true, "aca00e02352f83b5779a41627447b89a9fbb52629f7e450add6352ec313db91f"), looks := true }, kinds := [], alts := [], laidByText := true, laidKinds := [.data], laidTests := true, laidLooks := .later }
def WholeFixedCardSaid : Prop := Claim7.holds Tryz.pinned (.plain (OpenSpec.ofChange wholeFixedSpec)) wholeFixedCard

/-- THE TIED CARD OF 'lychwaykeep.WholeAnswered'. -/
def wholeAnsweredCard : Claim7 := { stood := { row := wholeAnsweredRow, standIns := [], harness := (true, "aca00e02352f83b5779a41627447b89a9fbb52629f7e450add6352ec313db91f"), looks := true }, kinds := [], alts := [], laidByText := true, laidKinds := [.data], laidTests := true, laidLooks := .later }
def WholeAnsweredCardSaid : Prop := Claim7.holds Tryz.pinned (.plain (OpenSpec.ofChange wholeAnsweredSpec)) wholeAnsweredCard

/-- THE TIED CARD OF 'lychwaykeep.WholeTurned'. -/
def wholeTurnedCard : Claim7 := { stood := { row := wholeTurnedRow, standIns := [], harness := (true, "aca00e02352f83b5779a41627447b89a9fbb52629f7e450add6352ec313db91f"), looks := true }, kinds := [], alts := [], laidByText := true, laidKinds := [.data], laidTests := true, laidLooks := .later }
def WholeTurnedCardSaid : Prop := Claim7.holds Tryz.pinned (.plain (OpenSpec.ofChange wholeTurnedSpec)) wholeTurnedCard

/-- THE TIED CARD OF 'lychwaykeep.WholeGrows'. -/
def wholeGrowsCard : Claim7 := { stood := { row := wholeGrowsRow, standIns := [], harness := (true, "aca00e02352f83b5779a41627447b89a9fbb52629f7e450add6352ec313db91f"), looks := true }, kinds := [], alts := [], laidByText := true, laidKinds := [.data], laidTests := true, laidLooks := .later }
def WholeGrowsCardSaid : Prop := Claim7.holds Tryz.pinned (.plain (OpenSpec.ofChange wholeGrowsSpec)) wholeGrowsCard

/-- THE TIED CARD OF 'lychwaykeep.WholeTold'. -/
def wholeToldCard : Claim7 := { stood := { row := wholeToldRow, standIns := [], harness := (true, "aca00e02352f83b5779a41627447b89a9fbb52629f7e450add6352ec313db91f"), looks := true }, kinds := [], alts := [], laidByText := true, laidKinds := [.data], laidTests := true, laidLooks := .later }
def WholeToldCardSaid : Prop := Claim7.holds Tryz.pinned (.plain (OpenSpec.ofChange wholeToldSpec)) wholeToldCard

/-- THE SECOND FORM's CARD OF 'lychwaylaw.TextReads'. -/
def textReadsUptoCard : Claim7 := { stood := { row := textReadsUptoRow, standIns := [], harness := (true, "aca00e02352f83b5779a41627447b89a9fbb52629f7e450add6352ec313db91f"), looks := true }, kinds := [], alts := [], laidByText := true, laidKinds := [.data, .data, .data, .data, .sentinel, .sentinel, .data, .data, .data, .data, .pinned], laidTests := true, laidLooks := .later }
def TextReadsUptoCardSaid : Prop := Claim7.holds Tryz.pinned (.plain (OpenSpec.upto textReadsSpec)) textReadsUptoCard

/-- THE SECOND FORM's CARD OF 'lychwaykeep.TextTurned'. -/
def textTurnedUptoCard : Claim7 := { stood := { row := textTurnedUptoRow, standIns := [], harness := (true, "aca00e02352f83b5779a41627447b89a9fbb52629f7e450add6352ec313db91f"), looks := true }, kinds := [], alts := [], laidByText := true, laidKinds := [.data, .data, .data, .data, .sentinel, .sentinel, .data, .data, .data, .data, .pinned], laidTests := true, laidLooks := .later }
def TextTurnedUptoCardSaid : Prop := Claim7.holds Tryz.pinned (.plain (OpenSpec.upto textTurnedSpec)) textTurnedUptoCard

/-- THE SECOND FORM's CARD OF 'lychwaylaw.WholeAlls'. -/
def wholeAllsUptoCard : Claim7 := { stood := { row := wholeAllsUptoRow, standIns := [], harness := (true, "aca00e02352f83b5779a41627447b89a9fbb52629f7e450add6352ec313db91f"), looks := true }, kinds := [], alts := [], laidByText := true, laidKinds := [.data], laidTests := true, laidLooks := .later }
def WholeAllsUptoCardSaid : Prop := Claim7.holds Tryz.pinned (.plain (OpenSpec.upto wholeAllsSpec)) wholeAllsUptoCard

/-- THE SECOND FORM's CARD OF 'lychwaykeep.WholeFixed'. -/
def wholeFixedUptoCard : Claim7 := { stood := { row := wholeFixedUptoRow, standIns := [], harness := (true, "aca00e02352f83b5779a41627447b89a9fbb52629f7e450add6352ec313db91f"), looks := true }, kinds := [], alts := [], laidByText := true, laidKinds := [.data], laidTests := true, laidLooks := .later }
def WholeFixedUptoCardSaid : Prop := Claim7.holds Tryz.pinned (.plain (OpenSpec.upto wholeFixedSpec)) wholeFixedUptoCard

/-- THE SECOND FORM's CARD OF 'lychwaykeep.WholeAnswered'. -/
def wholeAnsweredUptoCard : Claim7 := { stood := { row := wholeAnsweredUptoRow, standIns := [], harness := (true, "aca00e02352f83b5779a41627447b89a9fbb52629f7e450add6352ec313db91f"), looks := true }, kinds := [], alts := [], laidByText := true, laidKinds := [.data], laidTests := true, laidLooks := .later }
def WholeAnsweredUptoCardSaid : Prop := Claim7.holds Tryz.pinned (.plain (OpenSpec.upto wholeAnsweredSpec)) wholeAnsweredUptoCard

/-- THE SECOND FORM's CARD OF 'lychwaykeep.WholeTurned'. -/
def wholeTurnedUptoCard : Claim7 := { stood := { row := wholeTurnedUptoRow, standIns := [], harness := (true, "aca00e02352f83b5779a41627447b89a9fbb52629f7e450add6352ec313db91f"), looks := true }, kinds := [], alts := [], laidByText := true, laidKinds := [.data], laidTests := true, laidLooks := .later }
def WholeTurnedUptoCardSaid : Prop := Claim7.holds Tryz.pinned (.plain (OpenSpec.upto wholeTurnedSpec)) wholeTurnedUptoCard

/-- THE SECOND FORM's CARD OF 'lychwaykeep.WholeGrows'. -/
def wholeGrowsUptoCard : Claim7 := { stood := { row := wholeGrowsUptoRow, standIns := [], harness := (true, "aca00e02352f83b5779a41627447b89a9fbb52629f7e450add6352ec313db91f"), looks := true }, kinds := [], alts := [], laidByText := true, laidKinds := [.data], laidTests := true, laidLooks := .later }
def WholeGrowsUptoCardSaid : Prop := Claim7.holds Tryz.pinned (.plain (OpenSpec.upto wholeGrowsSpec)) wholeGrowsUptoCard

/-- THE SECOND FORM's CARD OF 'lychwaykeep.WholeTold'. -/
def wholeToldUptoCard : Claim7 := { stood := { row := wholeToldUptoRow, standIns := [], harness := (true, "aca00e02352f83b5779a41627447b89a9fbb52629f7e450add6352ec313db91f"), looks := true }, kinds := [], alts := [], laidByText := true, laidKinds := [.data], laidTests := true, laidLooks := .later }
def WholeToldUptoCardSaid : Prop := Claim7.holds Tryz.pinned (.plain (OpenSpec.upto wholeToldSpec)) wholeToldUptoCard
end Rows
end Go.Proofs.YtepikijjagoehaaGreatDoor
