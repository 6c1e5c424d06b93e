/-
  DERIVED. GIVEN WITH THE SEED: THE CARDS: each row of YtdlfhldboagbeaaGreatDoorRows.lean that lists a variable, with what it lists TIED to the program's text (the seventh form; the later family's looks); each row that meets fmt, with fmt's text TOLD by the authors' own Lean function (tested against real Go, not proved from fmt's source: count such statements apart). THE CARD IS WHAT COUNTS. Prove the row's statement (the work); the ties are given (YtdlfhldboagbeaaGreatDoorTie.lean); close each card by the builder's one call (the guide's Derived/Test/ToyasCard.lean, 'card_holds'). Laid BY PROGRAM, IN A SANDBOX (cutbox-door.mjs). By AI agents, Wed Nov 11 2026. No macro, syntax, notation, axiom, sorry.
-/
import Derived.Test.YtdlfhldboagbeaaGreatDoorRows
import GoSem.ClaimSeven
namespace Go.Proofs.YtdlfhldboagbeaaGreatDoor
namespace Rows

/-- THE TIED CARD OF 'lychwaylaw.FormChecks'. -/
def formChecksCard : Claim7 := { stood := { row := formChecksRow, standIns := [], harness := (true, "ff5b94c29dd75854d1af953921bf2bee20dbe9c67f3747fbcdc6bb0a2705bc95"), looks := false }, kinds := [], alts := [], laidByText := true, laidKinds := [.data], laidTests := true, laidLooks := .later }
def FormChecksCardSaid : Prop := Claim7.holds Tryz.pinned (.plain (OpenSpec.ofChange formChecksSpec)) formChecksCard

/-- THE TIED CARD OF 'lychwaylaw.FormTells'. -/
def formTellsCard : Claim7 := { stood := { row := formTellsRow, standIns := [], harness := (true, "ff5b94c29dd75854d1af953921bf2bee20dbe9c67f3747fbcdc6bb0a2705bc95"), looks := false }, kinds := [], alts := [], laidByText := true, laidKinds := [.data], laidTests := true, laidLooks := .later }
def FormTellsCardSaid : Prop := Claim7.holds Tryz.pinned (.plain (OpenSpec.ofChange formTellsSpec)) formTellsCard

/-- THE TIED CARD OF 'lychwaykeep.FormFree'. -/
def formFreeCard : Claim7 := { stood := { row := formFreeRow, standIns := [], harness := (true, "ff5b94c29dd75854d1af953921bf2bee20dbe9c67f3747fbcdc6bb0a2705bc95"), looks := false }, kinds := [], alts := [], laidByText := true, laidKinds := [.data], laidTests := true, laidLooks := .later }
def FormFreeCardSaid : Prop := Claim7.holds Tryz.pinned (.plain (OpenSpec.ofChange formFreeSpec)) formFreeCard

/-- THE SECOND FORM's CARD OF 'lychwaylaw.FormChecks'. -/
def formChecksUptoCard : Claim7 := { stood := { row := formChecksUptoRow, standIns := [], harness := (true, "ff5b94c29dd75854d1af953921bf2bee20dbe9c67f3747fbcdc6bb0a2705bc95"), looks := false }, kinds := [], alts := [], laidByText := true, laidKinds := [.data], laidTests := true, laidLooks := .later }
def FormChecksUptoCardSaid : Prop := Claim7.holds Tryz.pinned (.plain (OpenSpec.upto formChecksSpec)) formChecksUptoCard

/-- THE SECOND FORM's CARD OF 'lychwaylaw.FormTells'. -/
def formTellsUptoCard : Claim7 := { stood := { row := formTellsUptoRow, standIns := [], harness := (true, "ff5b94c29dd75854d1af953921bf2bee20dbe9c67f3747fbcdc6bb0a2705bc95"), looks := false }, kinds := [], alts := [], laidByText := true, laidKinds := [.data], laidTests := true, laidLooks := .later }
def FormTellsUptoCardSaid : Prop := Claim7.holds Tryz.pinned (.plain (OpenSpec.upto formTellsSpec)) formTellsUptoCard

/-- THE SECOND FORM's CARD OF 'lychwaykeep.FormFree'. -/
def formFreeUptoCard : Claim7 := { stood := { row := formFreeUptoRow, standIns := [], harness := (true, "ff5b94c29dd75854d1af953921bf2bee20dbe9c67f3747fbcdc6bb0a2705bc95"), looks := false }, kinds := [], alts := [], laidByText := true, laidKinds := [.data], laidTests := true, laidLooks := .later }
def FormFreeUptoCardSaid : Prop := Claim7.holds Tryz.pinned (.plain (OpenSpec.upto formFreeSpec)) formFreeUptoCard
end Rows
end Go.Proofs.YtdlfhldboagbeaaGreatDoor
