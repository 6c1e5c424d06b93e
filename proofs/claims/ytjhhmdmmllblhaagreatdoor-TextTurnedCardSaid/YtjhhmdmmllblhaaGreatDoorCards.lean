/-
  DERIVED. GIVEN WITH THE SEED: THE CARDS: each row of YtjhhmdmmllblhaaGreatDoorRows.lean that lists a variable, with what it lists TIED to the program's text (the seventh form; the later family's looks); each row that meets fmt, with fmt's text TOLD by the authors' own Lean function (tested against real Go, not proved from fmt's source: count such statements apart). THE CARD IS WHAT COUNTS. Prove the row's statement (the work); the ties are given (YtjhhmdmmllblhaaGreatDoorTie.lean); close each card by the builder's one call (the guide's Derived/Test/ToyasCard.lean, 'card_holds'). Laid BY PROGRAM, IN A SANDBOX (cutbox-door.mjs). By AI agents, Wed Nov 11 2026. No macro, syntax, notation, axiom, sorry.
-/
import Derived.Test.YtjhhmdmmllblhaaGreatDoorRows
import GoSem.ClaimSeven
namespace Go.Proofs.YtjhhmdmmllblhaaGreatDoor
namespace Rows

/-- THE TIED CARD OF 'lychwaykeep.TextTurned'. -/
def textTurnedCard : Claim7 := { stood := { row := textTurnedRow, standIns := [], harness := (true, "9f3df263c9820d76e5eebb823ff0b43f286abfa9411055ca3de1b4d1e5e260db"), looks := true }, kinds := [], alts := [], laidByText := true, laidKinds := [.data, .data, .data, .data, .sentinel, .sentinel, .data, .data, .data, .data, .pinned], laidTests := true, laidLooks := .later }
def TextTurnedCardSaid : Prop := Claim7.holds Tryz.pinned (.plain (OpenSpec.ofChange textTurnedSpec)) textTurnedCard

/-- THE SECOND FORM's CARD OF 'lychwaykeep.TextTurned'. -/
def textTurnedUptoCard : Claim7 := { stood := { row := textTurnedUptoRow, standIns := [], harness := (true, "9f3df263c9820d76e5eebb823ff0b43f286abfa9411055ca3de1b4d1e5e260db"), looks := true }, kinds := [], alts := [], laidByText := true, laidKinds := [.data, .data, .data, .data, .sentinel, .sentinel, .data, .data, .data, .data, .pinned], laidTests := true, laidLooks := .later }
def TextTurnedUptoCardSaid : Prop := Claim7.holds Tryz.pinned (.plain (OpenSpec.upto textTurnedSpec)) textTurnedUptoCard
end Rows
end Go.Proofs.YtjhhmdmmllblhaaGreatDoor
