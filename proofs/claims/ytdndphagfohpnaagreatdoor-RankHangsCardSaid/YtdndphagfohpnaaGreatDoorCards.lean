/-
  DERIVED. GIVEN WITH THE SEED: THE CARDS: each row of YtdndphagfohpnaaGreatDoorRows.lean that lists a variable, with what it lists TIED to the program's text (the seventh form; the later family's looks); each row that meets fmt, with fmt's text TOLD by the authors' own Lean function (tested against real Go, not proved from fmt's source: count such statements apart). THE CARD IS WHAT COUNTS. Prove the row's statement (the work); the ties are given (YtdndphagfohpnaaGreatDoorTie.lean); close each card by the builder's one call (the guide's Derived/Test/ToyasCard.lean, 'card_holds'). Laid BY PROGRAM, IN A SANDBOX (cutbox-door.mjs). By AI agents, Wed Nov 11 2026. No macro, syntax, notation, axiom, sorry.
-/
import Derived.Test.YtdndphagfohpnaaGreatDoorRows
import GoSem.ClaimSeven
namespace Go.Proofs.YtdndphagfohpnaaGreatDoor
namespace Rows

/-- THE TIED CARD OF 'lychwaylaw.RankTells'. -/
def rankTellsCard : Claim7 := { stood := { row := rankTellsRow, standIns := [], harness := (true, "0a2fb0aeae9f543ae7f2fd1da402125f577ffeb103430b4eee2c0091bcbe98d0"), looks := false }, kinds := [], alts := [], laidByText := true, laidKinds := [.data], laidTests := true, laidLooks := .later }
def RankTellsCardSaid : Prop := Claim7.holds Tryz.pinned (.plain (OpenSpec.ofChange rankTellsSpec)) rankTellsCard

/-- THE TIED CARD OF 'lychwaylaw.RankOrders'. -/
def rankOrdersCard : Claim7 := { stood := { row := rankOrdersRow, standIns := [], harness := (true, "0a2fb0aeae9f543ae7f2fd1da402125f577ffeb103430b4eee2c0091bcbe98d0"), looks := false }, kinds := [], alts := [], laidByText := true, laidKinds := [.data], laidTests := true, laidLooks := .later }
def RankOrdersCardSaid : Prop := Claim7.holds Tryz.pinned (.plain (OpenSpec.ofChange rankOrdersSpec)) rankOrdersCard

/-- THE TIED CARD OF 'lychwaykeep.RankOrdered'. -/
def rankOrderedCard : Claim7 := { stood := { row := rankOrderedRow, standIns := [], harness := (true, "0a2fb0aeae9f543ae7f2fd1da402125f577ffeb103430b4eee2c0091bcbe98d0"), looks := false }, kinds := [], alts := [], laidByText := true, laidKinds := [.data], laidTests := true, laidLooks := .later }
def RankOrderedCardSaid : Prop := Claim7.holds Tryz.pinned (.plain (OpenSpec.ofChange rankOrderedSpec)) rankOrderedCard

/-- THE TIED CARD OF 'lychwaykeep.RankHangs'. -/
def rankHangsCard : Claim7 := { stood := { row := rankHangsRow, standIns := [], harness := (true, "0a2fb0aeae9f543ae7f2fd1da402125f577ffeb103430b4eee2c0091bcbe98d0"), looks := false }, kinds := [], alts := [], laidByText := true, laidKinds := [.data], laidTests := true, laidLooks := .later }
def RankHangsCardSaid : Prop := Claim7.holds Tryz.pinned (.plain (OpenSpec.ofChange rankHangsSpec)) rankHangsCard

/-- THE SECOND FORM's CARD OF 'lychwaylaw.RankTells'. -/
def rankTellsUptoCard : Claim7 := { stood := { row := rankTellsUptoRow, standIns := [], harness := (true, "0a2fb0aeae9f543ae7f2fd1da402125f577ffeb103430b4eee2c0091bcbe98d0"), looks := false }, kinds := [], alts := [], laidByText := true, laidKinds := [.data], laidTests := true, laidLooks := .later }
def RankTellsUptoCardSaid : Prop := Claim7.holds Tryz.pinned (.plain (OpenSpec.upto rankTellsSpec)) rankTellsUptoCard

/-- THE SECOND FORM's CARD OF 'lychwaylaw.RankOrders'. -/
def rankOrdersUptoCard : Claim7 := { stood := { row := rankOrdersUptoRow, standIns := [], harness := (true, "0a2fb0aeae9f543ae7f2fd1da402125f577ffeb103430b4eee2c0091bcbe98d0"), looks := false }, kinds := [], alts := [], laidByText := true, laidKinds := [.data], laidTests := true, laidLooks := .later }
def RankOrdersUptoCardSaid : Prop := Claim7.holds Tryz.pinned (.plain (OpenSpec.upto rankOrdersSpec)) rankOrdersUptoCard

/-- THE SECOND FORM's CARD OF 'lychwaykeep.RankOrdered'. -/
def rankOrderedUptoCard : Claim7 := { stood := { row := rankOrderedUptoRow, standIns := [], harness := (true, "0a2fb0aeae9f543ae7f2fd1da402125f577ffeb103430b4eee2c0091bcbe98d0"), looks := false }, kinds := [], alts := [], laidByText := true, laidKinds := [.data], laidTests := true, laidLooks := .later }
def RankOrderedUptoCardSaid : Prop := Claim7.holds Tryz.pinned (.plain (OpenSpec.upto rankOrderedSpec)) rankOrderedUptoCard

/-- THE SECOND FORM's CARD OF 'lychwaykeep.RankHangs'. -/
def rankHangsUptoCard : Claim7 := { stood := { row := rankHangsUptoRow, standIns := [], harness := (true, "0a2fb0aeae9f543ae7f2fd1da402125f577ffeb103430b4eee2c0091bcbe98d0"), looks := false }, kinds := [], alts := [], laidByText := true, laidKinds := [.data], laidTests := true, laidLooks := .later }
def RankHangsUptoCardSaid : Prop := Claim7.holds Tryz.pinned (.plain (OpenSpec.upto rankHangsSpec)) rankHangsUptoCard
end Rows
end Go.Proofs.YtdndphagfohpnaaGreatDoor
