/-
  DERIVED. GIVEN WITH THE SEED: THE CARDS: each row of YtdndphagfohpnaaDoorRows.lean that lists a variable, with what it lists TIED to the program's text (the seventh form; the later family's looks); each row that meets fmt, with fmt's text TOLD by the authors' own Lean function (tested against real Go, not proved from fmt's source: count such statements apart). THE CARD IS WHAT COUNTS. Prove the row's statement (the work); the ties are given (YtdndphagfohpnaaDoorTie.lean); close each card by the builder's one call (the guide's Derived/Test/ToyasCard.lean, 'card_holds'). Laid BY PROGRAM, IN A SANDBOX (cutbox-door.mjs). By AI agents, Wed Nov 11 2026. No macro, syntax, notation, axiom, sorry.
-/
import Derived.Test.YtdndphagfohpnaaDoorRows
import GoSem.ClaimSeven
namespace Go.Proofs.YtdndphagfohpnaaDoor
namespace Rows

/-- THE TIED CARD OF 'lychwaykeep.FieldTurned'. -/
def fieldTurnedCard : Claim7 := { stood := { row := fieldTurnedRow, standIns := [], harness := (true, "30ed86a35aef7f2b7b86e44c87657eee70b397213ee416dc71cb93ee7c55c37e"), looks := false }, kinds := [], alts := [], laidByText := true, laidKinds := [.data], laidTests := true, laidLooks := .later }
def FieldTurnedCardSaid : Prop := Claim7.holds Tryd.pinned (.plain (OpenSpec.ofChange fieldTurnedSpec)) fieldTurnedCard

/-- THE TIED CARD OF 'lychwaykeep.RankRises'. -/
def rankRisesCard : Claim7 := { stood := { row := rankRisesRow, standIns := [], harness := (true, "30ed86a35aef7f2b7b86e44c87657eee70b397213ee416dc71cb93ee7c55c37e"), looks := false }, kinds := [], alts := [], laidByText := true, laidKinds := [.data], laidTests := true, laidLooks := .later }
def RankRisesCardSaid : Prop := Claim7.holds Tryd.pinned (.plain (OpenSpec.ofChange rankRisesSpec)) rankRisesCard

/-- THE TIED CARD OF 'lychwaykeep.RankCycles'. -/
def rankCyclesCard : Claim7 := { stood := { row := rankCyclesRow, standIns := [], harness := (true, "30ed86a35aef7f2b7b86e44c87657eee70b397213ee416dc71cb93ee7c55c37e"), looks := false }, kinds := [], alts := [], laidByText := true, laidKinds := [.data], laidTests := true, laidLooks := .later }
def RankCyclesCardSaid : Prop := Claim7.holds Tryd.pinned (.plain (OpenSpec.ofChange rankCyclesSpec)) rankCyclesCard

/-- THE TIED CARD OF 'lychwaykeep.RankFew'. -/
def rankFewCard : Claim7 := { stood := { row := rankFewRow, standIns := [], harness := (true, "30ed86a35aef7f2b7b86e44c87657eee70b397213ee416dc71cb93ee7c55c37e"), looks := false }, kinds := [], alts := [], laidByText := true, laidKinds := [.data], laidTests := true, laidLooks := .later }
def RankFewCardSaid : Prop := Claim7.holds Tryd.pinned (.plain (OpenSpec.ofChange rankFewSpec)) rankFewCard

/-- THE SECOND FORM's CARD OF 'lychwaykeep.FieldTurned'. -/
def fieldTurnedUptoCard : Claim7 := { stood := { row := fieldTurnedUptoRow, standIns := [], harness := (true, "30ed86a35aef7f2b7b86e44c87657eee70b397213ee416dc71cb93ee7c55c37e"), looks := false }, kinds := [], alts := [], laidByText := true, laidKinds := [.data], laidTests := true, laidLooks := .later }
def FieldTurnedUptoCardSaid : Prop := Claim7.holds Tryd.pinned (.plain (OpenSpec.upto fieldTurnedSpec)) fieldTurnedUptoCard

/-- THE SECOND FORM's CARD OF 'lychwaykeep.RankRises'. -/
def rankRisesUptoCard : Claim7 := { stood := { row := rankRisesUptoRow, standIns := [], harness := (true, "30ed86a35aef7f2b7b86e44c87657eee70b397213ee416dc71cb93ee7c55c37e"), looks := false }, kinds := [], alts := [], laidByText := true, laidKinds := [.data], laidTests := true, laidLooks := .later }
def RankRisesUptoCardSaid : Prop := Claim7.holds Tryd.pinned (.plain (OpenSpec.upto rankRisesSpec)) rankRisesUptoCard

/-- THE SECOND FORM's CARD OF 'lychwaykeep.RankCycles'. -/
def rankCyclesUptoCard : Claim7 := { stood := { row := rankCyclesUptoRow, standIns := [], harness := (true, "30ed86a35aef7f2b7b86e44c87657eee70b397213ee416dc71cb93ee7c55c37e"), looks := false }, kinds := [], alts := [], laidByText := true, laidKinds := [.data], laidTests := true, laidLooks := .later }
def RankCyclesUptoCardSaid : Prop := Claim7.holds Tryd.pinned (.plain (OpenSpec.upto rankCyclesSpec)) rankCyclesUptoCard

/-- THE SECOND FORM's CARD OF 'lychwaykeep.RankFew'. -/
def rankFewUptoCard : Claim7 := { stood := { row := rankFewUptoRow, standIns := [], harness := (true, "30ed86a35aef7f2b7b86e44c87657eee70b397213ee416dc71cb93ee7c55c37e"), looks := false }, kinds := [], alts := [], laidByText := true, laidKinds := [.data], laidTests := true, laidLooks := .later }
def RankFewUptoCardSaid : Prop := Claim7.holds Tryd.pinned (.plain (OpenSpec.upto rankFewSpec)) rankFewUptoCard
end Rows
end Go.Proofs.YtdndphagfohpnaaDoor
