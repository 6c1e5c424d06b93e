/-
  DERIVED. GIVEN WITH THE SEED: THE CARDS: each row of YtmelbldmpnepcaaDoorRows.lean that lists a variable, with what it lists TIED to the program's text (the seventh form; the later family's looks); each row that meets fmt, with fmt's text TOLD by the authors' own Lean function (tested against real Go, not proved from fmt's source: count such statements apart). THE CARD IS WHAT COUNTS. Prove the row's statement (the work); the ties are given (YtmelbldmpnepcaaDoorTie.lean); close each card by the builder's one call (the guide's Derived/Test/ToyasCard.lean, 'card_holds'). Laid BY PROGRAM, IN A SANDBOX (cutbox-door.mjs). By AI agents, Wed Nov 11 2026. No macro, syntax, notation, axiom, sorry.
-/
import Derived.Test.YtmelbldmpnepcaaDoorRows
import GoSem.ClaimSeven
namespace Go.Proofs.YtmelbldmpnepcaaDoor
namespace Rows

/-- THE TIED CARD OF 'lychwaylaw.FieldRights'. -/
def fieldRightsCard : Claim7 := { stood := { row := fieldRightsRow, standIns := [], harness := (true, "e5f1fae129acb53a89eb8152f9e1b06e4042fa1dd395eda2a77818f5e65aadf9"), looks := false }, kinds := [], alts := [], laidByText := true, laidKinds := [.data], laidTests := true, laidLooks := .later }
def FieldRightsCardSaid : Prop := Claim7.holds Tryd.pinned (.plain (OpenSpec.ofChange fieldRightsSpec)) fieldRightsCard

/-- THE TIED CARD OF 'lychwaylaw.FieldChecks'. -/
def fieldChecksCard : Claim7 := { stood := { row := fieldChecksRow, standIns := [], harness := (true, "e5f1fae129acb53a89eb8152f9e1b06e4042fa1dd395eda2a77818f5e65aadf9"), looks := false }, kinds := [], alts := [], laidByText := true, laidKinds := [.data], laidTests := true, laidLooks := .later }
def FieldChecksCardSaid : Prop := Claim7.holds Tryd.pinned (.plain (OpenSpec.ofChange fieldChecksSpec)) fieldChecksCard

/-- THE TIED CARD OF 'lychwaykeep.FieldTurned'. -/
def fieldTurnedCard : Claim7 := { stood := { row := fieldTurnedRow, standIns := [], harness := (true, "e5f1fae129acb53a89eb8152f9e1b06e4042fa1dd395eda2a77818f5e65aadf9"), looks := false }, kinds := [], alts := [], laidByText := true, laidKinds := [.data], laidTests := true, laidLooks := .later }
def FieldTurnedCardSaid : Prop := Claim7.holds Tryd.pinned (.plain (OpenSpec.ofChange fieldTurnedSpec)) fieldTurnedCard

/-- THE SECOND FORM's CARD OF 'lychwaylaw.FieldRights'. -/
def fieldRightsUptoCard : Claim7 := { stood := { row := fieldRightsUptoRow, standIns := [], harness := (true, "e5f1fae129acb53a89eb8152f9e1b06e4042fa1dd395eda2a77818f5e65aadf9"), looks := false }, kinds := [], alts := [], laidByText := true, laidKinds := [.data], laidTests := true, laidLooks := .later }
def FieldRightsUptoCardSaid : Prop := Claim7.holds Tryd.pinned (.plain (OpenSpec.upto fieldRightsSpec)) fieldRightsUptoCard

/-- THE SECOND FORM's CARD OF 'lychwaylaw.FieldChecks'. -/
def fieldChecksUptoCard : Claim7 := { stood := { row := fieldChecksUptoRow, standIns := [], harness := (true, "e5f1fae129acb53a89eb8152f9e1b06e4042fa1dd395eda2a77818f5e65aadf9"), looks := false }, kinds := [], alts := [], laidByText := true, laidKinds := [.data], laidTests := true, laidLooks := .later }
def FieldChecksUptoCardSaid : Prop := Claim7.holds Tryd.pinned (.plain (OpenSpec.upto fieldChecksSpec)) fieldChecksUptoCard

/-- THE SECOND FORM's CARD OF 'lychwaykeep.FieldTurned'. -/
def fieldTurnedUptoCard : Claim7 := { stood := { row := fieldTurnedUptoRow, standIns := [], harness := (true, "e5f1fae129acb53a89eb8152f9e1b06e4042fa1dd395eda2a77818f5e65aadf9"), looks := false }, kinds := [], alts := [], laidByText := true, laidKinds := [.data], laidTests := true, laidLooks := .later }
def FieldTurnedUptoCardSaid : Prop := Claim7.holds Tryd.pinned (.plain (OpenSpec.upto fieldTurnedSpec)) fieldTurnedUptoCard
end Rows
end Go.Proofs.YtmelbldmpnepcaaDoor
