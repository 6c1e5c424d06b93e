/-
  DERIVED. GIVEN WITH THE SEED: THE CARDS: each row of YtmcggbloangpaaaDoorRows.lean that lists a variable, with what it lists TIED to the program's text (the seventh form; the later family's looks); each row that meets fmt, with fmt's text TOLD by the authors' own Lean function (tested against real Go, not proved from fmt's source: count such statements apart). THE CARD IS WHAT COUNTS. Prove the row's statement (the work); the ties are given (YtmcggbloangpaaaDoorTie.lean); close each card by the builder's one call (the guide's Derived/Test/ToyasCard.lean, 'card_holds'). Laid BY PROGRAM, IN A SANDBOX (cutbox-door.mjs). By AI agents, Wed Nov 11 2026. No macro, syntax, notation, axiom, sorry.
-/
import Derived.Test.YtmcggbloangpaaaDoorRows
import GoSem.ClaimSeven
namespace Go.Proofs.YtmcggbloangpaaaDoor
namespace Rows

/-- THE TIED CARD OF 'lychwaylaw.ExprChecks'. -/
def exprChecksCard : Claim7 := { stood := { row := exprChecksRow, standIns := [], harness := (true, "455443f2290804957c317fc423d910334d6ae5c113b5fd06c029889d9dfaeceb"), looks := false }, kinds := [], alts := [], laidByText := true, laidKinds := [.data], laidTests := true, laidLooks := .later }
def ExprChecksCardSaid : Prop := Claim7.holds Tryd.pinned (.plain (OpenSpec.ofChange exprChecksSpec)) exprChecksCard

/-- THE TIED CARD OF 'lychwaylaw.ExprPrints'. -/
def exprPrintsCard : Claim7 := { stood := { row := exprPrintsRow, standIns := [], harness := (true, "455443f2290804957c317fc423d910334d6ae5c113b5fd06c029889d9dfaeceb"), looks := false }, kinds := [], alts := [], laidByText := true, laidKinds := [.data, .data, .data, .data], laidTests := true, laidLooks := .later }
def ExprPrintsCardSaid : Prop := Claim7.holds Tryd.pinned (.plain (OpenSpec.ofChange exprPrintsSpec)) exprPrintsCard

/-- THE TIED CARD OF 'lychwaykeep.ExprSized'. -/
def exprSizedCard : Claim7 := { stood := { row := exprSizedRow, standIns := [], harness := (true, "455443f2290804957c317fc423d910334d6ae5c113b5fd06c029889d9dfaeceb"), looks := false }, kinds := [], alts := [], laidByText := true, laidKinds := [.data], laidTests := true, laidLooks := .later }
def ExprSizedCardSaid : Prop := Claim7.holds Tryd.pinned (.plain (OpenSpec.ofChange exprSizedSpec)) exprSizedCard

/-- THE SECOND FORM's CARD OF 'lychwaylaw.ExprChecks'. -/
def exprChecksUptoCard : Claim7 := { stood := { row := exprChecksUptoRow, standIns := [], harness := (true, "455443f2290804957c317fc423d910334d6ae5c113b5fd06c029889d9dfaeceb"), looks := false }, kinds := [], alts := [], laidByText := true, laidKinds := [.data], laidTests := true, laidLooks := .later }
def ExprChecksUptoCardSaid : Prop := Claim7.holds Tryd.pinned (.plain (OpenSpec.upto exprChecksSpec)) exprChecksUptoCard

/-- THE SECOND FORM's CARD OF 'lychwaylaw.ExprPrints'. -/
def exprPrintsUptoCard : Claim7 := { stood := { row := exprPrintsUptoRow, standIns := [], harness := (true, "455443f2290804957c317fc423d910334d6ae5c113b5fd06c029889d9dfaeceb"), looks := false }, kinds := [], alts := [], laidByText := true, laidKinds := [.data, .data, .data, .data], laidTests := true, laidLooks := .later }
def ExprPrintsUptoCardSaid : Prop := Claim7.holds Tryd.pinned (.plain (OpenSpec.upto exprPrintsSpec)) exprPrintsUptoCard

/-- THE SECOND FORM's CARD OF 'lychwaykeep.ExprSized'. -/
def exprSizedUptoCard : Claim7 := { stood := { row := exprSizedUptoRow, standIns := [], harness := (true, "455443f2290804957c317fc423d910334d6ae5c113b5fd06c029889d9dfaeceb"), looks := false }, kinds := [], alts := [], laidByText := true, laidKinds := [.data], laidTests := true, laidLooks := .later }
def ExprSizedUptoCardSaid : Prop := Claim7.holds Tryd.pinned (.plain (OpenSpec.upto exprSizedSpec)) exprSizedUptoCard
end Rows
end Go.Proofs.YtmcggbloangpaaaDoor
