/-
  DERIVED. GIVEN WITH THE SEED: THE CARDS: each row of YthgcmficmodhiaaDoorRows.lean that lists a variable, with what it lists TIED to the program's text (the seventh form; the later family's looks); each row that meets fmt, with fmt's text TOLD by the authors' own Lean function (tested against real Go, not proved from fmt's source: count such statements apart). THE CARD IS WHAT COUNTS. Prove the row's statement (the work); the ties are given (YthgcmficmodhiaaDoorTie.lean); close each card by the builder's one call (the guide's Derived/Test/ToyasCard.lean, 'card_holds'). Laid BY PROGRAM, IN A SANDBOX (cutbox-door.mjs). By AI agents, Wed Nov 11 2026. No macro, syntax, notation, axiom, sorry.
-/
import Derived.Test.YthgcmficmodhiaaDoorRows
import GoSem.ClaimSeven
namespace Go.Proofs.YthgcmficmodhiaaDoor
namespace Rows

/-- THE TIED CARD OF 'lychwaylaw.PageChecks'. -/
def pageChecksCard : Claim7 := { stood := { row := pageChecksRow, standIns := [], harness := (true, "dc20bf823b91e6631a276bb3415bdf6e5e95bd948c94a82f859c9f70a2a499c2"), looks := false }, kinds := [], alts := [], laidByText := true, laidKinds := [.data], laidTests := true, laidLooks := .later }
def PageChecksCardSaid : Prop := Claim7.holds Tryd.pinned (.plain (OpenSpec.ofChange pageChecksSpec)) pageChecksCard

/-- THE TIED CARD OF 'lychwaykeep.PageOnce'. -/
def pageOnceCard : Claim7 := { stood := { row := pageOnceRow, standIns := [], harness := (true, "dc20bf823b91e6631a276bb3415bdf6e5e95bd948c94a82f859c9f70a2a499c2"), looks := false }, kinds := [], alts := [], laidByText := true, laidKinds := [.data], laidTests := true, laidLooks := .later }
def PageOnceCardSaid : Prop := Claim7.holds Tryd.pinned (.plain (OpenSpec.ofChange pageOnceSpec)) pageOnceCard

/-- THE SECOND FORM's CARD OF 'lychwaylaw.PageChecks'. -/
def pageChecksUptoCard : Claim7 := { stood := { row := pageChecksUptoRow, standIns := [], harness := (true, "dc20bf823b91e6631a276bb3415bdf6e5e95bd948c94a82f859c9f70a2a499c2"), looks := false }, kinds := [], alts := [], laidByText := true, laidKinds := [.data], laidTests := true, laidLooks := .later }
def PageChecksUptoCardSaid : Prop := Claim7.holds Tryd.pinned (.plain (OpenSpec.upto pageChecksSpec)) pageChecksUptoCard

/-- THE SECOND FORM's CARD OF 'lychwaykeep.PageOnce'. -/
def pageOnceUptoCard : Claim7 := { stood := { row := pageOnceUptoRow, standIns := [], harness := (true, "dc20bf823b91e6631a276bb3415bdf6e5e95bd948c94a82f859c9f70a2a499c2"), looks := false }, kinds := [], alts := [], laidByText := true, laidKinds := [.data], laidTests := true, laidLooks := .later }
def PageOnceUptoCardSaid : Prop := Claim7.holds Tryd.pinned (.plain (OpenSpec.upto pageOnceSpec)) pageOnceUptoCard
end Rows
end Go.Proofs.YthgcmficmodhiaaDoor
