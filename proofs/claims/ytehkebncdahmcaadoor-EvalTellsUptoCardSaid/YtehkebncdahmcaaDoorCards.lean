/-
  DERIVED. GIVEN WITH THE SEED: THE CARDS: each row of YtehkebncdahmcaaDoorRows.lean that lists a variable, with what it lists TIED to the program's text (the seventh form; the later family's looks); each row that meets fmt, with fmt's text TOLD by the authors' own Lean function (tested against real Go, not proved from fmt's source: count such statements apart). THE CARD IS WHAT COUNTS. Prove the row's statement (the work); the ties are given (YtehkebncdahmcaaDoorTie.lean); close each card by the builder's one call (the guide's Derived/Test/ToyasCard.lean, 'card_holds'). Laid BY PROGRAM, IN A SANDBOX (cutbox-door.mjs). By AI agents, Wed Nov 11 2026. No macro, syntax, notation, axiom, sorry.
-/
import Derived.Test.YtehkebncdahmcaaDoorRows
import GoSem.ClaimSeven
namespace Go.Proofs.YtehkebncdahmcaaDoor
namespace Rows

/-- THE TIED CARD OF 'lychwaylaw.EvalTells'. -/
def evalTellsCard : Claim7 := { stood := { row := evalTellsRow, standIns := [], harness := (true, "1895df816fd9a6cb1f08478fb35feaccc4e37cf4c571c150608ea7eb8f823bdf"), looks := false }, kinds := [], alts := [], laidByText := true, laidKinds := [.data], laidTests := true, laidLooks := .later }
def EvalTellsCardSaid : Prop := Claim7.holds Tryd.pinned (.plain (OpenSpec.ofChange evalTellsSpec)) evalTellsCard

/-- THE TIED CARD OF 'lychwaykeep.EvalPut'. -/
def evalPutCard : Claim7 := { stood := { row := evalPutRow, standIns := [], harness := (true, "1895df816fd9a6cb1f08478fb35feaccc4e37cf4c571c150608ea7eb8f823bdf"), looks := false }, kinds := [], alts := [], laidByText := true, laidKinds := [.data], laidTests := true, laidLooks := .later }
def EvalPutCardSaid : Prop := Claim7.holds Tryd.pinned (.plain (OpenSpec.ofChange evalPutSpec)) evalPutCard

/-- THE SECOND FORM's CARD OF 'lychwaylaw.EvalTells'. -/
def evalTellsUptoCard : Claim7 := { stood := { row := evalTellsUptoRow, standIns := [], harness := (true, "1895df816fd9a6cb1f08478fb35feaccc4e37cf4c571c150608ea7eb8f823bdf"), looks := false }, kinds := [], alts := [], laidByText := true, laidKinds := [.data], laidTests := true, laidLooks := .later }
def EvalTellsUptoCardSaid : Prop := Claim7.holds Tryd.pinned (.plain (OpenSpec.upto evalTellsSpec)) evalTellsUptoCard

/-- THE SECOND FORM's CARD OF 'lychwaykeep.EvalPut'. -/
def evalPutUptoCard : Claim7 := { stood := { row := evalPutUptoRow, standIns := [], harness := (true, "1895df816fd9a6cb1f08478fb35feaccc4e37cf4c571c150608ea7eb8f823bdf"), looks := false }, kinds := [], alts := [], laidByText := true, laidKinds := [.data], laidTests := true, laidLooks := .later }
def EvalPutUptoCardSaid : Prop := Claim7.holds Tryd.pinned (.plain (OpenSpec.upto evalPutSpec)) evalPutUptoCard
end Rows
end Go.Proofs.YtehkebncdahmcaaDoor
