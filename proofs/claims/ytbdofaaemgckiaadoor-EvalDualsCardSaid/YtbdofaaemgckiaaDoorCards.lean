/-
  DERIVED. GIVEN WITH THE SEED: THE CARDS: each row of YtbdofaaemgckiaaDoorRows.lean that lists a variable, with what it lists TIED to the program's text (the seventh form; the later family's looks); each row that meets fmt, with fmt's text TOLD by the authors' own Lean function (tested against real Go, not proved from fmt's source: count such statements apart). THE CARD IS WHAT COUNTS. Prove the row's statement (the work); the ties are given (YtbdofaaemgckiaaDoorTie.lean); close each card by the builder's one call (the guide's Derived/Test/ToyasCard.lean, 'card_holds'). Laid BY PROGRAM, IN A SANDBOX (cutbox-door.mjs). By AI agents, Wed Nov 11 2026. No macro, syntax, notation, axiom, sorry.
-/
import Derived.Test.YtbdofaaemgckiaaDoorRows
import GoSem.ClaimSeven
namespace Go.Proofs.YtbdofaaemgckiaaDoor
namespace Rows

/-- THE TIED CARD OF 'lychwaylaw.EvalTells'. -/
def evalTellsCard : Claim7 := { stood := { row := evalTellsRow, standIns := [], harness := (true, "e7e778849e5474a99cfe14a85150a9c1848083beaff400444cc53060f832e11e"), looks := false }, kinds := [], alts := [], laidByText := true, laidKinds := [.data], laidTests := true, laidLooks := .later }
def EvalTellsCardSaid : Prop := Claim7.holds Tryd.pinned (.plain (OpenSpec.ofChange evalTellsSpec)) evalTellsCard

/-- THE TIED CARD OF 'lychwaykeep.TypingSound'. -/
def typingSoundCard : Claim7 := { stood := { row := typingSoundRow, standIns := [], harness := (true, "e7e778849e5474a99cfe14a85150a9c1848083beaff400444cc53060f832e11e"), looks := false }, kinds := [], alts := [], laidByText := true, laidKinds := [.data], laidTests := true, laidLooks := .later }
def TypingSoundCardSaid : Prop := Claim7.holds Tryd.pinned (.plain (OpenSpec.ofChange typingSoundSpec)) typingSoundCard

/-- THE TIED CARD OF 'lychwaykeep.EvalPut'. -/
def evalPutCard : Claim7 := { stood := { row := evalPutRow, standIns := [], harness := (true, "e7e778849e5474a99cfe14a85150a9c1848083beaff400444cc53060f832e11e"), looks := false }, kinds := [], alts := [], laidByText := true, laidKinds := [.data], laidTests := true, laidLooks := .later }
def EvalPutCardSaid : Prop := Claim7.holds Tryd.pinned (.plain (OpenSpec.ofChange evalPutSpec)) evalPutCard

/-- THE TIED CARD OF 'lychwaykeep.EvalLocal'. -/
def evalLocalCard : Claim7 := { stood := { row := evalLocalRow, standIns := [], harness := (true, "e7e778849e5474a99cfe14a85150a9c1848083beaff400444cc53060f832e11e"), looks := false }, kinds := [], alts := [], laidByText := true, laidKinds := [.data], laidTests := true, laidLooks := .later }
def EvalLocalCardSaid : Prop := Claim7.holds Tryd.pinned (.plain (OpenSpec.ofChange evalLocalSpec)) evalLocalCard

/-- THE TIED CARD OF 'lychwaykeep.EvalGrows'. -/
def evalGrowsCard : Claim7 := { stood := { row := evalGrowsRow, standIns := [], harness := (true, "e7e778849e5474a99cfe14a85150a9c1848083beaff400444cc53060f832e11e"), looks := false }, kinds := [], alts := [], laidByText := true, laidKinds := [.data], laidTests := true, laidLooks := .later }
def EvalGrowsCardSaid : Prop := Claim7.holds Tryd.pinned (.plain (OpenSpec.ofChange evalGrowsSpec)) evalGrowsCard

/-- THE TIED CARD OF 'lychwaykeep.EvalLazy'. -/
def evalLazyCard : Claim7 := { stood := { row := evalLazyRow, standIns := [], harness := (true, "e7e778849e5474a99cfe14a85150a9c1848083beaff400444cc53060f832e11e"), looks := false }, kinds := [], alts := [], laidByText := true, laidKinds := [.data], laidTests := true, laidLooks := .later }
def EvalLazyCardSaid : Prop := Claim7.holds Tryd.pinned (.plain (OpenSpec.ofChange evalLazySpec)) evalLazyCard

/-- THE TIED CARD OF 'lychwaykeep.EvalDuals'. -/
def evalDualsCard : Claim7 := { stood := { row := evalDualsRow, standIns := [], harness := (true, "e7e778849e5474a99cfe14a85150a9c1848083beaff400444cc53060f832e11e"), looks := false }, kinds := [], alts := [], laidByText := true, laidKinds := [.data], laidTests := true, laidLooks := .later }
def EvalDualsCardSaid : Prop := Claim7.holds Tryd.pinned (.plain (OpenSpec.ofChange evalDualsSpec)) evalDualsCard

/-- THE TIED CARD OF 'lychwaykeep.EvalFirst'. -/
def evalFirstCard : Claim7 := { stood := { row := evalFirstRow, standIns := [], harness := (true, "e7e778849e5474a99cfe14a85150a9c1848083beaff400444cc53060f832e11e"), looks := false }, kinds := [], alts := [], laidByText := true, laidKinds := [.data], laidTests := true, laidLooks := .later }
def EvalFirstCardSaid : Prop := Claim7.holds Tryd.pinned (.plain (OpenSpec.ofChange evalFirstSpec)) evalFirstCard

/-- THE SECOND FORM's CARD OF 'lychwaylaw.EvalTells'. -/
def evalTellsUptoCard : Claim7 := { stood := { row := evalTellsUptoRow, standIns := [], harness := (true, "e7e778849e5474a99cfe14a85150a9c1848083beaff400444cc53060f832e11e"), looks := false }, kinds := [], alts := [], laidByText := true, laidKinds := [.data], laidTests := true, laidLooks := .later }
def EvalTellsUptoCardSaid : Prop := Claim7.holds Tryd.pinned (.plain (OpenSpec.upto evalTellsSpec)) evalTellsUptoCard

/-- THE SECOND FORM's CARD OF 'lychwaykeep.TypingSound'. -/
def typingSoundUptoCard : Claim7 := { stood := { row := typingSoundUptoRow, standIns := [], harness := (true, "e7e778849e5474a99cfe14a85150a9c1848083beaff400444cc53060f832e11e"), looks := false }, kinds := [], alts := [], laidByText := true, laidKinds := [.data], laidTests := true, laidLooks := .later }
def TypingSoundUptoCardSaid : Prop := Claim7.holds Tryd.pinned (.plain (OpenSpec.upto typingSoundSpec)) typingSoundUptoCard

/-- THE SECOND FORM's CARD OF 'lychwaykeep.EvalPut'. -/
def evalPutUptoCard : Claim7 := { stood := { row := evalPutUptoRow, standIns := [], harness := (true, "e7e778849e5474a99cfe14a85150a9c1848083beaff400444cc53060f832e11e"), looks := false }, kinds := [], alts := [], laidByText := true, laidKinds := [.data], laidTests := true, laidLooks := .later }
def EvalPutUptoCardSaid : Prop := Claim7.holds Tryd.pinned (.plain (OpenSpec.upto evalPutSpec)) evalPutUptoCard

/-- THE SECOND FORM's CARD OF 'lychwaykeep.EvalLocal'. -/
def evalLocalUptoCard : Claim7 := { stood := { row := evalLocalUptoRow, standIns := [], harness := (true, "e7e778849e5474a99cfe14a85150a9c1848083beaff400444cc53060f832e11e"), looks := false }, kinds := [], alts := [], laidByText := true, laidKinds := [.data], laidTests := true, laidLooks := .later }
def EvalLocalUptoCardSaid : Prop := Claim7.holds Tryd.pinned (.plain (OpenSpec.upto evalLocalSpec)) evalLocalUptoCard

/-- THE SECOND FORM's CARD OF 'lychwaykeep.EvalGrows'. -/
def evalGrowsUptoCard : Claim7 := { stood := { row := evalGrowsUptoRow, standIns := [], harness := (true, "e7e778849e5474a99cfe14a85150a9c1848083beaff400444cc53060f832e11e"), looks := false }, kinds := [], alts := [], laidByText := true, laidKinds := [.data], laidTests := true, laidLooks := .later }
def EvalGrowsUptoCardSaid : Prop := Claim7.holds Tryd.pinned (.plain (OpenSpec.upto evalGrowsSpec)) evalGrowsUptoCard

/-- THE SECOND FORM's CARD OF 'lychwaykeep.EvalLazy'. -/
def evalLazyUptoCard : Claim7 := { stood := { row := evalLazyUptoRow, standIns := [], harness := (true, "e7e778849e5474a99cfe14a85150a9c1848083beaff400444cc53060f832e11e"), looks := false }, kinds := [], alts := [], laidByText := true, laidKinds := [.data], laidTests := true, laidLooks := .later }
def EvalLazyUptoCardSaid : Prop := Claim7.holds Tryd.pinned (.plain (OpenSpec.upto evalLazySpec)) evalLazyUptoCard

/-- THE SECOND FORM's CARD OF 'lychwaykeep.EvalDuals'. -/
def evalDualsUptoCard : Claim7 := { stood := { row := evalDualsUptoRow, standIns := [], harness := (true, "e7e778849e5474a99cfe14a85150a9c1848083beaff400444cc53060f832e11e"), looks := false }, kinds := [], alts := [], laidByText := true, laidKinds := [.data], laidTests := true, laidLooks := .later }
def EvalDualsUptoCardSaid : Prop := Claim7.holds Tryd.pinned (.plain (OpenSpec.upto evalDualsSpec)) evalDualsUptoCard

/-- THE SECOND FORM's CARD OF 'lychwaykeep.EvalFirst'. -/
def evalFirstUptoCard : Claim7 := { stood := { row := evalFirstUptoRow, standIns := [], harness := (true, "e7e778849e5474a99cfe14a85150a9c1848083beaff400444cc53060f832e11e"), looks := false }, kinds := [], alts := [], laidByText := true, laidKinds := [.data], laidTests := true, laidLooks := .later }
def EvalFirstUptoCardSaid : Prop := Claim7.holds Tryd.pinned (.plain (OpenSpec.upto evalFirstSpec)) evalFirstUptoCard
end Rows
end Go.Proofs.YtbdofaaemgckiaaDoor
