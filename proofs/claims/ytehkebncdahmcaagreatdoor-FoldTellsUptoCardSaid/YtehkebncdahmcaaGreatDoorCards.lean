/-
  DERIVED. GIVEN WITH THE SEED: THE CARDS: each row of YtehkebncdahmcaaGreatDoorRows.lean that lists a variable, with what it lists TIED to the program's text (the seventh form; the later family's looks); each row that meets fmt, with fmt's text TOLD by the authors' own Lean function (tested against real Go, not proved from fmt's source: count such statements apart). THE CARD IS WHAT COUNTS. Prove the row's statement (the work); the ties are given (YtehkebncdahmcaaGreatDoorTie.lean); close each card by the builder's one call (the guide's Derived/Test/ToyasCard.lean, 'card_holds'). Laid BY PROGRAM, IN A SANDBOX (cutbox-door.mjs). By AI agents, Wed Nov 11 2026. No macro, syntax, notation, axiom, sorry.
-/
import Derived.Test.YtehkebncdahmcaaGreatDoorRows
import GoSem.ClaimSeven
namespace Go.Proofs.YtehkebncdahmcaaGreatDoor
namespace Rows

/-- THE TIED CARD OF 'lychwaylaw.FoldTells'. -/
def foldTellsCard : Claim7 := { stood := { row := foldTellsRow, standIns := [], harness := (true, "ae40beb460a2ed87241e57f8ebfdcc3168592c69536a1755b1ac59dfa71bbbdb"), looks := false }, kinds := [], alts := [], laidByText := true, laidKinds := [.data], laidTests := true, laidLooks := .later }
def FoldTellsCardSaid : Prop := Claim7.holds Tryz.pinned (.plain (OpenSpec.ofChange foldTellsSpec)) foldTellsCard

/-- THE TIED CARD OF 'lychwaykeep.FoldSame'. -/
def foldSameCard : Claim7 := { stood := { row := foldSameRow, standIns := [], harness := (true, "ae40beb460a2ed87241e57f8ebfdcc3168592c69536a1755b1ac59dfa71bbbdb"), looks := false }, kinds := [], alts := [], laidByText := true, laidKinds := [.data], laidTests := true, laidLooks := .later }
def FoldSameCardSaid : Prop := Claim7.holds Tryz.pinned (.plain (OpenSpec.ofChange foldSameSpec)) foldSameCard

/-- THE TIED CARD OF 'lychwaykeep.FoldLess'. -/
def foldLessCard : Claim7 := { stood := { row := foldLessRow, standIns := [], harness := (true, "ae40beb460a2ed87241e57f8ebfdcc3168592c69536a1755b1ac59dfa71bbbdb"), looks := false }, kinds := [], alts := [], laidByText := true, laidKinds := [.data], laidTests := true, laidLooks := .later }
def FoldLessCardSaid : Prop := Claim7.holds Tryz.pinned (.plain (OpenSpec.ofChange foldLessSpec)) foldLessCard

/-- THE TIED CARD OF 'lychwaykeep.FoldClosed'. -/
def foldClosedCard : Claim7 := { stood := { row := foldClosedRow, standIns := [], harness := (true, "ae40beb460a2ed87241e57f8ebfdcc3168592c69536a1755b1ac59dfa71bbbdb"), looks := false }, kinds := [], alts := [], laidByText := true, laidKinds := [.data], laidTests := true, laidLooks := .later }
def FoldClosedCardSaid : Prop := Claim7.holds Tryz.pinned (.plain (OpenSpec.ofChange foldClosedSpec)) foldClosedCard

/-- THE SECOND FORM's CARD OF 'lychwaylaw.FoldTells'. -/
def foldTellsUptoCard : Claim7 := { stood := { row := foldTellsUptoRow, standIns := [], harness := (true, "ae40beb460a2ed87241e57f8ebfdcc3168592c69536a1755b1ac59dfa71bbbdb"), looks := false }, kinds := [], alts := [], laidByText := true, laidKinds := [.data], laidTests := true, laidLooks := .later }
def FoldTellsUptoCardSaid : Prop := Claim7.holds Tryz.pinned (.plain (OpenSpec.upto foldTellsSpec)) foldTellsUptoCard

/-- THE SECOND FORM's CARD OF 'lychwaykeep.FoldSame'. -/
def foldSameUptoCard : Claim7 := { stood := { row := foldSameUptoRow, standIns := [], harness := (true, "ae40beb460a2ed87241e57f8ebfdcc3168592c69536a1755b1ac59dfa71bbbdb"), looks := false }, kinds := [], alts := [], laidByText := true, laidKinds := [.data], laidTests := true, laidLooks := .later }
def FoldSameUptoCardSaid : Prop := Claim7.holds Tryz.pinned (.plain (OpenSpec.upto foldSameSpec)) foldSameUptoCard

/-- THE SECOND FORM's CARD OF 'lychwaykeep.FoldLess'. -/
def foldLessUptoCard : Claim7 := { stood := { row := foldLessUptoRow, standIns := [], harness := (true, "ae40beb460a2ed87241e57f8ebfdcc3168592c69536a1755b1ac59dfa71bbbdb"), looks := false }, kinds := [], alts := [], laidByText := true, laidKinds := [.data], laidTests := true, laidLooks := .later }
def FoldLessUptoCardSaid : Prop := Claim7.holds Tryz.pinned (.plain (OpenSpec.upto foldLessSpec)) foldLessUptoCard

/-- THE SECOND FORM's CARD OF 'lychwaykeep.FoldClosed'. -/
def foldClosedUptoCard : Claim7 := { stood := { row := foldClosedUptoRow, standIns := [], harness := (true, "ae40beb460a2ed87241e57f8ebfdcc3168592c69536a1755b1ac59dfa71bbbdb"), looks := false }, kinds := [], alts := [], laidByText := true, laidKinds := [.data], laidTests := true, laidLooks := .later }
def FoldClosedUptoCardSaid : Prop := Claim7.holds Tryz.pinned (.plain (OpenSpec.upto foldClosedSpec)) foldClosedUptoCard
end Rows
end Go.Proofs.YtehkebncdahmcaaGreatDoor
