/-
  DERIVED. GIVEN WITH THE SEED: THE CARDS: each row of YtjkeafeipkjdaaaDoorRows.lean that lists a variable, with what it lists TIED to the program's text (the seventh form; the later family's looks); each row that meets fmt, with fmt's text TOLD by the authors' own Lean function (tested against real Go, not proved from fmt's source: count such statements apart). THE CARD IS WHAT COUNTS. Prove the row's statement (the work); the ties are given (YtjkeafeipkjdaaaDoorTie.lean); close each card by the builder's one call (the guide's Derived/Test/ToyasCard.lean, 'card_holds'). Laid BY PROGRAM, IN A SANDBOX (cutbox-door.mjs). By AI agents, Wed Nov 11 2026. No macro, syntax, notation, axiom, sorry.
-/
import Derived.Test.YtjkeafeipkjdaaaDoorRows
import GoSem.ClaimSeven
namespace Go.Proofs.YtjkeafeipkjdaaaDoor
namespace Rows

/-- THE TIED CARD OF 'lychwaylaw.TypingTells'. -/
def typingTellsCard : Claim7 := { stood := { row := typingTellsRow, standIns := [], harness := (true, "d2311ff168048ed70af53b3e679d2f9d22ebf15cdeb8e10b114889f6a41fcbdf"), looks := false }, kinds := [], alts := [], laidByText := true, laidKinds := [.data], laidTests := true, laidLooks := .later }
def TypingTellsCardSaid : Prop := Claim7.holds Tryd.pinned (.plain (OpenSpec.ofChange typingTellsSpec)) typingTellsCard

/-- THE TIED CARD OF 'lychwaykeep.TypingMade'. -/
def typingMadeCard : Claim7 := { stood := { row := typingMadeRow, standIns := [], harness := (true, "d2311ff168048ed70af53b3e679d2f9d22ebf15cdeb8e10b114889f6a41fcbdf"), looks := false }, kinds := [], alts := [], laidByText := true, laidKinds := [.data], laidTests := true, laidLooks := .later }
def TypingMadeCardSaid : Prop := Claim7.holds Tryd.pinned (.plain (OpenSpec.ofChange typingMadeSpec)) typingMadeCard

/-- THE TIED CARD OF 'lychwaykeep.TypingOne'. -/
def typingOneCard : Claim7 := { stood := { row := typingOneRow, standIns := [], harness := (true, "d2311ff168048ed70af53b3e679d2f9d22ebf15cdeb8e10b114889f6a41fcbdf"), looks := false }, kinds := [], alts := [], laidByText := true, laidKinds := [.data], laidTests := true, laidLooks := .later }
def TypingOneCardSaid : Prop := Claim7.holds Tryd.pinned (.plain (OpenSpec.ofChange typingOneSpec)) typingOneCard

/-- THE SECOND FORM's CARD OF 'lychwaylaw.TypingTells'. -/
def typingTellsUptoCard : Claim7 := { stood := { row := typingTellsUptoRow, standIns := [], harness := (true, "d2311ff168048ed70af53b3e679d2f9d22ebf15cdeb8e10b114889f6a41fcbdf"), looks := false }, kinds := [], alts := [], laidByText := true, laidKinds := [.data], laidTests := true, laidLooks := .later }
def TypingTellsUptoCardSaid : Prop := Claim7.holds Tryd.pinned (.plain (OpenSpec.upto typingTellsSpec)) typingTellsUptoCard

/-- THE SECOND FORM's CARD OF 'lychwaykeep.TypingMade'. -/
def typingMadeUptoCard : Claim7 := { stood := { row := typingMadeUptoRow, standIns := [], harness := (true, "d2311ff168048ed70af53b3e679d2f9d22ebf15cdeb8e10b114889f6a41fcbdf"), looks := false }, kinds := [], alts := [], laidByText := true, laidKinds := [.data], laidTests := true, laidLooks := .later }
def TypingMadeUptoCardSaid : Prop := Claim7.holds Tryd.pinned (.plain (OpenSpec.upto typingMadeSpec)) typingMadeUptoCard

/-- THE SECOND FORM's CARD OF 'lychwaykeep.TypingOne'. -/
def typingOneUptoCard : Claim7 := { stood := { row := typingOneUptoRow, standIns := [], harness := (true, "d2311ff168048ed70af53b3e679d2f9d22ebf15cdeb8e10b114889f6a41fcbdf"), looks := false }, kinds := [], alts := [], laidByText := true, laidKinds := [.data], laidTests := true, laidLooks := .later }
def TypingOneUptoCardSaid : Prop := Claim7.holds Tryd.pinned (.plain (OpenSpec.upto typingOneSpec)) typingOneUptoCard
end Rows
end Go.Proofs.YtjkeafeipkjdaaaDoor
