/-
  DERIVED. GIVEN WITH THE SEED: THE CARDS: each row of YtlceojdnmoekcaaDoorRows.lean that lists a variable, with what it lists TIED to the program's text (the seventh form; the later family's looks); each row that meets fmt, with fmt's text TOLD by the authors' own Lean function (tested against real Go, not proved from fmt's source: count such statements apart). THE CARD IS WHAT COUNTS. Prove the row's statement (the work); the ties are given (YtlceojdnmoekcaaDoorTie.lean); close each card by the builder's one call (the guide's Derived/Test/ToyasCard.lean, 'card_holds'). Laid BY PROGRAM, IN A SANDBOX (cutbox-door.mjs). By AI agents, Wed Nov 11 2026. No macro, syntax, notation, axiom, sorry.
-/
import Derived.Test.YtlceojdnmoekcaaDoorRows
import GoSem.ClaimSeven
namespace Go.Proofs.YtlceojdnmoekcaaDoor
namespace Rows

/-- THE TIED CARD OF 'lychwaylaw.NamesTells'. -/
def namesTellsCard : Claim7 := { stood := { row := namesTellsRow, standIns := [], harness := (true, "887a223315835e23b5a2630090f113ffe25d5ccc31492941d6ecbc9d83265101"), looks := false }, kinds := [], alts := [], laidByText := true, laidKinds := [.data], laidTests := true, laidLooks := .later }
def NamesTellsCardSaid : Prop := Claim7.holds Tryd.pinned (.plain (OpenSpec.ofChange namesTellsSpec)) namesTellsCard

/-- THE TIED CARD OF 'lychwaylaw.NamesPuts'. -/
def namesPutsCard : Claim7 := { stood := { row := namesPutsRow, standIns := [], harness := (true, "887a223315835e23b5a2630090f113ffe25d5ccc31492941d6ecbc9d83265101"), looks := false }, kinds := [], alts := [], laidByText := true, laidKinds := [.data], laidTests := true, laidLooks := .later }
def NamesPutsCardSaid : Prop := Claim7.holds Tryd.pinned (.plain (OpenSpec.ofChange namesPutsSpec)) namesPutsCard

/-- THE TIED CARD OF 'lychwaykeep.NamesPut'. -/
def namesPutCard : Claim7 := { stood := { row := namesPutRow, standIns := [], harness := (true, "887a223315835e23b5a2630090f113ffe25d5ccc31492941d6ecbc9d83265101"), looks := false }, kinds := [], alts := [], laidByText := true, laidKinds := [.data], laidTests := true, laidLooks := .later }
def NamesPutCardSaid : Prop := Claim7.holds Tryd.pinned (.plain (OpenSpec.ofChange namesPutSpec)) namesPutCard

/-- THE TIED CARD OF 'lychwaykeep.NamesAll'. -/
def namesAllCard : Claim7 := { stood := { row := namesAllRow, standIns := [], harness := (true, "887a223315835e23b5a2630090f113ffe25d5ccc31492941d6ecbc9d83265101"), looks := false }, kinds := [], alts := [], laidByText := true, laidKinds := [.data], laidTests := true, laidLooks := .later }
def NamesAllCardSaid : Prop := Claim7.holds Tryd.pinned (.plain (OpenSpec.ofChange namesAllSpec)) namesAllCard

/-- THE SECOND FORM's CARD OF 'lychwaylaw.NamesTells'. -/
def namesTellsUptoCard : Claim7 := { stood := { row := namesTellsUptoRow, standIns := [], harness := (true, "887a223315835e23b5a2630090f113ffe25d5ccc31492941d6ecbc9d83265101"), looks := false }, kinds := [], alts := [], laidByText := true, laidKinds := [.data], laidTests := true, laidLooks := .later }
def NamesTellsUptoCardSaid : Prop := Claim7.holds Tryd.pinned (.plain (OpenSpec.upto namesTellsSpec)) namesTellsUptoCard

/-- THE SECOND FORM's CARD OF 'lychwaylaw.NamesPuts'. -/
def namesPutsUptoCard : Claim7 := { stood := { row := namesPutsUptoRow, standIns := [], harness := (true, "887a223315835e23b5a2630090f113ffe25d5ccc31492941d6ecbc9d83265101"), looks := false }, kinds := [], alts := [], laidByText := true, laidKinds := [.data], laidTests := true, laidLooks := .later }
def NamesPutsUptoCardSaid : Prop := Claim7.holds Tryd.pinned (.plain (OpenSpec.upto namesPutsSpec)) namesPutsUptoCard

/-- THE SECOND FORM's CARD OF 'lychwaykeep.NamesPut'. -/
def namesPutUptoCard : Claim7 := { stood := { row := namesPutUptoRow, standIns := [], harness := (true, "887a223315835e23b5a2630090f113ffe25d5ccc31492941d6ecbc9d83265101"), looks := false }, kinds := [], alts := [], laidByText := true, laidKinds := [.data], laidTests := true, laidLooks := .later }
def NamesPutUptoCardSaid : Prop := Claim7.holds Tryd.pinned (.plain (OpenSpec.upto namesPutSpec)) namesPutUptoCard

/-- THE SECOND FORM's CARD OF 'lychwaykeep.NamesAll'. -/
def namesAllUptoCard : Claim7 := { stood := { row := namesAllUptoRow, standIns := [], harness := (true, "887a223315835e23b5a2630090f113ffe25d5ccc31492941d6ecbc9d83265101"), looks := false }, kinds := [], alts := [], laidByText := true, laidKinds := [.data], laidTests := true, laidLooks := .later }
def NamesAllUptoCardSaid : Prop := Claim7.holds Tryd.pinned (.plain (OpenSpec.upto namesAllSpec)) namesAllUptoCard
end Rows
end Go.Proofs.YtlceojdnmoekcaaDoor
