/- Rows of texts; the reference's holds; two rows of the same texts. -/
import Derived.Test.YtdlfhldboagbeaaNmPut
import Derived.Laws.AppendOwnNone
import Derived.Deep.AppendLies
import Derived.Deep.RegionHeld3
import Derived.Deep.QuietTactic
import Derived.Deep.RegionWith
import Derived.Deep.RegionLaw
import Derived.Deep.DrawnRows
import Derived.BigQuiet
import Derived.Sort.EncStr
import Derived.RegionTactic
namespace Go.Proofs.Ytdlfhldboagbeaa.NmA
open Go.RowKit
open ExM NmM Kit ExL ExP ExV NmC NmP NmR
set_option linter.unusedVariables false

def strV (L : List ByteArray) : List Value := L.map Value.string
theorem strV_len (L : List ByteArray) : (strV L).length = L.length := List.length_map _
theorem strV_append (L M : List ByteArray) : strV (L ++ M) = strV L ++ strV M := List.map_append
theorem strV_one {L : List ByteArray} : ∀ u ∈ strV L, u.oneCell' = true := fun u hu => by
  obtain ⟨s, _, rfl⟩ := List.mem_map.1 hu; rfl
theorem infoStr : (Try.prog.info? 9).map (fun i => (i.zero, i.size, i.bytes)) = some (some (.string ⟨#[]⟩), 1, 16) := by kernel_rfl
/-- A slice that holds these strings. -/
def SRow (w : World) (A : Option Addr) (L : List ByteArray) : Prop := ∀ (j : Nat) (h : j < L.length), ∃ g, A = some ⟨g, 0, none⟩ ∧ w.cell? ⟨g, j, none⟩ = some (.string L[j])
theorem SRow.of_own {w : World} {base : Nat} {v : Value} {L : List ByteArray} (h : w.ownsRow base 9 1 v L.length (strV L)) : ∃ A c, v = .slice A L.length c ∧ SRow w A L := by
  rcases h.2 with ⟨h1, h2⟩ | ⟨g, cap, cur, h1, _⟩
  · exact ⟨none, 0, by rw [h1, h2], fun j hj => by omega⟩
  · subst h1
    refine ⟨some ⟨g, 0, none⟩, cap, rfl, fun j hj => ⟨g, rfl, ?_⟩⟩
    rw [h.cellAt j (by omega), List.getElem?_eq_getElem (by rw [strV_len]; exact hj)]
    unfold strV; rw [List.getElem_map]
theorem hasB_take (L : List ByteArray) (s : ByteArray) (k : Nat) (h : k < L.length) : hasB (L.take (k + 1)) s = (hasB (L.take k) s || decide (L[k] = s)) := by
  rw [take_at L k h, hasB_append, hasB_cons, hasB_nil, Bool.or_false]
theorem hasB_of_take {L : List ByteArray} {s : ByteArray} {k : Nat} (h : hasB (L.take k) s = true) : hasB L s = true := hasB_prefix (List.take_prefix k L) h
end Go.Proofs.Ytdlfhldboagbeaa.NmA
namespace Go.Proofs.Ytdlfhldboagbeaa.NmT
open Go.RowKit
open ExM NmM Kit ExL ExP ExV NmC NmP NmR NmA
set_option linter.unusedVariables false

theorem SRow.below {w w' : World} {A : Option Addr} {L : List ByteArray} (h : SRow w A L) (hb : Below w.heap.size w w') : SRow w' A L := fun j hj => by
  obtain ⟨g, e, hc⟩ := h j hj
  exact ⟨g, e, (hb.cell (p := ⟨g, j, none⟩) (World.block_lt_of_cell? w _ hc)).trans hc⟩
end Go.Proofs.Ytdlfhldboagbeaa.NmT
