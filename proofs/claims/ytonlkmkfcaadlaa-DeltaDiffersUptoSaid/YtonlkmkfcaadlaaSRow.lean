/- Rows of texts; the reference's holds; two rows of the same texts. -/
import Derived.Test.YtonlkmkfcaadlaaNmPut
import Derived.Laws.AppendOwnNone
import Derived.Deep.AppendLies
import Derived.Deep.RegionHeld3
import Derived.Deep.QuietTactic
import Derived.Deep.RegionWith
import Derived.Deep.RegionLaw
import Derived.Deep.DrawnRows
import Derived.BigQuiet
import Derived.Sort.EncStr
import Derived.RegionTactic
namespace Go.Proofs.Ytonlkmkfcaadlaa.NmA
open Go.RowKit
open ExM NmM Kit ExL ExP ExV NmC NmP NmR
set_option linter.unusedVariables false

def strV (L : List ByteArray) : List Value := L.map Value.string
theorem strV_len (L : List ByteArray) : (strV L).length = L.length := List.length_map _
theorem strV_append (L M : List ByteArray) : strV (L ++ M) = strV L ++ strV M := List.map_append
theorem strV_one {L : List ByteArray} : ∀ u ∈ strV L, u.oneCell' = true := fun u hu => by
  obtain ⟨s, _, rfl⟩ := List.mem_map.1 hu; rfl
theorem infoStr : (Try.prog.info? 9).map (fun i => (i.zero, i.size, i.bytes)) = some (some (.string ⟨#[]⟩), 1, 16) := by kernel_rfl
/-- A slice that holds these strings. -/
def SRow (w : World) (A : Option Addr) (L : List ByteArray) : Prop := ∀ (j : Nat) (h : j < L.length), ∃ g, A = some ⟨g, 0, none⟩ ∧ w.cell? ⟨g, j, none⟩ = some (.string L[j])
theorem SRow.of_own {w : World} {base : Nat} {v : Value} {L : List ByteArray} (h : w.ownsRow base 9 1 v L.length (strV L)) : ∃ A c, v = .slice A L.length c ∧ SRow w A L := by
  rcases h.2 with ⟨h1, h2⟩ | ⟨g, cap, cur, h1, _⟩
  · exact ⟨none, 0, by rw [h1, h2], fun j hj => by omega⟩
  · subst h1
    refine ⟨some ⟨g, 0, none⟩, cap, rfl, fun j hj => ⟨g, rfl, ?_⟩⟩
    rw [h.cellAt j (by omega), List.getElem?_eq_getElem (by rw [strV_len]; exact hj)]
    unfold strV; rw [List.getElem_map]
theorem hasB_take (L : List ByteArray) (s : ByteArray) (k : Nat) (h : k < L.length) : hasB (L.take (k + 1)) s = (hasB (L.take k) s || decide (L[k] = s)) := by
  rw [take_at L k h, hasB_append, hasB_cons, hasB_nil, Bool.or_false]
theorem hasB_of_take {L : List ByteArray} {s : ByteArray} {k : Nat} (h : hasB (L.take k) s = true) : hasB L s = true := hasB_prefix (List.take_prefix k L) h
end Go.Proofs.Ytonlkmkfcaadlaa.NmA
namespace Go.Proofs.Ytonlkmkfcaadlaa.NmT
open Go.RowKit
open ExM NmM Kit ExL ExP ExV NmC NmP NmR NmA
set_option linter.unusedVariables false

theorem SRow.below {w w' : World} {A : Option Addr} {L : List ByteArray} (h : SRow w A L) (hb : Below w.heap.size w w') : SRow w' A L := fun j hj => by
  obtain ⟨g, e, hc⟩ := h j hj
  exact ⟨g, e, (hb.cell (p := ⟨g, j, none⟩) (World.block_lt_of_cell? w _ hc)).trans hc⟩
set_option maxHeartbeats 1000000 in
theorem equal_any (w : World) (L : List ByteArray) (A1 A2 : Option Addr) (c1 c2 : Nat) (hl : L.length ≤ 1048576) (h1 : SRow w A1 L) (h2 : SRow w A2 L) :
    Calls Try.prog 7 #[.slice A1 L.length c1, .slice A2 L.length c2] w fun e w' => e = .returned (.bool true) ∧ ∃ m, w' = w.drewN m := by
  have H1 := Lib.hid h1
  have H2 := Lib.hid h2
  clear h1 h2
  go_enter Try.func7, Try.ntmps7
  go_wp2_with fail
  go_loopw [5, 13] (fun _ i wr => ∃ k m : Nat, k ≤ L.length ∧ i = .int .i64 k ∧ wr = w.drewN m) (fun _ i _ => L.length - (intOf i).toNat)
  case atStart => exact ⟨0, 0, by omega, rfl, rfl⟩
  case round =>
    obtain ⟨k, m, hk, rfl, rfl⟩ := hrel
    by_cases hlt : k < L.length
    · obtain ⟨g, rfl, y0⟩ := H1.out k hlt
      obtain ⟨g', rfl, z0⟩ := H2.out k hlt
      obtain ⟨t, ht⟩ : ∃ t, L[k] = t := ⟨_, rfl⟩
      rw [ht] at y0 z0
      clear ht
      go_wp2_with fail
      first
        | (go_quiet (fail); go_wp2_with fail)
        | skip
      go_roundw
      case rel => exact ⟨k + 1, _, by omega, by go_num, rfl⟩
      case measure => simp [intOf]; omega
    · go_wp2_with fail
      go_ret
      exact ⟨rfl, _, rfl⟩
theorem same_any (w : World) (L : List ByteArray) (A1 A2 : Option Addr) (c1 c2 : Nat) (hl : L.length ≤ 1048576) (h1 : SRow w A1 L) (h2 : SRow w A2 L) :
    Calls Try.prog 6 #[.slice A1 L.length c1, .slice A2 L.length c2] w fun e w' => e = .returned (.bool true) ∧ ∃ m, w' = w.drewN m := by
  have c := equal_any w L A1 A2 c1 c2 hl h1 h2
  have C := Lib.hid c
  clear c h1 h2
  go_enter Try.func6, Try.ntmps6
  go_wp2_with fail
  refine C.out.mono ?_; rintro e w1 ⟨rfl, m, rfl⟩
  go_wp2_with fail
  go_ret
  exact ⟨rfl, _, rfl⟩
end Go.Proofs.Ytonlkmkfcaadlaa.NmT
