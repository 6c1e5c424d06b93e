/- Package rank: the rank of a field above those it needs; rows of numbers in memory. -/
import Derived.Test.YthgcmficmodhiaaGreatDoorKit
import Derived.Test.YthgcmficmodhiaaGreatDoorRkMath
import Derived.Test.YthgcmficmodhiaaGreatDoorChecked
import Derived.Laws.OwnMore
import Derived.Laws.CopyOwn
import Derived.Lib.Hide
import Derived.Outline
import Derived.WalkSpells
import Derived.WalkLawsBesides
import Derived.IntWalk
import Derived.OwnWalk
import Derived.WalkKit
import Derived.ProofKit
namespace Go.Proofs.YthgcmficmodhiaaGreatDoor.RkA
open Go.RowKit
open Kit RkM
set_option linter.unusedVariables false

def iV (r : List Int) : List Value := r.map (Value.int .i64)
theorem iV_len (r : List Int) : (iV r).length = r.length := List.length_map _
def IRow (w : World) (A : Option Addr) (r : List Int) : Prop := ∀ (j : Nat) (h : j < r.length), ∃ g, A = some ⟨g, 0, none⟩ ∧ w.cell? ⟨g, j, none⟩ = some (.int .i64 (rk r j))
def NtRow (w : World) (A : Option Addr) (L : List Nat) : Prop := ∀ (j : Nat) (h : j < L.length), ∃ g, A = some ⟨g, 0, none⟩ ∧ w.cell? ⟨g, j, none⟩ = some (.int .i64 (L[j] : Int))
theorem rk_at (r : List Int) (j : Nat) (h : j < r.length) : rk r j = r[j] := by unfold rk; rw [List.getD_eq_getElem?_getD, List.getElem?_eq_getElem h]; rfl
theorem IRow.of_own {w : World} {base : Nat} {v : Value} {r : List Int} (h : w.ownsRow base 3 1 v r.length (iV r)) : ∃ A c, v = .slice A r.length c ∧ IRow w A r := by
  rcases h.2 with ⟨h1, h2⟩ | ⟨g, cap, cur, h1, _⟩
  · exact ⟨none, 0, by rw [h1, h2], fun j hj => by omega⟩
  · subst h1
    refine ⟨some ⟨g, 0, none⟩, cap, rfl, fun j hj => ⟨g, rfl, ?_⟩⟩
    rw [h.cellAt j (by omega), List.getElem?_eq_getElem (by rw [iV_len]; exact hj), rk_at r j hj]
    unfold iV; rw [List.getElem_map]
theorem IRow.below {w w' : World} {A : Option Addr} {r : List Int} (h : IRow w A r) (hb : Below w.heap.size w w') : IRow w' A r := fun j hj => by
  obtain ⟨g, e, hc⟩ := h j hj
  exact ⟨g, e, (hb.cell (p := ⟨g, j, none⟩) (World.block_lt_of_cell? w _ hc)).trans hc⟩
theorem NtRow.below {w w' : World} {A : Option Addr} {L : List Nat} (h : NtRow w A L) (hb : Below w.heap.size w w') : NtRow w' A L := fun j hj => by
  obtain ⟨g, e, hc⟩ := h j hj
  exact ⟨g, e, (hb.cell (p := ⟨g, j, none⟩) (World.block_lt_of_cell? w _ hc)).trans hc⟩
theorem above_at {r : List Int} {L : List Nat} {k : Nat} (h : k < L.length) (a : Int) : aboveI r (L.drop k) a = if rk r L[k] = -1 then -1 else aboveI r (L.drop (k + 1)) (max a (rk r L[k] + 1)) := by
  rw [List.drop_eq_getElem_cons h, aboveI]

set_option maxHeartbeats 2000000 in
theorem above_any (L : List Nat) (r : List Int) (A B : Option Addr) (c d : Nat) (w : World) (hn : L.length ≤ 1048576) (hA : NtRow w A L) (hB : IRow w B r) (hin : ∀ i ∈ L, i < r.length) (hr : r.length ≤ 1048576) (hbd : Bd r 1000000) :
    Calls Tryz.prog 34 #[.slice A L.length c, .slice B r.length d] w fun e w' => e = .returned (.int .i64 (aboveI r L 0)) ∧ w = w' := by
  obtain ⟨R, hR⟩ : ∃ R, aboveI r L 0 = R := ⟨_, rfl⟩
  rw [hR]
  have HR := Lib.hid hR
  have HA := Lib.hid hA
  have HB := Lib.hid hB
  have HI := Lib.hid hin
  have HD := Lib.hid hbd
  clear hR hA hB hin hbd
  go_enter Tryz.func34, Tryz.ntmps34
  go_wp2_with fail
  go_loopw [5, 7, 10] (fun a _ i wr => ∃ (k : Nat) (x : Int), k ≤ L.length ∧ i = .int .i64 k ∧ a = .int .i64 x ∧ 0 ≤ x ∧ x ≤ 1000001 ∧ wr = w ∧ aboveI r (L.drop k) x = R) (fun _ _ i _ => L.length - (intOf i).toNat)
  case atStart => exact ⟨0, 0, by omega, rfl, rfl, by omega, by omega, rfl, HR.out⟩
  case round =>
    obtain ⟨k, x, hk, rfl, rfl, hx0, hx1, rfl, hf⟩ := hrel
    by_cases hlt : k < L.length
    · obtain ⟨g, rfl, hc⟩ := HA.out k hlt
      have hpl := HI.out L[k] (List.getElem_mem hlt)
      obtain ⟨g2, rfl, hc2⟩ := HB.out L[k] hpl
      rw [above_at hlt] at hf
      obtain ⟨h1, h2⟩ := HD.out L[k]
      generalize L[k] = p at hc hc2 hf hpl h1 h2
      generalize rk r p = v at hc2 hf h1 h2
      by_cases he : v = -1
      · rw [if_pos he] at hf
        subst he
        obtain rfl : R = -1 := hf.symm
        clear hf HR
        go_wp2_with fail
        go_ret
        exact ⟨rfl, rfl⟩
      · rw [if_neg he] at hf
        have t1 : (v == -1) = false := beq_eq_false_iff_ne.2 he
        have HF := Lib.hid hf
        clear hf he
        go_wp2_with fail
        go_roundw
        case rel => exact ⟨k + 1, max x (v + 1), by omega, by go_num, by go_num, by omega, by omega, by first | trivial | rfl, HF.out⟩
        case measure => simp [intOf]; omega
    · have hkl : k = L.length := by omega
      rw [hkl, List.drop_length] at hf
      obtain rfl : x = R := hf
      clear hkl
      go_wp2_with fail
      go_ret
      exact ⟨rfl, rfl⟩
end Go.Proofs.YthgcmficmodhiaaGreatDoor.RkA
