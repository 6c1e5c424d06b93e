/- What page.Copy gives, as a list of pages; the reference's copy of no fields. -/
import Derived.Test.YthgcmficmodhiaaPgCopy
namespace Go.Proofs.Ythgcmficmodhiaa.PgD
open Go.RowKit
open ValM LexM NumM ExM NmM Kit ExL ExP NmC NmP NmA NmT RawV Within GenL FldP FrmM PgM PgC
set_option linter.unusedVariables false

def Copied (ps : List PE) (w : World) (r : Ending) (w' : World) : Prop :=
  ∃ (L : List PE) (A : Option Addr) (c : Nat), r = .returned (.slice A ps.length c) ∧ L.length = ps.length ∧ (∀ (i : Nat) (h : i < L.length) (h2 : i < ps.length), L[i].nm = ps[i].nm ∧ L[i].fs = ps[i].fs ∧ L[i].x = ps[i].x) ∧ Pgs w' A L ∧ (∀ e ∈ L, SRow w' e.F e.fs ∧ Is w' e.x e.x.d e.B e.m) ∧ Below w.heap.size w w'
theorem copied {ps : List PE} {w w' : World} {r : Ending} (h : CopyOut ps w r w') : Copied ps w r w' := by
  obtain ⟨qs, rfl, h⟩ := h
  obtain ⟨rr, hr⟩ := h.own
  have hlen := h.len
  have hl : (peC (qs.map PQ.e) ++ rr).length = ps.length * 8 := hr.1
  rw [List.length_append, peC_len, List.length_map, hlen] at hl
  obtain rfl : rr = [] := List.eq_nil_of_length_eq_zero (by omega)
  rw [List.append_nil] at hr
  refine ⟨qs.map PQ.e, some ⟨w.heap.size, 0, none⟩, ps.length, rfl, by rw [List.length_map]; exact hlen, fun i hi h2 => ?_, fun i hi => ?_, fun e he => ?_, h.below⟩
  · rw [List.length_map] at hi
    rw [List.getElem_map]
    exact h.val i hi h2
  · refine ⟨_, rfl, ?_⟩
    rw [add_block]
    have hc : ∀ j, j < 8 → w'.cell? ⟨w.heap.size, i * 8 + j, none⟩ = (pgC (qs.map PQ.e)[i])[j]? := fun j hj => (hr.cellAt _ (by rw [List.length_map] at hi; omega)).trans (peC_at _ i j hi hj)
    exact ⟨hc 0 (by decide), hc 1 (by decide), hc 2 (by decide), hc 3 (by decide), hc 4 (by decide), hc 5 (by decide), hc 6 (by decide), hc 7 (by decide)⟩
  · obtain ⟨q, hq, rfl⟩ := List.mem_map.1 he
    have hk := h.ok q hq
    obtain ⟨A', c', e1, hs⟩ := SRow.of_own hk.own
    injection e1 with e1 e2 e3
    subst e1
    exact ⟨hs, IsP.is _ _ _ _ hk.skip⟩
set_option maxHeartbeats 1000000 in
theorem fieldsNil_any (w : World) : Calls Try.prog 14 #[.slice none 0 0] w fun r w' => r = .returned (.slice none 0 0) ∧ w' = w := by
  go_enter Try.func14, Try.ntmps14
  go_wp2_with fail
  go_loopw [3, 5, 8] (fun v _ i wr => v = .slice none 0 0 ∧ i = .int .i64 0 ∧ wr = w) (fun _ _ i _ => 0)
  case atStart => exact ⟨rfl, rfl, rfl⟩
  case round =>
    obtain ⟨rfl, rfl, rfl⟩ := hrel
    go_wp2_with fail
    go_ret
    exact ⟨rfl, rfl⟩
end Go.Proofs.Ythgcmficmodhiaa.PgD
