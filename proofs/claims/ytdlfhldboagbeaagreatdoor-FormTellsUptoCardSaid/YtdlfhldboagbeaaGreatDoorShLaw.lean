/- The faults of a form, by package sheet and by the reference, at any later world. -/
import Derived.Test.YtdlfhldboagbeaaGreatDoorShLists
import Derived.Test.YtdlfhldboagbeaaGreatDoorRkLaw
import Derived.Test.YtdlfhldboagbeaaGreatDoorPgRef
namespace Go.Proofs.YtdlfhldboagbeaaGreatDoor.ShW
open Go.RowKit
open ValM LexM NumM ExM NmM Kit ExL ExP ExN RawV Within RawL GenL FldP FldR FldC FrmM PgM PgA RkM RkA RkX ShT ShL
set_option linter.unusedVariables false

theorem TextsV.of_own {w : World} {base n : Nat} {v : Value} {L : List ByteArray} (h : w.ownsRow base 9 1 v n (NmA.strV L)) (hl : L.length = n) : TextsV w v L := by
  subst hl
  obtain ⟨A, c, rfl, hr⟩ := NmA.SRow.of_own h
  refine ⟨A, c, rfl, fun j hj => ?_⟩
  obtain ⟨g, e, hc⟩ := hr j hj
  exact ⟨g, 0, e, by rw [Nat.zero_add]; exact hc⟩
/-- What is wrong with a form: both tell the same number. -/
theorem both_any (F : List GenL.Fd) (FA : Option Addr) (fc : Nat) (P : List PE) (PA : Option Addr) (pc : Nat) (w : World) (hfn : F.length ≤ 1048576) (hfl : Flds w FA F)
    (hfx : ∀ (j : Nat) (h : j < F.length), F[j].nm.size ≤ maxLen ∧ ∃ x, ExL.Is w x F[j].d F[j].A F[j].n ∧ x.nodes ≤ 1048576) (hcp : F.length ≤ fc ∧ fc ≤ maxLen)
    (hpg : Pgs w PA P) (hpx : ∀ e ∈ P, PgOk w e ∧ (e.fs.length ≤ e.fc ∧ e.fc ≤ maxLen) ∧ e.x.nodes ≤ 1048576 ∧ e.fs.length ≤ 1048576) (hpd : P.length ≤ pc ∧ pc ≤ maxLen) (hpn : P.length ≤ 1048576) (ht : Tab w) :
    ∃ R : Int, (∀ V, Below w.heap.size w V → Calls Tryz.prog 6 #[.agg #[.slice FA F.length fc, .slice PA P.length pc]] V fun e w' => e = .returned (.int .i64 R) ∧ Below V.heap.size V w') ∧
      ∀ V, Below w.heap.size w V → Calls Tryz.prog 8 #[.agg #[.slice FA F.length fc, .slice PA P.length pc]] V fun e w' => e = .returned (.int .i64 R) ∧ Below V.heap.size V w' := by
  obtain ⟨X, hX⟩ : ∃ X : Nat → Ex, ∀ (k : Nat) (h : k < F.length), F[k].nm.size ≤ maxLen ∧ Is w (X k) F[k].d F[k].A F[k].n ∧ (X k).nodes ≤ 1048576 := by
    refine ⟨fun k => if h : k < F.length then (hfx k h).2.choose else .mk ⟨0, 0, 0, ⟨#[]⟩, ⟨#[]⟩⟩ [], fun k h => ?_⟩
    simp only [dif_pos h]
    exact ⟨(hfx k h).1, (hfx k h).2.choose_spec⟩
  have hF : Forms w F X := fun k h => ⟨(hX k h).1, (hX k h).2.1⟩
  have hN : ∀ k, k < F.length → (X k).nodes ≤ 1048576 := fun k h => (hX k h).2.2
  obtain ⟨L, T, R1, _, _, h1, h2⟩ := RkY.rank_tri F X FA fc w hfn hfl hF hN ht hcp
  have ho : PgsOk w P := fun e he => (hpx e he).1
  have hlp : ∀ e ∈ P, e.fs.length ≤ 1048576 ∧ e.x.nodes ≤ 1048576 := fun e he => ⟨(hpx e he).2.2.2, (hpx e he).2.2.1⟩
  refine ⟨if R1 = 0 then checkP F P else R1, fun V hV => ?_, fun V hV => ?_⟩
  · refine ShT.check_any F.length FA fc P.length PA pc R1 (checkP F P) V (fun V' hV' => ?_) (fun _ V' hV' => ?_)
    · refine (h1 V' (hV.trans (hV'.mono hV.size))).mono fun e w' h => ?_
      obtain ⟨v, p, rfl, _, _, hb⟩ := h
      exact ⟨v, p, rfl, hb⟩
    · have hb := hV.trans (hV'.mono hV.size)
      exact PgB.check_any P PA pc F FA fc V' hfn (hfl.below hb) (fun k h => (hfx k h).1) (hpg.below hb) (ho.below hb) (by unfold maxLen; omega) (fun e he => (hlp e he).1) (ht.below hb) hpd
  · refine ShT.fault_any F.length FA fc P.length PA pc R1 (checkP F P) V (fun V' hV' => ?_) (fun _ V' hV' => ?_)
    · refine (h2 V' (hV.trans (hV'.mono hV.size))).mono fun e w' h => ?_
      obtain ⟨v, p, rfl, _, _, hb⟩ := h
      exact ⟨v, p, rfl, hb⟩
    · have hb := hV.trans (hV'.mono hV.size)
      exact PgR.refPages_any P PA pc F FA fc V' hfn (hfl.below hb) (hpg.below hb) (ho.below hb) (by unfold maxLen; omega) hlp
end Go.Proofs.YtdlfhldboagbeaaGreatDoor.ShW
