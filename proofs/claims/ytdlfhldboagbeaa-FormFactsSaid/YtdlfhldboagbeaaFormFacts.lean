/- What is proved: the Go law lychwaylaw.FormFacts returns true for all its arguments, and leaves them as they were. No condition. -/
import Derived.Test.YtdlfhldboagbeaaRows
import Derived.Test.YtdlfhldboagbeaaShFacts
import Derived.Test.YtdlfhldboagbeaaFctOpen
import Derived.Test.YtdlfhldboagbeaaFrmOpen
import Derived.Test.YtdlfhldboagbeaaKit
import Derived.WalkKit
import Derived.ProofKit
import Derived.OpenShut
import Derived.Deep.RegionHeld3
import Derived.Deep.DrawnRows
import Derived.Deep.DeepCutAuto
import Derived.Deep.QuietTactic
import Derived.BigQuiet
import Derived.WalkSpells
import Derived.WalkLawsBesides
import Derived.Lib.Hide
import Derived.Outline
import Derived.ShutString
import Derived.ChangeOld
import Derived.Below
namespace Go.Proofs.Ytdlfhldboagbeaa.formFacts
open ValM LexM NumM ExM Kit ExL RawV Within RawL GenL FldP FrmM PgM EvF FcM ShF
open Go.ChangeShapes Go.WideShapes Go.ChangeAt Go.RowKit
open Go.ChangeMaps (open_string shut_string)
set_option linter.unusedVariables false

theorem own : ownKnob Try.prog.godebug = none := by kernel_rfl
theorem laidOut : laidOutB Try.prog = true := by kernel_rfl


/-! ### The walk -/
set_option maxHeartbeats 4000000 in
theorem walk (F0 : List GenL.Fd) (A0 : Option Addr) (c0 : Nat) (P0 : List FrmM.PE) (B0 : Option Addr) (e0 : Nat) (F1 : List EvF.Fc) (A1 : Option Addr) (c1 : Nat)  (w : World) (hfl0 : GenL.Flds w A0 F0) (hfx0 : ∀ (j : Nat) (h : j < F0.length), F0[j].nm.size ≤ maxLen ∧ ∃ x, ExL.Is w x F0[j].d F0[j].A F0[j].n) (hcp0 : F0.length ≤ c0 ∧ c0 ≤ maxLen) (hfm0 : F0.length ≤ maxLen) (hpg0 : PgM.Pgs w B0 P0) (hpx0 : ∀ e ∈ P0, PgM.PgOk w e ∧ (e.fs.length ≤ e.fc ∧ e.fc ≤ maxLen)) (hpd0 : P0.length ≤ e0 ∧ e0 ≤ maxLen) (hpn0 : P0.length ≤ maxLen) (hfl1 : EvF.Fcs w A1 F1) (hfx1 : ∀ f ∈ F1, f.nm.size ≤ maxLen) (hcp1 : F1.length ≤ c1 ∧ c1 ≤ maxLen) (hfm1 : F1.length ≤ maxLen) :
    Calls Try.prog 3 #[.agg #[.slice A0 F0.length c0, .slice B0 P0.length e0], .slice A1 F1.length c1] w fun e w' => e = .returned (.bool true) ∧ Below w.heap.size w w' := by
  have h1 : ∀ V, Below w.heap.size w V → Calls Try.prog 5 #[.agg #[.slice A0 F0.length c0, .slice B0 P0.length e0], .slice A1 F1.length c1] V fun r w' => r = .returned (.int .i64 (factsE F0 F1)) ∧ Below V.heap.size V w' := fun V hV => ShF.facts_any F0 A0 c0 B0 P0.length e0 F1 A1 c1 V hfm0 hcp0 (hfl0.below hV) (fun k h => (hfx0 k h).1) (hfl1.below hV) hfx1 hfm1
  have h2 : ∀ V, Below w.heap.size w V → Calls Try.prog 6 #[.agg #[.slice A0 F0.length c0, .slice B0 P0.length e0], .slice A1 F1.length c1] V fun r w' => r = .returned (.int .i64 (factsE F0 F1)) ∧ Below V.heap.size V w' := fun V hV => ShF.refFacts_any F0 A0 c0 B0 P0.length e0 F1 A1 c1 V hfm0 (hfl0.below hV) (hfl1.below hV) hfm1
  generalize factsE F0 F1 = R at h1 h2
  have tR : (R == R) = true := by simp
  have hb0 := b_new w (frBox A0 F0.length c0 B0 P0.length e0)
  obtain ⟨W1, hW1⟩ : ∃ V, w.alloc (frBox A0 F0.length c0 B0 P0.length e0) = V := ⟨_, rfl⟩
  obtain ⟨B1, hB1⟩ : ∃ B, w.heap.size = B := ⟨_, rfl⟩
  have hcell := fr_cells w A0 F0.length c0 B0 P0.length e0
  rw [hW1] at hb0 hcell
  rw [hB1] at hcell
  obtain ⟨x0, x1⟩ := hcell W1 (Below.refl _ _)
  have H1 := Lib.hid h1
  have H2 := Lib.hid h2
  have HW1 := Lib.hid hW1
  have HB1 := Lib.hid hB1
  have Hb0 := Lib.hid hb0
  have HCell := Lib.hid hcell
  clear h1 h2 hfl0 hfx0 hfl1 hfx1 hpg0 hpx0 hW1 hB1 hb0 hcell
  unfold frBox at HW1
  go_enter Try.func3, Try.ntmps3
  go_upto_region 1 with fail
  rw [HW1.out, HB1.out]
  go_wp2_with fail
  refine (H1.out _ Hb0.out).mono ?_; rintro e w1 ⟨rfl, hb1⟩
  obtain ⟨x0, x1⟩ := HCell.out w1 hb1
  have Hb1 := Lib.hid (b_trans Hb0.out hb1)
  clear hb1
  go_wp2_with fail
  refine (H2.out _ Hb1.out).mono ?_; rintro e w2 ⟨rfl, hb2⟩
  have Hb2 := Lib.hid (b_trans Hb1.out hb2)
  clear hb2
  go_wp2_with fail
  go_ret
  exact ⟨rfl, Hb2.out⟩

/-! ### The row's step -/
set_option maxRecDepth 100000 in
theorem lifted (os : Os) (started : os.Started) (H : Type) (enc : TypeId × Value → H) :
    ReturnsInHanded {} Try.checked os 3 .any (Rows.formFactsSpec.pre6 enc Try.prog Try.f3 Rows.formFactsRow.domain false) (Rows.formFactsSpec.post enc Try.prog Try.f3 false true false false) := by
  refine returnsInHanded_of_change (C := Try.checked) own started (by kernel_rfl) Try.func3
    (ChangeSpec.witness6 (enc := enc) (C := Try.checked) false ⟨#[], #[.agg #[.slice none 0 0, .slice none 0 0], .slice none 0 0], []⟩ 8 (by kernel_rfl) (by kernel_rfl) (by kernel_rfl) (by kernel_rfl)) ?_
  intro W base args ds gs before hval0 hW hcnd _
  have hval : ∀ (j : Nat) t v, Try.f3.params[j]? = some t → args[j]? = some v → Value.okWide Try.prog W .any base t v := hval0
  have hW' := hW
  obtain ⟨p, q, hA0, hV, rfl, hfz, hnd⟩ := hW
  have hA : DataW.TrodAll enc Try.prog W 0 (fun _ => true) true Try.f3.params.toList args.toList ds p := hA0
  rw [Try.params3] at hA hval
  obtain ⟨v0, vs0, d0, ds0, p0, q0, hargs, rfl, rfl, h0, r0⟩ := trodAll_cons hA
  obtain ⟨v1, vs1, d1, ds1, p1, q1, rfl, rfl, rfl, h1, r1⟩ := trodAll_cons r0
  obtain ⟨rfl, rfl, rfl⟩ := trodAll_nil r1
  obtain rfl : args = #[v0, v1] := by cases args; simp_all
  obtain ⟨rfl, rfl⟩ := trodVars_none hV
  have k0 := h0
  have lt0 : ∀ x ∈ p0, x.block < W.heap.size := by obtain ⟨m, hm⟩ := k0; exact DataW.trod_lt m _ _ _ hm
  obtain ⟨A0, F0, c0, B0, P0, e0, rfl, ⟨hfl0, hfn0, hfx0⟩, ⟨hpg0, hpn0, hpx0⟩⟩ := FrmO.open_frm (hval 0 25 v0 rfl rfl) h0
  have k1 := h1
  have lt1 : ∀ x ∈ p1, x.block < W.heap.size := by obtain ⟨m, hm⟩ := k1; exact DataW.trod_lt m _ _ _ hm
  obtain ⟨A1, F1, c1, rfl, hfl1, hfn1, hfx1⟩ := FctO.open_fcts (hval 1 26 v1 rfl rfl) h1
  clear hA0 hval0
  refine (walk F0 A0 c0 P0 B0 e0 F1 A1 c1  W hfl0 (fun j hj => ⟨(hfx0 j hj).1, (hfx0 j hj).2.imp fun x hx => hx.1⟩) hfn0.2.2 hfn0.2.1 hpg0 (fun e he => ⟨(hpx0 e he).1, (hpx0 e he).2.1⟩) hpn0.2.2 hpn0.2.1 hfl1 hfx1 hfn1.2.2 hfn1.2.1).mono fun e W' ⟨he, bel⟩ => ?_
  subst he
  exact ⟨_, rfl, _, _, _, [], _, [], hW', trodAll_mk1 (shut_bool Try.underlying4 _), (trodAll_cons_mk (Below.trod laidOut (by kernel_rfl) (of_decide_eq_true (by kernel_rfl)) k0 bel lt0) (trodAll_cons_mk (Below.trod laidOut (by kernel_rfl) (of_decide_eq_true (by kernel_rfl)) k1 bel lt1) trodAll_mk0)), rfl, bel.frame _, fun h => by cases h⟩

theorem over : Rows.formFactsRow.holds Try.pinned (OpenSpec.ofChange Rows.formFactsSpec) :=
  OpenClaim.holds_of_wide 3 Try.f3 rfl rfl rfl rfl rfl rfl rfl ⟨rfl, rfl, rfl, rfl, rfl⟩ rfl rfl rfl rfl rfl (by kernel_rfl) Try.func3 (by kernel_rfl)
    (of_decide_eq_true (by kernel_rfl)) (by unfold Func.isWrapper; first | (rw [if_pos (by decide +kernel)]; kernel_rfl) | (rw [if_neg (by decide +kernel)]; exact ⟨rfl, rfl⟩))
    (fun os started H enc _ => lifted os started H enc)

theorem proved : Rows.FormFactsSaid := over
#print axioms proved
end Go.Proofs.Ytdlfhldboagbeaa.formFacts
