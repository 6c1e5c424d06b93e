/- What is proved: the Go law lychwaylaw.RankTells returns true for all its arguments of bulk at most 1048576 (the second form), and leaves them as they were.  -/
import Derived.Test.YthgcmficmodhiaaGreatDoorRows
import Derived.Test.YthgcmficmodhiaaGreatDoorRkLaw
import Derived.Test.YthgcmficmodhiaaGreatDoorFldOpen
import Derived.Test.YthgcmficmodhiaaGreatDoorExOpen
import Derived.Test.YthgcmficmodhiaaGreatDoorKit
import Derived.WalkKit
import Derived.ProofKit
import Derived.OpenShut
import Derived.Deep.RegionHeld3
import Derived.Deep.DrawnRows
import Derived.Deep.DeepCutAuto
import Derived.Deep.QuietTactic
import Derived.BigQuiet
import Derived.WalkSpells
import Derived.WalkLawsBesides
import Derived.Lib.Hide
import Derived.Outline
import Derived.ShutString
import Derived.ChangeOld
import Derived.Below
import Derived.LaidMore
import Derived.SizedLaws
import Derived.Stop.Joined
import Derived.Stop.LaidErr
import Derived.Lib.LaidTab
import Derived.SevenTiedAt
import Derived.Lay
import Derived.LaidOnce
import Derived.Deep.DeepHandedRow
import Derived.Test.YthgcmficmodhiaaGreatDoorCards
import Derived.Test.YthgcmficmodhiaaGreatDoorTie
namespace Go.Proofs.YthgcmficmodhiaaGreatDoor.rankTells
open ValM LexM NumM ExM Kit ExL ExN RawV Within RawL GenL FldP FldR FldC RkX RkY
open Go.ChangeShapes Go.WideShapes Go.ChangeAt Go.RowKit
open Go.ChangeMaps (open_string shut_string)
set_option linter.unusedVariables false

theorem own : ownKnob Tryz.prog.godebug = none := by kernel_rfl
theorem laidOut : laidOutB Tryz.prog = true := by kernel_rfl


/-! ### The walk -/
set_option maxHeartbeats 4000000 in
theorem walk (F0 : List GenL.Fd) (A0 : Option Addr) (c0 : Nat)  (w : World) (hfl0 : GenL.Flds w A0 F0) (hfx0 : ∀ (j : Nat) (h : j < F0.length), F0[j].nm.size ≤ maxLen ∧ ∃ x, ExL.Is w x F0[j].d F0[j].A F0[j].n ∧ x.nodes ≤ 1048576) (hcp0 : F0.length ≤ c0 ∧ c0 ≤ maxLen) (hfn0 : F0.length ≤ 1048576) (ht : ExN.Tab w) :
    Calls Tryz.prog 3 #[.slice A0 F0.length c0] w fun e w' => e = .returned (.bool true) ∧ Below w.heap.size w w' := by
  obtain ⟨X, hX⟩ : ∃ X : Nat → Ex, ∀ (k : Nat) (h : k < F0.length), F0[k].nm.size ≤ maxLen ∧ Is w (X k) F0[k].d F0[k].A F0[k].n ∧ (X k).nodes ≤ 1048576 := by
    refine ⟨fun k => if h : k < F0.length then (hfx0 k h).2.choose else .mk ⟨0, 0, 0, ⟨#[]⟩, ⟨#[]⟩⟩ [], fun k h => ?_⟩
    simp only [dif_pos h]
    exact ⟨(hfx0 k h).1, (hfx0 k h).2.choose_spec⟩
  have hF : Forms w F0 X := fun k h => ⟨(hX k h).1, (hX k h).2.1⟩
  have hN : ∀ k, k < F0.length → (X k).nodes ≤ 1048576 := fun k h => (hX k h).2.2
  obtain ⟨L, T, R, hL, hTl, h1, h2⟩ := rank_tri F0 X A0 c0 w hfn0 hfl0 hF hN ht hcp0
  have H1 := Lib.hid h1
  have H2 := Lib.hid h2
  have HL := Lib.hid hL
  have HTl := Lib.hid hTl
  have tR : (R == R) = true := by simp
  clear h1 h2 hF hN hX hfl0 hfx0 hcp0 hL hTl
  go_enter Tryz.func3, Tryz.ntmps3
  go_wp2_with fail
  refine H1.out.mono ?_; rintro e w1 ⟨v1, p1, rfl, hi1, ht1, hb1⟩
  have HB1 := Lib.hid hb1
  have HI1 := Lib.hid (And.intro hi1 ht1)
  clear hb1 hi1 ht1
  go_wp2_with fail
  refine (H2.out _ HB1.out).mono ?_; rintro e w2 ⟨v2, p2, rfl, hi2, ht2, hb2⟩
  have hs := sameInts_any L v1 v2 w2 HL.out (HI1.out.1.below hb2) hi2
  have HS := Lib.hid hs
  have HT := Lib.hid (And.intro (HI1.out.2.below hb2) ht2)
  have HB2 := Lib.hid (b_trans HB1.out hb2)
  clear hs hb2 hi2 ht2
  go_wp2_with fail
  refine HS.out.mono ?_; rintro e w3 ⟨rfl, hb3⟩
  have hs := sameTexts_any T p1 p2 w3 HTl.out (HT.out.1.below hb3) (HT.out.2.below hb3)
  have HS2 := Lib.hid hs
  have HB3 := Lib.hid (b_trans HB2.out hb3)
  clear hs hb3
  go_wp2_with fail
  refine HS2.out.mono ?_; rintro e w4 ⟨rfl, hb4⟩
  have HB4 := Lib.hid (b_trans HB3.out hb4)
  clear hb4
  go_wp2_with fail
  go_ret
  exact ⟨rfl, HB4.out⟩

theorem not_of {W : World} (h : laidMetH Tryz.prog Rows.rankTellsUptoRow.laid W) : ExN.Tab W := by
  have h0 : laidMet Tryz.prog Rows.rankTellsUptoRow.laid W := by rw [MakeChecks.laidMetH_plain _ _ _ (by kernel_rfl)] at h; exact h
  have h1 := h0
  exact NotTab.is_of_head (g := 0) (t := 111) (e := 110) (n := 19) (by kernel_rfl) (by kernel_rfl) Tryz.underlying111 (by kernel_rfl) Tryz.underlying110 (by kernel_rfl) rfl rfl rfl Tryz.underlying9 Tryz.underlying3 Tryz.underlying3 (by kernel_rfl) (by kernel_rfl) (by kernel_rfl) h1

/-! ### The row's step -/
set_option maxRecDepth 100000 in
theorem reads (os : Os) {H : Type} (enc : TypeId × Value → H) : ∃ places, DataW.whole enc Tryz.prog ((World.laidAll Tryz.prog os Rows.rankTellsUptoRow.laid).forCall (fun _ _ => 0) ⟨#[], #[.slice none 0 0], []⟩).memory Tryz.f3.params.toList Rows.rankTellsSpec.vars false #[.slice none 0 0].toList 8 = some ([.nil], [], places) := ⟨[], by kernel_rfl⟩
set_option maxRecDepth 100000 in
theorem lifted (os : Os) (started : os.Started) (H : Type) (enc : TypeId × Value → H) (F : Stop.Interp) :
    ReturnsInHanded {} Tryz.checked os 3 .any ((Rows.OpenSpec.upto Rows.rankTellsSpec).preRow enc Tryz.prog Tryz.f3 Rows.rankTellsUptoRow.domain false Rows.rankTellsUptoRow.laid) (((Rows.OpenSpec.upto Rows.rankTellsSpec).at F).post enc Tryz.prog Tryz.f3 false true false false) := by
  obtain ⟨places, hx⟩ := reads os enc
  refine returnsInHanded_of_row (C := Tryz.checked) (s := Rows.OpenSpec.upto Rows.rankTellsSpec) own started (by kernel_rfl) Tryz.func3
    (witness_row_at (enc := enc) (C := Tryz.checked) false (World.laidAll Tryz.prog os Rows.rankTellsUptoRow.laid) #[.slice none 0 0] (World.laidAll_os _ _ _) (by kernel_rfl) (by kernel_rfl) (by kernel_rfl)
      (OpenSpec.preRow_of_cond 8 hx (by kernel_rfl) (fun k hk => by cases hk; kernel_rfl) (by kernel_rfl) (by rw [MakeChecks.laidMetH_plain _ _ _ (by kernel_rfl)]; exact laidMet_laidAll _ (by kernel_rfl) (by kernel_rfl)))) ?_
  intro W base args ds gs before hval0 hW hcnd hcond hsz hL _ _
  have hval : ∀ (j : Nat) t v, Tryz.f3.params[j]? = some t → args[j]? = some v → Value.okWide Tryz.prog W .any base t v := hval0
  have hW' := hW
  obtain ⟨p, q, hA0, hV, rfl, hfz, hnd⟩ := hW
  have hA : DataW.TrodAll enc Tryz.prog W 0 (fun _ => true) true Tryz.f3.params.toList args.toList ds p := hA0
  rw [Tryz.params3] at hA hval
  obtain ⟨v0, vs0, d0, ds0, p0, q0, hargs, rfl, rfl, h0, r0⟩ := trodAll_cons hA
  obtain ⟨rfl, rfl, rfl⟩ := trodAll_nil r0
  obtain rfl : args = #[v0] := by cases args; simp_all
  obtain ⟨rfl, rfl⟩ := trodVars_none hV
  have k0 := h0
  have lt0 : ∀ x ∈ p0, x.block < W.heap.size := by obtain ⟨m, hm⟩ := k0; exact DataW.trod_lt m _ _ _ hm
  obtain ⟨A0, F0, c0, rfl, hfl0, hfn0, hfx0⟩ := FldO.open_flds (hval 0 22 v0 rfl rfl) h0
  have hk := hcond _ rfl
  have hbk := of_decide_eq_true hk
  simp only [List.append_nil, Rows.uptoBulkAll] at hbk
  clear hA0 hval0
  refine (walk F0 A0 c0  W hfl0 (fun j hj => ⟨(hfx0 j hj).1, (hfx0 j hj).2.imp fun x hx => ⟨hx.1, by omega⟩⟩) hfn0.2.2 (by omega) (not_of hL)).mono fun e W' ⟨he, bel⟩ => ?_
  subst he
  exact ⟨_, rfl, _, _, _, [], _, [], hW', trodAll_mk1 (shut_bool Tryz.underlying4 _), (trodAll_cons_mk (Below.trod laidOut (by kernel_rfl) (of_decide_eq_true (by kernel_rfl)) k0 bel lt0) trodAll_mk0), rfl, bel.frame _, fun h => by cases h⟩

theorem over : Rows.RankTellsUptoSaid :=
  OpenClaim.holds_of_cond 3 Tryz.f3 rfl rfl rfl rfl rfl rfl rfl ⟨rfl, rfl, rfl, rfl, rfl⟩ rfl rfl rfl rfl rfl (by kernel_rfl) Tryz.func3 (by kernel_rfl)
    (of_decide_eq_true (by kernel_rfl)) (by unfold Func.isWrapper; first | (rw [if_pos (by decide +kernel)]; kernel_rfl) | (rw [if_neg (by decide +kernel)]; exact ⟨rfl, rfl⟩))
    (fun os started H enc _ F => by rw [OpenClaim.pre_eq_preRow]; exact lifted os started H enc F)

/-- The tied card. -/
theorem proved : Rows.RankTellsUptoCardSaid :=
  Claim7.holds_tied_plain_at .later [] [.data] true (true, "0da80de4306db885294045e583c85befb2f9c802d01003b6dc6f479ab5d672c5") false
    over (fun _ h => by cases h) (by kernel_rfl) (fun _ h => by cases h) rankTellsUpto_row_tie rfl ⟨rfl, rfl⟩ (by kernel_rfl) rfl
    (fun f fn hf hfn => by
      obtain rfl : f = 3 := Option.some.inj ((show Tryz.prog.funcNamed "lychway/lychwaylaw.RankTells" = some 3 by kernel_rfl).symm.trans hf) |>.symm
      obtain rfl : fn = Tryz.f3 := (Option.some.inj (Tryz.func3.symm.trans hfn)).symm
      exact ⟨by kernel_rfl, fun j t ht => by
        rw [Tryz.params3] at ht
        have hm : t ∈ [22] := by simpa using Array.mem_of_getElem? ht
        have hall : ([22].all fun u => !Tryz.prog.wantsStandIn u) = true := by kernel_rfl
        exact (show Tryz.prog.wantsStandIn t = false by simpa using List.all_eq_true.1 hall t hm)⟩)
    (by kernel_rfl)
#print axioms proved
end Go.Proofs.YthgcmficmodhiaaGreatDoor.rankTells
