/- What is proved: the Go law lychwaylaw.RankOrders returns true for all its arguments of bulk at most 1048576 (the second form), and leaves them as they were.  -/
import Derived.Test.YthgcmficmodhiaaGreatDoorRows
import Derived.Test.YthgcmficmodhiaaGreatDoorRkTwo
import Derived.Test.YthgcmficmodhiaaGreatDoorFldOpen
import Derived.Test.YthgcmficmodhiaaGreatDoorExOpen
import Derived.Test.YthgcmficmodhiaaGreatDoorKit
import Derived.WalkKit
import Derived.ProofKit
import Derived.OpenShut
import Derived.Deep.RegionHeld3
import Derived.Deep.DrawnRows
import Derived.Deep.DeepCutAuto
import Derived.Deep.QuietTactic
import Derived.BigQuiet
import Derived.WalkSpells
import Derived.WalkLawsBesides
import Derived.Lib.Hide
import Derived.Outline
import Derived.ShutString
import Derived.ChangeOld
import Derived.Below
import Derived.LaidMore
import Derived.SizedLaws
import Derived.Stop.Joined
import Derived.Stop.LaidErr
import Derived.Lib.LaidTab
import Derived.SevenTiedAt
import Derived.Lay
import Derived.LaidOnce
import Derived.Deep.DeepHandedRow
import Derived.Test.YthgcmficmodhiaaGreatDoorCards
import Derived.Test.YthgcmficmodhiaaGreatDoorTie
namespace Go.Proofs.YthgcmficmodhiaaGreatDoor.rankOrders
open ValM LexM NumM ExM Kit ExL ExN RawV Within RawL GenL FldP FldR FldC RkX RkY RkZ
open Go.ChangeShapes Go.WideShapes Go.ChangeAt Go.RowKit
open Go.ChangeMaps (open_string shut_string)
set_option linter.unusedVariables false

theorem own : ownKnob Tryz.prog.godebug = none := by kernel_rfl
theorem laidOut : laidOutB Tryz.prog = true := by kernel_rfl


/-! ### The walk -/
set_option maxHeartbeats 4000000 in
theorem walk (F0 : List GenL.Fd) (A0 : Option Addr) (c0 : Nat) (a1 : ByteArray) (w1 : a1.size ≤ maxLen) (w : World) (hfl0 : GenL.Flds w A0 F0) (hfx0 : ∀ (j : Nat) (h : j < F0.length), F0[j].nm.size ≤ maxLen ∧ ∃ x, ExL.Is w x F0[j].d F0[j].A F0[j].n ∧ x.nodes ≤ 1048576) (hcp0 : F0.length ≤ c0 ∧ c0 ≤ maxLen) (hfn0 : F0.length ≤ 1048576) (ht : ExN.Tab w) (rb1 : a1.size ≤ 140737488351232) :
    Calls Tryz.prog 4 #[.slice A0 F0.length c0, .string a1] w fun e w' => e = .returned (.bool true) ∧ Below w.heap.size w w' := by
  obtain ⟨X, hX⟩ : ∃ X : Nat → Ex, ∀ (k : Nat) (h : k < F0.length), F0[k].nm.size ≤ maxLen ∧ Is w (X k) F0[k].d F0[k].A F0[k].n ∧ (X k).nodes ≤ 1048576 := by
    refine ⟨fun k => if h : k < F0.length then (hfx0 k h).2.choose else .mk ⟨0, 0, 0, ⟨#[]⟩, ⟨#[]⟩⟩ [], fun k h => ?_⟩
    simp only [dif_pos h]
    exact ⟨(hfx0 k h).1, (hfx0 k h).2.choose_spec⟩
  have hF : Forms w F0 X := fun k h => ⟨(hX k h).1, (hX k h).2.1⟩
  have hN : ∀ k, k < F0.length → (X k).nodes ≤ 1048576 := fun k h => (hX k h).2.2
  obtain ⟨L, R, hL, h1, h2⟩ := order_two F0 X A0 c0 w hfn0 hfl0 hF hN ht hcp0
  obtain ⟨M, S, hM, h3, h4⟩ := hangs_two F0 X A0 c0 a1 w hfn0 hfl0 hF hN ht hcp0
  have H1 := Lib.hid h1
  have H2 := Lib.hid h2
  have H3 := Lib.hid h3
  have H4 := Lib.hid h4
  have HL := Lib.hid hL
  have HM := Lib.hid hM
  have tR : (R == R) = true := by simp
  have tS : (S == S) = true := by simp
  clear h1 h2 h3 h4 hF hN hX hfl0 hfx0 hcp0 hL hM
  go_enter Tryz.func4, Tryz.ntmps4
  go_wp2_with fail
  refine (H1.out _ (Below.refl _ _)).mono ?_; rintro e w1 ⟨v1, rfl, hi1, hb1⟩
  have HB1 := Lib.hid hb1
  have HI1 := Lib.hid hi1
  clear hb1 hi1
  go_wp2_with fail
  refine (H3.out _ HB1.out).mono ?_; rintro e w2 ⟨v2, rfl, hi2, hb2⟩
  have HB2 := Lib.hid (b_trans HB1.out hb2)
  have HI2 := Lib.hid (And.intro (HI1.out.below hb2) hi2)
  clear hb2 hi2
  go_wp2_with fail
  refine (H2.out _ HB2.out).mono ?_; rintro e w3 ⟨v3, rfl, hi3, hb3⟩
  have HB3 := Lib.hid (b_trans HB2.out hb3)
  have HI3 := Lib.hid (And.intro (HI2.out.1.below hb3) (And.intro (HI2.out.2.below hb3) hi3))
  clear hb3 hi3
  go_wp2_with fail
  refine (H4.out _ HB3.out).mono ?_; rintro e w4 ⟨v4, rfl, hi4, hb4⟩
  have HB4 := Lib.hid (b_trans HB3.out hb4)
  have hs := sameInts_any L v1 v3 w4 HL.out (HI3.out.1.below hb4) (HI3.out.2.2.below hb4)
  have HS := Lib.hid hs
  have HI4 := Lib.hid (And.intro (HI3.out.2.1.below hb4) hi4)
  clear hb4 hi4 hs
  go_wp2_with fail
  refine HS.out.mono ?_; rintro e w5 ⟨rfl, hb5⟩
  have hs := sameInts_any M v2 v4 w5 HM.out (HI4.out.1.below hb5) (HI4.out.2.below hb5)
  have HS2 := Lib.hid hs
  have HB5 := Lib.hid (b_trans HB4.out hb5)
  clear hb5 hs
  go_wp2_with fail
  refine HS2.out.mono ?_; rintro e w6 ⟨rfl, hb6⟩
  have HB6 := Lib.hid (b_trans HB5.out hb6)
  clear hb6
  go_wp2_with fail
  go_ret
  exact ⟨rfl, HB6.out⟩

theorem not_of {W : World} (h : laidMetH Tryz.prog Rows.rankOrdersUptoRow.laid W) : ExN.Tab W := by
  have h0 : laidMet Tryz.prog Rows.rankOrdersUptoRow.laid W := by rw [MakeChecks.laidMetH_plain _ _ _ (by kernel_rfl)] at h; exact h
  have h1 := h0
  exact NotTab.is_of_head (g := 0) (t := 111) (e := 110) (n := 19) (by kernel_rfl) (by kernel_rfl) Tryz.underlying111 (by kernel_rfl) Tryz.underlying110 (by kernel_rfl) rfl rfl rfl Tryz.underlying9 Tryz.underlying3 Tryz.underlying3 (by kernel_rfl) (by kernel_rfl) (by kernel_rfl) h1

/-! ### The row's step -/
set_option maxRecDepth 100000 in
theorem reads (os : Os) {H : Type} (enc : TypeId × Value → H) : ∃ places, DataW.whole enc Tryz.prog ((World.laidAll Tryz.prog os Rows.rankOrdersUptoRow.laid).forCall (fun _ _ => 0) ⟨#[], #[.slice none 0 0, .string ⟨#[]⟩], []⟩).memory Tryz.f4.params.toList Rows.rankOrdersSpec.vars false #[.slice none 0 0, .string ⟨#[]⟩].toList 8 = some ([.nil, .lit (.string [])], [], places) := ⟨[], by kernel_rfl⟩
set_option maxRecDepth 100000 in
theorem lifted (os : Os) (started : os.Started) (H : Type) (enc : TypeId × Value → H) (F : Stop.Interp) :
    ReturnsInHanded {} Tryz.checked os 4 .any ((Rows.OpenSpec.upto Rows.rankOrdersSpec).preRow enc Tryz.prog Tryz.f4 Rows.rankOrdersUptoRow.domain false Rows.rankOrdersUptoRow.laid) (((Rows.OpenSpec.upto Rows.rankOrdersSpec).at F).post enc Tryz.prog Tryz.f4 false true false false) := by
  obtain ⟨places, hx⟩ := reads os enc
  refine returnsInHanded_of_row (C := Tryz.checked) (s := Rows.OpenSpec.upto Rows.rankOrdersSpec) own started (by kernel_rfl) Tryz.func4
    (witness_row_at (enc := enc) (C := Tryz.checked) false (World.laidAll Tryz.prog os Rows.rankOrdersUptoRow.laid) #[.slice none 0 0, .string ⟨#[]⟩] (World.laidAll_os _ _ _) (by kernel_rfl) (by kernel_rfl) (by kernel_rfl)
      (OpenSpec.preRow_of_cond 8 hx (by kernel_rfl) (fun k hk => by cases hk; kernel_rfl) (by kernel_rfl) (by rw [MakeChecks.laidMetH_plain _ _ _ (by kernel_rfl)]; exact laidMet_laidAll _ (by kernel_rfl) (by kernel_rfl)))) ?_
  intro W base args ds gs before hval0 hW hcnd hcond hsz hL _ _
  have hval : ∀ (j : Nat) t v, Tryz.f4.params[j]? = some t → args[j]? = some v → Value.okWide Tryz.prog W .any base t v := hval0
  have hW' := hW
  obtain ⟨p, q, hA0, hV, rfl, hfz, hnd⟩ := hW
  have hA : DataW.TrodAll enc Tryz.prog W 0 (fun _ => true) true Tryz.f4.params.toList args.toList ds p := hA0
  rw [Tryz.params4] at hA hval
  obtain ⟨v0, vs0, d0, ds0, p0, q0, hargs, rfl, rfl, h0, r0⟩ := trodAll_cons hA
  obtain ⟨v1, vs1, d1, ds1, p1, q1, rfl, rfl, rfl, h1, r1⟩ := trodAll_cons r0
  obtain ⟨rfl, rfl, rfl⟩ := trodAll_nil r1
  obtain rfl : args = #[v0, v1] := by cases args; simp_all
  obtain ⟨rfl, rfl⟩ := trodVars_none hV
  have k0 := h0
  have lt0 : ∀ x ∈ p0, x.block < W.heap.size := by obtain ⟨m, hm⟩ := k0; exact DataW.trod_lt m _ _ _ hm
  obtain ⟨A0, F0, c0, rfl, hfl0, hfn0, hfx0⟩ := FldO.open_flds (hval 0 22 v0 rfl rfl) h0
  have k1 := h1
  have lt1 : ∀ x ∈ p1, x.block < W.heap.size := by obtain ⟨m, hm⟩ := k1; exact DataW.trod_lt m _ _ _ hm
  obtain ⟨a1, rfl, rfl, rfl, w1⟩ := open_string Tryz.underlying9 (hval 1 9 v1 rfl rfl) h1
  have hk := hcond _ rfl
  have hbk := of_decide_eq_true hk
  simp only [List.append_nil, Rows.uptoBulkAll] at hbk
  rw [Tryz.params4] at hsz
  have rb1 : a1.size ≤ 140737488351232 := by
    have h1 := sized_string hsz (j := 1) (t := 9) rfl rfl
    have h2 : reachBytes = 140737488351232 := by decide
    have e1 : a1.size = a1.data.size := rfl
    have e2 : a1.data.toList.length = a1.data.size := Array.length_toList
    omega
  clear hA0 hval0
  refine (walk F0 A0 c0 a1 w1 W hfl0 (fun j hj => ⟨(hfx0 j hj).1, (hfx0 j hj).2.imp fun x hx => ⟨hx.1, by omega⟩⟩) hfn0.2.2 (by omega) (not_of hL) rb1).mono fun e W' ⟨he, bel⟩ => ?_
  subst he
  exact ⟨_, rfl, _, _, _, [], _, [], hW', trodAll_mk1 (shut_bool Tryz.underlying4 _), (trodAll_cons_mk (Below.trod laidOut (by kernel_rfl) (of_decide_eq_true (by kernel_rfl)) k0 bel lt0) (trodAll_cons_mk (Below.trod laidOut (by kernel_rfl) (of_decide_eq_true (by kernel_rfl)) k1 bel lt1) trodAll_mk0)), rfl, bel.frame _, fun h => by cases h⟩

theorem over : Rows.RankOrdersUptoSaid :=
  OpenClaim.holds_of_cond 4 Tryz.f4 rfl rfl rfl rfl rfl rfl rfl ⟨rfl, rfl, rfl, rfl, rfl⟩ rfl rfl rfl rfl rfl (by kernel_rfl) Tryz.func4 (by kernel_rfl)
    (of_decide_eq_true (by kernel_rfl)) (by unfold Func.isWrapper; first | (rw [if_pos (by decide +kernel)]; kernel_rfl) | (rw [if_neg (by decide +kernel)]; exact ⟨rfl, rfl⟩))
    (fun os started H enc _ F => by rw [OpenClaim.pre_eq_preRow]; exact lifted os started H enc F)

/-- The tied card. -/
theorem proved : Rows.RankOrdersUptoCardSaid :=
  Claim7.holds_tied_plain_at .later [] [.data] true (true, "0da80de4306db885294045e583c85befb2f9c802d01003b6dc6f479ab5d672c5") false
    over (fun _ h => by cases h) (by kernel_rfl) (fun _ h => by cases h) rankOrdersUpto_row_tie rfl ⟨rfl, rfl⟩ (by kernel_rfl) rfl
    (fun f fn hf hfn => by
      obtain rfl : f = 4 := Option.some.inj ((show Tryz.prog.funcNamed "lychway/lychwaylaw.RankOrders" = some 4 by kernel_rfl).symm.trans hf) |>.symm
      obtain rfl : fn = Tryz.f4 := (Option.some.inj (Tryz.func4.symm.trans hfn)).symm
      exact ⟨by kernel_rfl, fun j t ht => by
        rw [Tryz.params4] at ht
        have hm : t ∈ [22, 9] := by simpa using Array.mem_of_getElem? ht
        have hall : ([22, 9].all fun u => !Tryz.prog.wantsStandIn u) = true := by kernel_rfl
        exact (show Tryz.prog.wantsStandIn t = false by simpa using List.all_eq_true.1 hall t hm)⟩)
    (by kernel_rfl)
#print axioms proved
end Go.Proofs.YthgcmficmodhiaaGreatDoor.rankOrders
