/- What is proved: the Go law lychwaylaw.FieldChecks returns true for all its arguments of bulk at most 1048576 (the second form), and leaves them as they were.  -/
import Derived.Test.YtmelbldmpnepcaaDoorRows
import Derived.Test.YtmelbldmpnepcaaDoorFldCheck
import Derived.Test.YtmelbldmpnepcaaDoorFldSame
import Derived.Test.YtmelbldmpnepcaaDoorFldCopyRef
import Derived.Test.YtmelbldmpnepcaaDoorFldOpen
import Derived.Test.YtmelbldmpnepcaaDoorExOpen
import Derived.Test.YtmelbldmpnepcaaDoorKit
import Derived.WalkKit
import Derived.ProofKit
import Derived.OpenShut
import Derived.Deep.RegionHeld3
import Derived.Deep.DrawnRows
import Derived.Deep.DeepCutAuto
import Derived.Deep.QuietTactic
import Derived.BigQuiet
import Derived.WalkSpells
import Derived.WalkLawsBesides
import Derived.Lib.Hide
import Derived.Outline
import Derived.ShutString
import Derived.ChangeOld
import Derived.Below
import Derived.LaidMore
import Derived.SizedLaws
import Derived.Stop.Joined
import Derived.Stop.LaidErr
import Derived.Lib.LaidTab
import Derived.SevenTiedAt
import Derived.Lay
import Derived.LaidOnce
import Derived.Deep.DeepHandedRow
import Derived.Test.YtmelbldmpnepcaaDoorCards
import Derived.Test.YtmelbldmpnepcaaDoorTie
namespace Go.Proofs.YtmelbldmpnepcaaDoor.fieldChecks
open ValM LexM NumM ExM Kit ExL ExN RawV Within RawL GenL FldP FldR FldC
open Go.ChangeShapes Go.WideShapes Go.ChangeAt Go.RowKit
open Go.ChangeMaps (open_string shut_string)
set_option linter.unusedVariables false

theorem own : ownKnob Tryd.prog.godebug = none := by kernel_rfl
theorem laidOut : laidOutB Tryd.prog = true := by kernel_rfl


/-! ### The walk -/
set_option maxHeartbeats 4000000 in
theorem walk (F0 : List GenL.Fd) (A0 : Option Addr) (c0 : Nat)  (w : World) (hfl0 : GenL.Flds w A0 F0) (hfx0 : ∀ (j : Nat) (h : j < F0.length), F0[j].nm.size ≤ maxLen ∧ ∃ x, ExL.Is w x F0[j].d F0[j].A F0[j].n ∧ x.nodes ≤ 1048576) (hcp0 : F0.length ≤ c0 ∧ c0 ≤ maxLen) (hfn0 : F0.length ≤ 1048576) (ht : ExN.Tab w) :
    Calls Tryd.prog 4 #[.slice A0 F0.length c0] w fun e w' => e = .returned (.bool true) ∧ Below w.heap.size w w' := by
  obtain ⟨X, hX⟩ : ∃ X : Nat → Ex, ∀ (k : Nat) (h : k < F0.length), F0[k].nm.size ≤ maxLen ∧ Is w (X k) F0[k].d F0[k].A F0[k].n ∧ (X k).nodes ≤ 1048576 := by
    refine ⟨fun k => if h : k < F0.length then (hfx0 k h).2.choose else .mk ⟨0, 0, 0, ⟨#[]⟩, ⟨#[]⟩⟩ [], fun k h => ?_⟩
    simp only [dif_pos h]
    exact ⟨(hfx0 k h).1, (hfx0 k h).2.choose_spec⟩
  have hF : Forms w F0 X := fun k h => ⟨(hX k h).1, (hX k h).2.1⟩
  have hI : ∀ (k : Nat) (h : k < F0.length), Is w (X k) F0[k].d F0[k].A F0[k].n := fun k h => (hX k h).2.1
  have hN : ∀ k, k < F0.length → (X k).nodes ≤ 1048576 := fun k h => (hX k h).2.2
  have h1 := FldC.check_any F0 X A0 c0 w (by omega) hfl0 hF ht hcp0
  have h2 : ∀ V, Below w.heap.size w V → Calls Tryd.prog 11 #[.slice A0 F0.length c0] V (FldY.CopyOut F0 X V) := fun V hV => FldY.copy_any F0 X A0 c0 V hfn0 (hfl0.below hV) (fun k h => (hI k h).below hV) hN
  have h3 : ∀ V, Below w.heap.size w V → Calls Tryd.prog 12 #[.slice A0 F0.length c0] V fun e w' => e = .returned (.int .i64 (checkF F0 X)) ∧ Below V.heap.size V w' := fun V hV => FldC.refCheck_any F0 X A0 c0 V (by omega) (hfl0.below hV) (hF.below hV) hN
  have h4 : ∀ V, Below w.heap.size w V → Calls Tryd.prog 13 #[.slice A0 F0.length c0] V (FldY.CopyOut F0 X V) := fun V hV => FldY.refCopies_any F0 X A0 c0 V hfn0 (hfl0.below hV) (fun k h => (hI k h).below hV) hN
  generalize checkF F0 X = R at h1 h3
  have H1 := Lib.hid h1
  have H2 := Lib.hid h2
  have H3 := Lib.hid h3
  have H4 := Lib.hid h4
  clear h1 h2 h3 h4 hF hI hN hX hfl0 hfx0 hcp0
  go_enter Tryd.func4, Tryd.ntmps4
  go_wp2_with fail
  refine H1.out.mono ?_; rintro e w1 ⟨rfl, hb1⟩
  have HB1 := Lib.hid hb1
  clear hb1
  go_wp2_with fail
  refine (H2.out _ HB1.out).mono ?_; rintro e w2 ⟨G1, A1, c1, rfl, hl1, hf1, hx1, hb2⟩
  have HB2 := Lib.hid (b_trans HB1.out hb2)
  have HG1 := Lib.hid (And.intro hl1 (And.intro hf1 hx1))
  clear hb2 hl1 hf1 hx1
  go_wp2_with fail
  refine (H3.out _ HB2.out).mono ?_; rintro e w3 ⟨rfl, hb3⟩
  have HB3 := Lib.hid hb3
  clear hb3
  go_wp2_with fail
  refine (H4.out _ (b_trans HB2.out HB3.out)).mono ?_; rintro e w4 ⟨G2, A2, c2, rfl, hl2, hf2, hx2, hb4⟩
  have hb24 := b_trans HB3.out hb4
  obtain ⟨hl1, hf1, hx1⟩ := HG1.out
  have hll : G1.length = G2.length := hl1.trans hl2.symm
  have hs := FldS.eqFields_any G1 G2 X A1 A2 c1 c2 w4 hll (by unfold maxLen; omega) (hf1.below hb24) hf2 fun k h h2 => by
    obtain ⟨a1, a2, a3, a4⟩ := hx1 k h (by omega)
    obtain ⟨b1, b2, b3, b4⟩ := hx2 k h2 (by omega)
    exact ⟨a1.trans b1.symm, a2.trans b2.symm, a3.trans b3.symm, a4.below hb24, b4⟩
  rw [hll] at hs
  have HS := Lib.hid hs
  have HLl := Lib.hid hll
  have HB4 := Lib.hid (b_trans HB2.out hb24)
  have tR : (R == R) = true := by simp
  clear hs hll hl1 hf1 hx1 hl2 hf2 hx2 hb4 hb24 HG1
  rw [HLl.out]
  go_wp2_with fail
  refine HS.out.mono ?_; rintro e w5 ⟨rfl, hb5⟩
  have HB5 := Lib.hid (b_trans HB4.out hb5)
  clear hb5
  go_wp2_with fail
  go_ret
  exact ⟨rfl, HB5.out⟩

theorem not_of {W : World} (h : laidMetH Tryd.prog Rows.fieldChecksUptoRow.laid W) : ExN.Tab W := by
  have h0 : laidMet Tryd.prog Rows.fieldChecksUptoRow.laid W := by rw [MakeChecks.laidMetH_plain _ _ _ (by kernel_rfl)] at h; exact h
  have h1 := h0
  exact NotTab.is_of_head (g := 0) (t := 92) (e := 91) (n := 19) (by kernel_rfl) (by kernel_rfl) Tryd.underlying92 (by kernel_rfl) Tryd.underlying91 (by kernel_rfl) rfl rfl rfl Tryd.underlying9 Tryd.underlying3 Tryd.underlying3 (by kernel_rfl) (by kernel_rfl) (by kernel_rfl) h1

/-! ### The row's step -/
set_option maxRecDepth 100000 in
theorem reads (os : Os) {H : Type} (enc : TypeId × Value → H) : ∃ places, DataW.whole enc Tryd.prog ((World.laidAll Tryd.prog os Rows.fieldChecksUptoRow.laid).forCall (fun _ _ => 0) ⟨#[], #[.slice none 0 0], []⟩).memory Tryd.f4.params.toList Rows.fieldChecksSpec.vars false #[.slice none 0 0].toList 8 = some ([.nil], [], places) := ⟨[], by kernel_rfl⟩
set_option maxRecDepth 100000 in
theorem lifted (os : Os) (started : os.Started) (H : Type) (enc : TypeId × Value → H) (F : Stop.Interp) :
    ReturnsInHanded {} Tryd.checked os 4 .any ((Rows.OpenSpec.upto Rows.fieldChecksSpec).preRow enc Tryd.prog Tryd.f4 Rows.fieldChecksUptoRow.domain false Rows.fieldChecksUptoRow.laid) (((Rows.OpenSpec.upto Rows.fieldChecksSpec).at F).post enc Tryd.prog Tryd.f4 false true false false) := by
  obtain ⟨places, hx⟩ := reads os enc
  refine returnsInHanded_of_row (C := Tryd.checked) (s := Rows.OpenSpec.upto Rows.fieldChecksSpec) own started (by kernel_rfl) Tryd.func4
    (witness_row_at (enc := enc) (C := Tryd.checked) false (World.laidAll Tryd.prog os Rows.fieldChecksUptoRow.laid) #[.slice none 0 0] (World.laidAll_os _ _ _) (by kernel_rfl) (by kernel_rfl) (by kernel_rfl)
      (OpenSpec.preRow_of_cond 8 hx (by kernel_rfl) (fun k hk => by cases hk; kernel_rfl) (by kernel_rfl) (by rw [MakeChecks.laidMetH_plain _ _ _ (by kernel_rfl)]; exact laidMet_laidAll _ (by kernel_rfl) (by kernel_rfl)))) ?_
  intro W base args ds gs before hval0 hW hcnd hcond hsz hL _ _
  have hval : ∀ (j : Nat) t v, Tryd.f4.params[j]? = some t → args[j]? = some v → Value.okWide Tryd.prog W .any base t v := hval0
  have hW' := hW
  obtain ⟨p, q, hA0, hV, rfl, hfz, hnd⟩ := hW
  have hA : DataW.TrodAll enc Tryd.prog W 0 (fun _ => true) true Tryd.f4.params.toList args.toList ds p := hA0
  rw [Tryd.params4] at hA hval
  obtain ⟨v0, vs0, d0, ds0, p0, q0, hargs, rfl, rfl, h0, r0⟩ := trodAll_cons hA
  obtain ⟨rfl, rfl, rfl⟩ := trodAll_nil r0
  obtain rfl : args = #[v0] := by cases args; simp_all
  obtain ⟨rfl, rfl⟩ := trodVars_none hV
  have k0 := h0
  have lt0 : ∀ x ∈ p0, x.block < W.heap.size := by obtain ⟨m, hm⟩ := k0; exact DataW.trod_lt m _ _ _ hm
  obtain ⟨A0, F0, c0, rfl, hfl0, hfn0, hfx0⟩ := FldO.open_flds (hval 0 29 v0 rfl rfl) h0
  have hk := hcond _ rfl
  have hbk := of_decide_eq_true hk
  simp only [List.append_nil, Rows.uptoBulkAll] at hbk
  clear hA0 hval0
  refine (walk F0 A0 c0  W hfl0 (fun j hj => ⟨(hfx0 j hj).1, (hfx0 j hj).2.imp fun x hx => ⟨hx.1, by omega⟩⟩) hfn0.2.2 (by omega) (not_of hL)).mono fun e W' ⟨he, bel⟩ => ?_
  subst he
  exact ⟨_, rfl, _, _, _, [], _, [], hW', trodAll_mk1 (shut_bool Tryd.underlying4 _), (trodAll_cons_mk (Below.trod laidOut (by kernel_rfl) (of_decide_eq_true (by kernel_rfl)) k0 bel lt0) trodAll_mk0), rfl, bel.frame _, fun h => by cases h⟩

theorem over : Rows.FieldChecksUptoSaid :=
  OpenClaim.holds_of_cond 4 Tryd.f4 rfl rfl rfl rfl rfl rfl rfl ⟨rfl, rfl, rfl, rfl, rfl⟩ rfl rfl rfl rfl rfl (by kernel_rfl) Tryd.func4 (by kernel_rfl)
    (of_decide_eq_true (by kernel_rfl)) (by unfold Func.isWrapper; first | (rw [if_pos (by decide +kernel)]; kernel_rfl) | (rw [if_neg (by decide +kernel)]; exact ⟨rfl, rfl⟩))
    (fun os started H enc _ F => by rw [OpenClaim.pre_eq_preRow]; exact lifted os started H enc F)

/-- The tied card. -/
theorem proved : Rows.FieldChecksUptoCardSaid :=
  Claim7.holds_tied_plain_at .later [] [.data] true (true, "e5f1fae129acb53a89eb8152f9e1b06e4042fa1dd395eda2a77818f5e65aadf9") false
    over (fun _ h => by cases h) (by kernel_rfl) (fun _ h => by cases h) fieldChecksUpto_row_tie rfl ⟨rfl, rfl⟩ (by kernel_rfl) rfl
    (fun f fn hf hfn => by
      obtain rfl : f = 4 := Option.some.inj ((show Tryd.prog.funcNamed "lychway/lychwaylaw.FieldChecks" = some 4 by kernel_rfl).symm.trans hf) |>.symm
      obtain rfl : fn = Tryd.f4 := (Option.some.inj (Tryd.func4.symm.trans hfn)).symm
      exact ⟨by kernel_rfl, fun j t ht => by
        rw [Tryd.params4] at ht
        have hm : t ∈ [29] := by simpa using Array.mem_of_getElem? ht
        have hall : ([29].all fun u => !Tryd.prog.wantsStandIn u) = true := by kernel_rfl
        exact (show Tryd.prog.wantsStandIn t = false by simpa using List.all_eq_true.1 hall t hm)⟩)
    (by kernel_rfl)
#print axioms proved
end Go.Proofs.YtmelbldmpnepcaaDoor.fieldChecks
