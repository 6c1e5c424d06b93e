/- What is proved: the Go law lychwaylaw.FormChecks returns true for all its arguments of bulk at most 1048576 (the second form), and leaves them as they were.  -/
import Derived.Test.YtdlfhldboagbeaaGreatDoorRows
import Derived.Test.YtdlfhldboagbeaaGreatDoorShLaw
import Derived.Test.YtdlfhldboagbeaaGreatDoorShCopy
import Derived.Test.YtdlfhldboagbeaaGreatDoorPgOpen
import Derived.Test.YtdlfhldboagbeaaGreatDoorKit
import Derived.WalkKit
import Derived.ProofKit
import Derived.OpenShut
import Derived.Deep.RegionHeld3
import Derived.Deep.DrawnRows
import Derived.Deep.DeepCutAuto
import Derived.Deep.QuietTactic
import Derived.BigQuiet
import Derived.WalkSpells
import Derived.WalkLawsBesides
import Derived.Lib.Hide
import Derived.Outline
import Derived.ShutString
import Derived.ChangeOld
import Derived.Below
import Derived.LaidMore
import Derived.SizedLaws
import Derived.Stop.Joined
import Derived.Stop.LaidErr
import Derived.Lib.LaidTab
import Derived.SevenTiedAt
import Derived.Lay
import Derived.LaidOnce
import Derived.Deep.DeepHandedRow
import Derived.Test.YtdlfhldboagbeaaGreatDoorCards
import Derived.Test.YtdlfhldboagbeaaGreatDoorTie
namespace Go.Proofs.YtdlfhldboagbeaaGreatDoor.formChecks
open ValM LexM NumM ExM NmM Kit ExL ExP ExN RawV Within RawL GenL FldP FldR FldC FrmM PgM PgA RkM RkA RkX ShT ShL ShW ShC
open Go.ChangeShapes Go.WideShapes Go.ChangeAt Go.RowKit
open Go.ChangeMaps (open_string shut_string)
set_option linter.unusedVariables false

theorem own : ownKnob Tryz.prog.godebug = none := by kernel_rfl
theorem laidOut : laidOutB Tryz.prog = true := by kernel_rfl


/-! ### The walk -/
set_option maxRecDepth 100000 in
set_option maxHeartbeats 8000000 in
theorem walk (F0 : List GenL.Fd) (A0 : Option Addr) (c0 : Nat) (P0 : List FrmM.PE) (B0 : Option Addr) (e0 : Nat)  (w : World) (hfl0 : GenL.Flds w A0 F0) (hfx0 : ∀ (j : Nat) (h : j < F0.length), F0[j].nm.size ≤ maxLen ∧ ∃ x, ExL.Is w x F0[j].d F0[j].A F0[j].n ∧ x.nodes ≤ 1048576) (hcp0 : F0.length ≤ c0 ∧ c0 ≤ maxLen) (hfn0 : F0.length ≤ 1048576) (hpg0 : PgM.Pgs w B0 P0) (hpx0 : ∀ e ∈ P0, PgM.PgOk w e ∧ (e.fs.length ≤ e.fc ∧ e.fc ≤ maxLen) ∧ e.x.nodes ≤ 1048576 ∧ e.fs.length ≤ 1048576) (hpd0 : P0.length ≤ e0 ∧ e0 ≤ maxLen) (hpn0 : P0.length ≤ 1048576) (ht : ExN.Tab w) :
    Calls Tryz.prog 3 #[.agg #[.slice A0 F0.length c0, .slice B0 P0.length e0]] w fun e w' => e = .returned (.bool true) ∧ Below w.heap.size w w' := by
  obtain ⟨R, hCk, hFt⟩ := both_any F0 A0 c0 P0 B0 e0 w hfn0 hfl0 hfx0 hcp0 hpg0 hpx0 hpd0 hpn0 ht
  have ho : PgsOk w P0 := fun e he => (hpx0 e he).1
  have hlp : ∀ e ∈ P0, e.fs.length ≤ 1048576 ∧ e.x.nodes ≤ 1048576 := fun e he => ⟨(hpx0 e he).2.2.2, (hpx0 e he).2.2.1⟩
  obtain ⟨X, hX⟩ : ∃ X : Nat → Ex, ∀ (k : Nat) (h : k < F0.length), Is w (X k) F0[k].d F0[k].A F0[k].n ∧ (X k).nodes ≤ 1048576 := by
    refine ⟨fun k => if h : k < F0.length then (hfx0 k h).2.choose else .mk ⟨0, 0, 0, ⟨#[]⟩, ⟨#[]⟩⟩ [], fun k h => ?_⟩
    simp only [dif_pos h]
    exact (hfx0 k h).2.choose_spec
  have hN : ∀ k, k < F0.length → (X k).nodes ≤ 1048576 := fun k h => (hX k h).2
  have hfc : ∀ V, Below w.heap.size w V → Calls Tryz.prog 25 #[.slice A0 F0.length c0] V (FldY.CopyOut F0 X V) := fun V hV => FldY.copy_any F0 X A0 c0 V hfn0 (hfl0.below hV) (fun k h => (hX k h).1.below hV) hN
  have hrc : ∀ V, Below w.heap.size w V → Calls Tryz.prog 29 #[.slice A0 F0.length c0] V (FldY.CopyOut F0 X V) := fun V hV => FldY.refCopies_any F0 X A0 c0 V hfn0 (hfl0.below hV) (fun k h => (hX k h).1.below hV) hN
  have hpc : ∀ V, Below w.heap.size w V → Calls Tryz.prog 26 #[.slice B0 P0.length e0] V (PgD.Copied P0 V) := fun V hV => (PgC.copy_any P0 B0 e0 V hpn0 (hpg0.below hV) (ho.below hV) hlp).mono fun r w' h => PgD.copied h
  have h2 : ∀ V, Below w.heap.size w V → Calls Tryz.prog 7 #[.agg #[.slice A0 F0.length c0, .slice B0 P0.length e0]] V fun e w' => ∃ v, e = .returned v ∧ FormAt F0 X P0 w' v ∧ Below V.heap.size V w' := fun V hV => ShC.copy_any F0 X A0 c0 P0 B0 e0 V (fun V' hV' => hfc V' (hV.trans (hV'.mono hV.size))) (fun V' hV' => hpc V' (hV.trans (hV'.mono hV.size)))
  have h4 : ∀ V, Below w.heap.size w V → Calls Tryz.prog 9 #[.agg #[.slice A0 F0.length c0, .slice B0 P0.length e0]] V fun e w' => ∃ v, e = .returned v ∧ FormAt F0 X P0 w' v ∧ Below V.heap.size V w' := fun V hV => ShC.refCopy_any F0 X A0 c0 P0 B0 e0 V hpn0 (hpg0.below hV) (ho.below hV) hlp (fun V' hV' => hrc V' (hV.trans (hV'.mono hV.size)))
  have h5 := fun (v1 v2 : Value) (V : World) (a : FormAt F0 X P0 V v1) (b : FormAt F0 X P0 V v2) => ShC.same_any F0 X P0 v1 v2 V hfn0 hpn0 (fun e he => (hlp e he).1) a b
  have hb0 := b_new w (frBox A0 F0.length c0 B0 P0.length e0)
  obtain ⟨W1, hW1⟩ : ∃ V, w.alloc (frBox A0 F0.length c0 B0 P0.length e0) = V := ⟨_, rfl⟩
  obtain ⟨B1, hB1⟩ : ∃ B, w.heap.size = B := ⟨_, rfl⟩
  have hcell := fr_cells w A0 F0.length c0 B0 P0.length e0
  rw [hW1] at hb0 hcell
  rw [hB1] at hcell
  obtain ⟨x0, x1⟩ := hcell W1 (Below.refl _ _)
  have tR : (R == R) = true := by simp
  have H1 := Lib.hid hCk
  have H2 := Lib.hid h2
  have H3 := Lib.hid hFt
  have H4 := Lib.hid h4
  have H5 := Lib.hid h5
  have HW1 := Lib.hid hW1
  have HB1 := Lib.hid hB1
  have Hb0 := Lib.hid hb0
  have HCell := Lib.hid hcell
  clear h2 h4 h5 hCk hFt hfc hrc hpc hfl0 hfx0 hpg0 hpx0 hpd0 hcp0 ho hlp hN hX hW1 hB1 hb0 hcell ht
  unfold frBox at HW1
  go_enter Tryz.func3, Tryz.ntmps3
  go_upto_region 1 with fail
  rw [HW1.out, HB1.out]
  go_wp2_with fail
  refine (H1.out _ Hb0.out).mono ?_; rintro e w1 ⟨rfl, hb1⟩
  obtain ⟨x0, x1⟩ := HCell.out w1 hb1
  have Hb1 := Lib.hid hb1
  clear hb1
  go_wp2_with fail
  refine (H2.out _ (b_trans Hb0.out Hb1.out)).mono ?_; rintro e w2 ⟨v2, rfl, hat2, hb2⟩
  obtain ⟨G, GA, gc, L, LA, lc, rfl, g⟩ := hat2
  have hat2 : FormAt F0 X P0 w2 (.agg #[.slice GA G.length gc, .slice LA L.length lc]) := ⟨G, GA, gc, L, LA, lc, rfl, g⟩
  obtain ⟨W3, hW3⟩ : ∃ V, w2.alloc (frBox GA G.length gc LA L.length lc) = V := ⟨_, rfl⟩
  obtain ⟨B3, hB3⟩ : ∃ B, w2.heap.size = B := ⟨_, rfl⟩
  have hb3 := b_new w2 (frBox GA G.length gc LA L.length lc)
  have hcell3 := fr_cells w2 GA G.length gc LA L.length lc
  rw [hW3] at hb3 hcell3
  rw [hB3] at hcell3
  have hb13 := b_trans Hb1.out (b_trans hb2 hb3)
  obtain ⟨x0, x1⟩ := HCell.out W3 hb13
  have HAt2 := Lib.hid (hat2.below hb3)
  have HW3 := Lib.hid hW3
  have HB3 := Lib.hid hB3
  have Hb3 := Lib.hid hb13
  have HCell3 := Lib.hid hcell3
  clear g hat2 hW3 hB3 hb3 hcell3 hb13 hb2
  unfold frBox at HW3
  go_upto_region 3 with fail
  rw [HW3.out, HB3.out]
  go_wp2_with fail
  refine (H3.out _ (b_trans Hb0.out Hb3.out)).mono ?_; rintro e w4 ⟨rfl, hb4⟩
  have hb14 := b_trans Hb3.out hb4
  obtain ⟨x0, x1⟩ := HCell.out w4 hb14
  have Hb4 := Lib.hid (And.intro hb4 hb14)
  clear hb4 hb14
  go_wp2_with fail
  refine (H4.out _ (b_trans Hb0.out Hb4.out.2)).mono ?_; rintro e w5 ⟨v5, rfl, hat5, hb5⟩
  obtain ⟨G2, GA2, gc2, L2, LA2, lc2, rfl, g⟩ := hat5
  have hat5 : FormAt F0 X P0 w5 (.agg #[.slice GA2 G2.length gc2, .slice LA2 L2.length lc2]) := ⟨G2, GA2, gc2, L2, LA2, lc2, rfl, g⟩
  obtain ⟨W6, hW6⟩ : ∃ V, w5.alloc (frBox GA2 G2.length gc2 LA2 L2.length lc2) = V := ⟨_, rfl⟩
  obtain ⟨B6, hB6⟩ : ∃ B, w5.heap.size = B := ⟨_, rfl⟩
  have hb6 := b_new w5 (frBox GA2 G2.length gc2 LA2 L2.length lc2)
  have hcell6 := fr_cells w5 GA2 G2.length gc2 LA2 L2.length lc2
  rw [hW6] at hb6 hcell6
  rw [hB6] at hcell6
  have hb36 := b_trans Hb4.out.1 (b_trans hb5 hb6)
  obtain ⟨y0, y1⟩ := HCell3.out W6 hb36
  obtain ⟨z0, z1⟩ := hcell6 W6 (Below.refl _ _)
  have hs := H5.out _ _ W6 (HAt2.out.below hb36) (hat5.below hb6)
  have HS := Lib.hid hs
  have HW6 := Lib.hid hW6
  have HB6 := Lib.hid hB6
  have Hb6 := Lib.hid (b_trans Hb0.out (b_trans Hb3.out hb36))
  clear g hat5 hW6 hB6 hb6 hcell6 hb36 hb5 hs
  unfold frBox at HW6
  go_upto_region 5 with fail
  rw [HW6.out, HB6.out]
  go_wp2_with fail
  refine HS.out.mono ?_; rintro e w7 ⟨rfl, hb7⟩
  have HB7 := Lib.hid (b_trans Hb6.out hb7)
  clear hb7
  go_wp2_with fail
  go_ret
  exact ⟨rfl, HB7.out⟩

theorem not_of {W : World} (h : laidMetH Tryz.prog Rows.formChecksUptoRow.laid W) : ExN.Tab W := by
  have h0 : laidMet Tryz.prog Rows.formChecksUptoRow.laid W := by rw [MakeChecks.laidMetH_plain _ _ _ (by kernel_rfl)] at h; exact h
  have h1 := h0
  exact NotTab.is_of_head (g := 0) (t := 160) (e := 159) (n := 19) (by kernel_rfl) (by kernel_rfl) Tryz.underlying160 (by kernel_rfl) Tryz.underlying159 (by kernel_rfl) rfl rfl rfl Tryz.underlying9 Tryz.underlying3 Tryz.underlying3 (by kernel_rfl) (by kernel_rfl) (by kernel_rfl) h1

/-! ### The row's step -/
set_option maxRecDepth 100000 in
theorem reads (os : Os) {H : Type} (enc : TypeId × Value → H) : ∃ places, DataW.whole enc Tryz.prog ((World.laidAll Tryz.prog os Rows.formChecksUptoRow.laid).forCall (fun _ _ => 0) ⟨#[], #[.agg #[.slice none 0 0, .slice none 0 0]], []⟩).memory Tryz.f3.params.toList Rows.formChecksSpec.vars false #[.agg #[.slice none 0 0, .slice none 0 0]].toList 8 = some ([.agg [.nil, .nil]], [], places) := ⟨[], by kernel_rfl⟩
set_option maxRecDepth 100000 in
theorem lifted (os : Os) (started : os.Started) (H : Type) (enc : TypeId × Value → H) (F : Stop.Interp) :
    ReturnsInHanded {} Tryz.checked os 3 .any ((Rows.OpenSpec.upto Rows.formChecksSpec).preRow enc Tryz.prog Tryz.f3 Rows.formChecksUptoRow.domain false Rows.formChecksUptoRow.laid) (((Rows.OpenSpec.upto Rows.formChecksSpec).at F).post enc Tryz.prog Tryz.f3 false true false false) := by
  obtain ⟨places, hx⟩ := reads os enc
  refine returnsInHanded_of_row (C := Tryz.checked) (s := Rows.OpenSpec.upto Rows.formChecksSpec) own started (by kernel_rfl) Tryz.func3
    (witness_row_at (enc := enc) (C := Tryz.checked) false (World.laidAll Tryz.prog os Rows.formChecksUptoRow.laid) #[.agg #[.slice none 0 0, .slice none 0 0]] (World.laidAll_os _ _ _) (by kernel_rfl) (by kernel_rfl) (by kernel_rfl)
      (OpenSpec.preRow_of_cond 8 hx (by kernel_rfl) (fun k hk => by cases hk; kernel_rfl) (by kernel_rfl) (by rw [MakeChecks.laidMetH_plain _ _ _ (by kernel_rfl)]; exact laidMet_laidAll _ (by kernel_rfl) (by kernel_rfl)))) ?_
  intro W base args ds gs before hval0 hW hcnd hcond hsz hL _ _
  have hval : ∀ (j : Nat) t v, Tryz.f3.params[j]? = some t → args[j]? = some v → Value.okWide Tryz.prog W .any base t v := hval0
  have hW' := hW
  obtain ⟨p, q, hA0, hV, rfl, hfz, hnd⟩ := hW
  have hA : DataW.TrodAll enc Tryz.prog W 0 (fun _ => true) true Tryz.f3.params.toList args.toList ds p := hA0
  rw [Tryz.params3] at hA hval
  obtain ⟨v0, vs0, d0, ds0, p0, q0, hargs, rfl, rfl, h0, r0⟩ := trodAll_cons hA
  obtain ⟨rfl, rfl, rfl⟩ := trodAll_nil r0
  obtain rfl : args = #[v0] := by cases args; simp_all
  obtain ⟨rfl, rfl⟩ := trodVars_none hV
  have k0 := h0
  have lt0 : ∀ x ∈ p0, x.block < W.heap.size := by obtain ⟨m, hm⟩ := k0; exact DataW.trod_lt m _ _ _ hm
  obtain ⟨A0, F0, c0, B0, P0, e0, rfl, ⟨hfl0, hfn0, hfx0⟩, ⟨hpg0, hpn0, hpx0⟩⟩ := FrmO.open_frm (hval 0 25 v0 rfl rfl) h0
  have hk := hcond _ rfl
  have hbk := of_decide_eq_true hk
  simp only [List.append_nil, Rows.uptoBulkAll] at hbk
  clear hA0 hval0
  refine (walk F0 A0 c0 P0 B0 e0  W hfl0 (fun j hj => ⟨(hfx0 j hj).1, (hfx0 j hj).2.imp fun x hx => ⟨hx.1, by omega⟩⟩) hfn0.2.2 (by omega) hpg0 (fun e he => ⟨(hpx0 e he).1, (hpx0 e he).2.1, by have := (hpx0 e he).2.2.1; omega, by have := (hpx0 e he).2.2.2; omega⟩) hpn0.2.2 (by omega) (not_of hL)).mono fun e W' ⟨he, bel⟩ => ?_
  subst he
  exact ⟨_, rfl, _, _, _, [], _, [], hW', trodAll_mk1 (shut_bool Tryz.underlying4 _), (trodAll_cons_mk (Below.trod laidOut (by kernel_rfl) (of_decide_eq_true (by kernel_rfl)) k0 bel lt0) trodAll_mk0), rfl, bel.frame _, fun h => by cases h⟩

theorem over : Rows.FormChecksUptoSaid :=
  OpenClaim.holds_of_cond 3 Tryz.f3 rfl rfl rfl rfl rfl rfl rfl ⟨rfl, rfl, rfl, rfl, rfl⟩ rfl rfl rfl rfl rfl (by kernel_rfl) Tryz.func3 (by kernel_rfl)
    (of_decide_eq_true (by kernel_rfl)) (by unfold Func.isWrapper; first | (rw [if_pos (by decide +kernel)]; kernel_rfl) | (rw [if_neg (by decide +kernel)]; exact ⟨rfl, rfl⟩))
    (fun os started H enc _ F => by rw [OpenClaim.pre_eq_preRow]; exact lifted os started H enc F)

/-- The tied card. -/
theorem proved : Rows.FormChecksUptoCardSaid :=
  Claim7.holds_tied_plain_at .later [] [.data] true (true, "ff5b94c29dd75854d1af953921bf2bee20dbe9c67f3747fbcdc6bb0a2705bc95") false
    over (fun _ h => by cases h) (by kernel_rfl) (fun _ h => by cases h) formChecksUpto_row_tie rfl ⟨rfl, rfl⟩ (by kernel_rfl) rfl
    (fun f fn hf hfn => by
      obtain rfl : f = 3 := Option.some.inj ((show Tryz.prog.funcNamed "lychway/lychwaylaw.FormChecks" = some 3 by kernel_rfl).symm.trans hf) |>.symm
      obtain rfl : fn = Tryz.f3 := (Option.some.inj (Tryz.func3.symm.trans hfn)).symm
      exact ⟨by kernel_rfl, fun j t ht => by
        rw [Tryz.params3] at ht
        have hm : t ∈ [25] := by simpa using Array.mem_of_getElem? ht
        have hall : ([25].all fun u => !Tryz.prog.wantsStandIn u) = true := by kernel_rfl
        exact (show Tryz.prog.wantsStandIn t = false by simpa using List.all_eq_true.1 hall t hm)⟩)
    (by kernel_rfl)
#print axioms proved
end Go.Proofs.YtdlfhldboagbeaaGreatDoor.formChecks
