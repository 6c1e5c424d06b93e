/- What is proved: the Go law lychwaylaw.FormTells returns true for all its arguments of bulk at most 1048576 (the second form), and leaves them as they were.  -/
import Derived.Test.YtdlfhldboagbeaaGreatDoorRows
import Derived.Test.YtdlfhldboagbeaaGreatDoorShLaw
import Derived.Test.YtdlfhldboagbeaaGreatDoorPgOpen
import Derived.Test.YtdlfhldboagbeaaGreatDoorKit
import Derived.WalkKit
import Derived.ProofKit
import Derived.OpenShut
import Derived.Deep.RegionHeld3
import Derived.Deep.DrawnRows
import Derived.Deep.DeepCutAuto
import Derived.Deep.QuietTactic
import Derived.BigQuiet
import Derived.WalkSpells
import Derived.WalkLawsBesides
import Derived.Lib.Hide
import Derived.Outline
import Derived.ShutString
import Derived.ChangeOld
import Derived.Below
import Derived.LaidMore
import Derived.SizedLaws
import Derived.Stop.Joined
import Derived.Stop.LaidErr
import Derived.Lib.LaidTab
import Derived.SevenTiedAt
import Derived.Lay
import Derived.LaidOnce
import Derived.Deep.DeepHandedRow
import Derived.Test.YtdlfhldboagbeaaGreatDoorCards
import Derived.Test.YtdlfhldboagbeaaGreatDoorTie
namespace Go.Proofs.YtdlfhldboagbeaaGreatDoor.formTells
open ValM LexM NumM ExM NmM Kit ExL ExP ExN RawV Within RawL GenL FldP FldR FldC FrmM PgM PgA RkM RkA RkX ShT ShL ShW
open Go.ChangeShapes Go.WideShapes Go.ChangeAt Go.RowKit
open Go.ChangeMaps (open_string shut_string)
set_option linter.unusedVariables false

theorem own : ownKnob Tryz.prog.godebug = none := by kernel_rfl
theorem laidOut : laidOutB Tryz.prog = true := by kernel_rfl


/-! ### The walk -/
set_option maxRecDepth 100000 in
set_option maxHeartbeats 8000000 in
theorem walk (F0 : List GenL.Fd) (A0 : Option Addr) (c0 : Nat) (P0 : List FrmM.PE) (B0 : Option Addr) (e0 : Nat)  (w : World) (hfl0 : GenL.Flds w A0 F0) (hfx0 : ∀ (j : Nat) (h : j < F0.length), F0[j].nm.size ≤ maxLen ∧ ∃ x, ExL.Is w x F0[j].d F0[j].A F0[j].n ∧ x.nodes ≤ 1048576) (hcp0 : F0.length ≤ c0 ∧ c0 ≤ maxLen) (hfn0 : F0.length ≤ 1048576) (hpg0 : PgM.Pgs w B0 P0) (hpx0 : ∀ e ∈ P0, PgM.PgOk w e ∧ (e.fs.length ≤ e.fc ∧ e.fc ≤ maxLen) ∧ e.x.nodes ≤ 1048576 ∧ e.fs.length ≤ 1048576) (hpd0 : P0.length ≤ e0 ∧ e0 ≤ maxLen) (hpn0 : P0.length ≤ 1048576) (ht : ExN.Tab w) :
    Calls Tryz.prog 4 #[.agg #[.slice A0 F0.length c0, .slice B0 P0.length e0]] w fun e w' => e = .returned (.bool true) ∧ Below w.heap.size w w' := by
  obtain ⟨R, hCk, hFt⟩ := both_any F0 A0 c0 P0 B0 e0 w hfn0 hfl0 hfx0 hcp0 hpg0 hpx0 hpd0 hpn0 ht
  have ho : PgsOk w P0 := fun e he => (hpx0 e he).1
  have hpm : P0.length ≤ maxLen := by unfold maxLen; omega
  obtain ⟨LI, hLI⟩ : ∃ L, (if R = 0 then insI F0 F0.length else []) = L := ⟨_, rfl⟩
  obtain ⟨LT, hLT⟩ : ∃ L, (if R = 0 then freeT F0 P0 F0.length else []) = L := ⟨_, rfl⟩
  have hli : LI.length ≤ 1048576 := by
    rw [← hLI]
    have := insI_len F0 F0.length
    split
    · omega
    · simp
  have hlt : LT.length ≤ 1048576 := by
    rw [← hLT]
    have := freeT_len F0 P0 F0.length
    split
    · omega
    · simp
  have h1 : ∀ V, Below w.heap.size w V → Calls Tryz.prog 11 #[.agg #[.slice A0 F0.length c0, .slice B0 P0.length e0]] V fun r w' => ∃ v, r = .returned (.tuple #[v, .int .i64 R]) ∧ IntsV w' v LI ∧ Below V.heap.size V w' := fun V hV => by
    have := ShL.inputs_any F0 A0 c0 B0 P0.length e0 R V hfn0 (hfl0.below hV) fun V' hV' => hCk V' (hV.trans (hV'.mono hV.size))
    rw [hLI] at this
    exact this.mono fun r w' h => by
      obtain ⟨v, rfl, ho, hb⟩ := h
      exact ⟨v, rfl, IntsV.of_own ho rfl, hb⟩
  have h2 : ∀ V, Below w.heap.size w V → Calls Tryz.prog 12 #[.agg #[.slice A0 F0.length c0, .slice B0 P0.length e0]] V fun r w' => ∃ v, r = .returned (.tuple #[v, .int .i64 R]) ∧ TextsV w' v LT ∧ Below V.heap.size V w' := fun V hV => by
    have := ShL.free_any F0 A0 c0 P0 B0 e0 R V hfn0 (hfl0.below hV) (fun V' hV' => hCk V' (hV.trans (hV'.mono hV.size))) fun s V' hV' => PgA.of_any s P0 B0 e0 V' hpm (hpg0.below (hV.trans (hV'.mono hV.size))) (ho.below (hV.trans (hV'.mono hV.size)))
    rw [hLT] at this
    exact this.mono fun r w' h => by
      obtain ⟨v, rfl, ho, hb⟩ := h
      exact ⟨v, rfl, ShW.TextsV.of_own ho rfl, hb⟩
  have h3 : ∀ V, Below w.heap.size w V → Calls Tryz.prog 13 #[.agg #[.slice A0 F0.length c0, .slice B0 P0.length e0], .int .i64 R] V fun r w' => ∃ v, r = .returned v ∧ IntsV w' v LI ∧ Below V.heap.size V w' := fun V hV => by
    have := ShL.lawInputs_any F0 A0 c0 B0 P0.length e0 R V hfn0 (hfl0.below hV)
    rw [hLI] at this
    exact this.mono fun r w' h => by
      obtain ⟨v, rfl, ho, hb⟩ := h
      exact ⟨v, rfl, IntsV.of_own ho rfl, hb⟩
  have h4 : ∀ V, Below w.heap.size w V → Calls Tryz.prog 14 #[.agg #[.slice A0 F0.length c0, .slice B0 P0.length e0], .int .i64 R] V fun r w' => ∃ v, r = .returned v ∧ TextsV w' v LT ∧ Below V.heap.size V w' := fun V hV => by
    have := ShL.lawFree_any F0 A0 c0 P0 B0 e0 R V hfn0 (hfl0.below hV) hpm (hpg0.below hV) (ho.below hV)
    rw [hLT] at this
    exact this.mono fun r w' h => by
      obtain ⟨v, rfl, ho, hb⟩ := h
      exact ⟨v, rfl, ShW.TextsV.of_own ho rfl, hb⟩
  have hb0 := b_new w (frBox A0 F0.length c0 B0 P0.length e0)
  obtain ⟨W1, hW1⟩ : ∃ V, w.alloc (frBox A0 F0.length c0 B0 P0.length e0) = V := ⟨_, rfl⟩
  obtain ⟨B1, hB1⟩ : ∃ B, w.heap.size = B := ⟨_, rfl⟩
  have hcell := fr_cells w A0 F0.length c0 B0 P0.length e0
  rw [hW1] at hb0 hcell
  rw [hB1] at hcell
  obtain ⟨x0, x1⟩ := hcell W1 (Below.refl _ _)
  have tR : (R == R) = true := by simp
  have H1 := Lib.hid h1
  have H2 := Lib.hid h2
  have H3 := Lib.hid h3
  have H4 := Lib.hid h4
  have H5 := Lib.hid hFt
  have HLi := Lib.hid hli
  have HLt := Lib.hid hlt
  have HW1 := Lib.hid hW1
  have HB1 := Lib.hid hB1
  have Hb0 := Lib.hid hb0
  have HCell := Lib.hid hcell
  clear h1 h2 h3 h4 hFt hCk hli hlt hfl0 hfx0 hpg0 hpx0 hpd0 hcp0 ho hpm hW1 hB1 hb0 hcell hLI hLT ht
  unfold frBox at HW1
  go_enter Tryz.func4, Tryz.ntmps4
  go_upto_region 1 with fail
  rw [HW1.out, HB1.out]
  go_wp2_with fail
  refine (H1.out _ Hb0.out).mono ?_; rintro e w1 ⟨v1, rfl, hi1, hb1⟩
  obtain ⟨x0, x1⟩ := HCell.out w1 hb1
  have HI1 := Lib.hid hi1
  have Hb1 := Lib.hid hb1
  clear hb1 hi1
  go_wp2_with fail
  refine (H2.out _ (b_trans Hb0.out Hb1.out)).mono ?_; rintro e w2 ⟨p1, rfl, ht1, hb2⟩
  have hb12 := b_trans Hb1.out hb2
  obtain ⟨x0, x1⟩ := HCell.out w2 hb12
  have HI2 := Lib.hid (And.intro (HI1.out.below hb2) ht1)
  have Hb2 := Lib.hid hb12
  clear hb2 ht1 hb12
  go_wp2_with fail
  refine (H5.out _ (b_trans Hb0.out Hb2.out)).mono ?_; rintro e w3 ⟨rfl, hb3⟩
  have hb13 := b_trans Hb2.out hb3
  have HI3 := Lib.hid (And.intro (HI2.out.1.below hb3) (HI2.out.2.below hb3))
  have Hb3 := Lib.hid hb13
  have hbl := Below.refl w3.heap.size w3
  have hcell3 : ∀ V, Below w3.heap.size w3 V → V.cell? ⟨B1, 0, none⟩ = some (.slice A0 F0.length c0) ∧ V.cell? ⟨B1, 1, none⟩ = some (.slice B0 P0.length e0) := fun V hV => HCell.out V (b_trans hb13 hV)
  obtain ⟨x0, x1⟩ := hcell3 w3 hbl
  have HCell3 := Lib.hid hcell3
  clear hb3 hb13 hcell3
  go_upto_region 4 with fail
  go_region_held3 (fun V => V.cell? ⟨B1, 0, none⟩ = some (.slice A0 F0.length c0) ∧ V.cell? ⟨B1, 1, none⟩ = some (.slice B0 P0.length e0)) (first | (with_reducible exact HCell3.out _ hbl) | (with_reducible exact HCell3.out _ (b_drew hbl))) (first | (go_at_call 13; (with_reducible refine (H3.out _ ?_).mono ?_); (first | exact b_trans Hb0.out (b_trans Hb3.out hbl) | exact b_trans Hb0.out (b_trans Hb3.out (b_drew hbl))); rintro e w4 ⟨v2, rfl, hi4, hb4⟩; have hbl : Below w3.heap.size w3 w4 := (by first | exact hbl.trans (hb4.mono hbl.size) | exact (b_drew hbl).trans (hb4.mono hbl.size)); obtain ⟨x0, x1⟩ := HCell3.out w4 hbl; have HI4 := Lib.hid hi4; clear hi4 hb4) | (go_at_call 14; (with_reducible refine (H4.out _ ?_).mono ?_); (first | exact b_trans Hb0.out (b_trans Hb3.out hbl) | exact b_trans Hb0.out (b_trans Hb3.out (b_drew hbl))); rintro e w5 ⟨p2, rfl, hi5, hb5⟩; have HI5 := Lib.hid (And.intro hi5 hb5); have hbl : Below w3.heap.size w3 w5 := (by first | exact hbl.trans (hb5.mono hbl.size) | exact (b_drew hbl).trans (hb5.mono hbl.size)); obtain ⟨x0, x1⟩ := HCell3.out w5 hbl; have HBl := Lib.hid hbl; clear hi5 hb5) | (fail))
  all_goals
    have hi4 : IntsV w5 v2 LI := by first | exact HI4.out.below HI5.out.2 | exact HI4.out.below (b_undrew HI5.out.2)
    have hs1 := sameInts_any LI v1 v2 w5 HLi.out (HI3.out.1.below HBl.out) hi4
    have hs2 := fun V (hV : Below w5.heap.size w5 V) => sameTexts_any LT p1 p2 V HLt.out ((HI3.out.2.below HBl.out).below hV) (HI5.out.1.below hV)
    have HS1 := Lib.hid hs1
    have HS2 := Lib.hid hs2
    have HB5 := Lib.hid (b_trans Hb0.out (b_trans Hb3.out HBl.out))
    clear hi4 hs1 hs2 x0 x1
    go_wp2_with fail
    refine HS1.out.mono ?_; rintro e w6 ⟨rfl, hb6⟩
    have HB6 := Lib.hid hb6
    clear hb6
    go_wp2_with fail
    refine (HS2.out _ HB6.out).mono ?_; rintro e w7 ⟨rfl, hb7⟩
    have HB7 := Lib.hid hb7
    clear hb7
    go_wp2_with fail
    go_ret
    exact ⟨rfl, b_trans HB5.out (b_trans HB6.out HB7.out)⟩

theorem not_of {W : World} (h : laidMetH Tryz.prog Rows.formTellsUptoRow.laid W) : ExN.Tab W := by
  have h0 : laidMet Tryz.prog Rows.formTellsUptoRow.laid W := by rw [MakeChecks.laidMetH_plain _ _ _ (by kernel_rfl)] at h; exact h
  have h1 := h0
  exact NotTab.is_of_head (g := 0) (t := 160) (e := 159) (n := 19) (by kernel_rfl) (by kernel_rfl) Tryz.underlying160 (by kernel_rfl) Tryz.underlying159 (by kernel_rfl) rfl rfl rfl Tryz.underlying9 Tryz.underlying3 Tryz.underlying3 (by kernel_rfl) (by kernel_rfl) (by kernel_rfl) h1

/-! ### The row's step -/
set_option maxRecDepth 100000 in
theorem reads (os : Os) {H : Type} (enc : TypeId × Value → H) : ∃ places, DataW.whole enc Tryz.prog ((World.laidAll Tryz.prog os Rows.formTellsUptoRow.laid).forCall (fun _ _ => 0) ⟨#[], #[.agg #[.slice none 0 0, .slice none 0 0]], []⟩).memory Tryz.f4.params.toList Rows.formTellsSpec.vars false #[.agg #[.slice none 0 0, .slice none 0 0]].toList 8 = some ([.agg [.nil, .nil]], [], places) := ⟨[], by kernel_rfl⟩
set_option maxRecDepth 100000 in
theorem lifted (os : Os) (started : os.Started) (H : Type) (enc : TypeId × Value → H) (F : Stop.Interp) :
    ReturnsInHanded {} Tryz.checked os 4 .any ((Rows.OpenSpec.upto Rows.formTellsSpec).preRow enc Tryz.prog Tryz.f4 Rows.formTellsUptoRow.domain false Rows.formTellsUptoRow.laid) (((Rows.OpenSpec.upto Rows.formTellsSpec).at F).post enc Tryz.prog Tryz.f4 false true false false) := by
  obtain ⟨places, hx⟩ := reads os enc
  refine returnsInHanded_of_row (C := Tryz.checked) (s := Rows.OpenSpec.upto Rows.formTellsSpec) own started (by kernel_rfl) Tryz.func4
    (witness_row_at (enc := enc) (C := Tryz.checked) false (World.laidAll Tryz.prog os Rows.formTellsUptoRow.laid) #[.agg #[.slice none 0 0, .slice none 0 0]] (World.laidAll_os _ _ _) (by kernel_rfl) (by kernel_rfl) (by kernel_rfl)
      (OpenSpec.preRow_of_cond 8 hx (by kernel_rfl) (fun k hk => by cases hk; kernel_rfl) (by kernel_rfl) (by rw [MakeChecks.laidMetH_plain _ _ _ (by kernel_rfl)]; exact laidMet_laidAll _ (by kernel_rfl) (by kernel_rfl)))) ?_
  intro W base args ds gs before hval0 hW hcnd hcond hsz hL _ _
  have hval : ∀ (j : Nat) t v, Tryz.f4.params[j]? = some t → args[j]? = some v → Value.okWide Tryz.prog W .any base t v := hval0
  have hW' := hW
  obtain ⟨p, q, hA0, hV, rfl, hfz, hnd⟩ := hW
  have hA : DataW.TrodAll enc Tryz.prog W 0 (fun _ => true) true Tryz.f4.params.toList args.toList ds p := hA0
  rw [Tryz.params4] at hA hval
  obtain ⟨v0, vs0, d0, ds0, p0, q0, hargs, rfl, rfl, h0, r0⟩ := trodAll_cons hA
  obtain ⟨rfl, rfl, rfl⟩ := trodAll_nil r0
  obtain rfl : args = #[v0] := by cases args; simp_all
  obtain ⟨rfl, rfl⟩ := trodVars_none hV
  have k0 := h0
  have lt0 : ∀ x ∈ p0, x.block < W.heap.size := by obtain ⟨m, hm⟩ := k0; exact DataW.trod_lt m _ _ _ hm
  obtain ⟨A0, F0, c0, B0, P0, e0, rfl, ⟨hfl0, hfn0, hfx0⟩, ⟨hpg0, hpn0, hpx0⟩⟩ := FrmO.open_frm (hval 0 25 v0 rfl rfl) h0
  have hk := hcond _ rfl
  have hbk := of_decide_eq_true hk
  simp only [List.append_nil, Rows.uptoBulkAll] at hbk
  clear hA0 hval0
  refine (walk F0 A0 c0 P0 B0 e0  W hfl0 (fun j hj => ⟨(hfx0 j hj).1, (hfx0 j hj).2.imp fun x hx => ⟨hx.1, by omega⟩⟩) hfn0.2.2 (by omega) hpg0 (fun e he => ⟨(hpx0 e he).1, (hpx0 e he).2.1, by have := (hpx0 e he).2.2.1; omega, by have := (hpx0 e he).2.2.2; omega⟩) hpn0.2.2 (by omega) (not_of hL)).mono fun e W' ⟨he, bel⟩ => ?_
  subst he
  exact ⟨_, rfl, _, _, _, [], _, [], hW', trodAll_mk1 (shut_bool Tryz.underlying4 _), (trodAll_cons_mk (Below.trod laidOut (by kernel_rfl) (of_decide_eq_true (by kernel_rfl)) k0 bel lt0) trodAll_mk0), rfl, bel.frame _, fun h => by cases h⟩

theorem over : Rows.FormTellsUptoSaid :=
  OpenClaim.holds_of_cond 4 Tryz.f4 rfl rfl rfl rfl rfl rfl rfl ⟨rfl, rfl, rfl, rfl, rfl⟩ rfl rfl rfl rfl rfl (by kernel_rfl) Tryz.func4 (by kernel_rfl)
    (of_decide_eq_true (by kernel_rfl)) (by unfold Func.isWrapper; first | (rw [if_pos (by decide +kernel)]; kernel_rfl) | (rw [if_neg (by decide +kernel)]; exact ⟨rfl, rfl⟩))
    (fun os started H enc _ F => by rw [OpenClaim.pre_eq_preRow]; exact lifted os started H enc F)

/-- The tied card. -/
theorem proved : Rows.FormTellsUptoCardSaid :=
  Claim7.holds_tied_plain_at .later [] [.data] true (true, "ff5b94c29dd75854d1af953921bf2bee20dbe9c67f3747fbcdc6bb0a2705bc95") false
    over (fun _ h => by cases h) (by kernel_rfl) (fun _ h => by cases h) formTellsUpto_row_tie rfl ⟨rfl, rfl⟩ (by kernel_rfl) rfl
    (fun f fn hf hfn => by
      obtain rfl : f = 4 := Option.some.inj ((show Tryz.prog.funcNamed "lychway/lychwaylaw.FormTells" = some 4 by kernel_rfl).symm.trans hf) |>.symm
      obtain rfl : fn = Tryz.f4 := (Option.some.inj (Tryz.func4.symm.trans hfn)).symm
      exact ⟨by kernel_rfl, fun j t ht => by
        rw [Tryz.params4] at ht
        have hm : t ∈ [25] := by simpa using Array.mem_of_getElem? ht
        have hall : ([25].all fun u => !Tryz.prog.wantsStandIn u) = true := by kernel_rfl
        exact (show Tryz.prog.wantsStandIn t = false by simpa using List.all_eq_true.1 hall t hm)⟩)
    (by kernel_rfl)
#print axioms proved
end Go.Proofs.YtdlfhldboagbeaaGreatDoor.formTells
