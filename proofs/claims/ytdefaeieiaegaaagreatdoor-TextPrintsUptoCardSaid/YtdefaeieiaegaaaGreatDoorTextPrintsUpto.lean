/- What is proved: the Go law lychwaylaw.TextPrints returns true for all its arguments of bulk at most 1048576 (the second form), and leaves them as they were.  -/
import Derived.Test.YtdefaeieiaegaaaGreatDoorRows
import Derived.Test.YtdefaeieiaegaaaGreatDoorKtp01
import Derived.Test.YtdefaeieiaegaaaGreatDoorKtp19
import Derived.WalkKit
import Derived.ProofKit
import Derived.OpenShut
import Derived.Deep.RegionHeld3
import Derived.Deep.DrawnRows
import Derived.Deep.DeepCutAuto
import Derived.Deep.QuietTactic
import Derived.BigQuiet
import Derived.WalkSpells
import Derived.WalkLawsBesides
import Derived.Lib.Hide
import Derived.Outline
import Derived.ShutString
import Derived.ChangeOld
import Derived.Below
import Derived.LaidMore
import Derived.SizedLaws
import Derived.Stop.Joined
import Derived.Stop.LaidErr
import Derived.Lib.LaidTab
import Derived.SevenTiedAt
import Derived.Lay
import Derived.LaidOnce
import Derived.Deep.DeepHandedRow
import Derived.Test.YtdefaeieiaegaaaGreatDoorCards
import Derived.Test.YtdefaeieiaegaaaGreatDoorTie
namespace Go.Proofs.YtdefaeieiaegaaaGreatDoor.textPrints
open ValM LexM NumM ExM NmM Kit ExL ExP ExN RawV Within RawL GenL FldP FldR FldC FrmM PgM PgA ShT TxP TxQ TxA
open Go.ChangeShapes Go.WideShapes Go.ChangeAt Go.RowKit
open Go.ChangeMaps (open_string shut_string)
set_option linter.unusedVariables false

theorem own : ownKnob Tryz.prog.godebug = none := by kernel_rfl
theorem laidOut : laidOutB Tryz.prog = true := by kernel_rfl


/-! ### The walk -/
set_option maxRecDepth 100000 in
set_option maxHeartbeats 8000000 in
theorem walk (F0 : List GenL.Fd) (A0 : Option Addr) (c0 : Nat) (P0 : List FrmM.PE) (B0 : Option Addr) (e0 : Nat)  (w : World) (hfl0 : GenL.Flds w A0 F0) (hfx0 : ∀ (j : Nat) (h : j < F0.length), F0[j].nm.size ≤ maxLen ∧ ∃ x, ExL.Is w x F0[j].d F0[j].A F0[j].n ∧ x.nodes ≤ 1048576) (hcp0 : F0.length ≤ c0 ∧ c0 ≤ maxLen) (hfn0 : F0.length ≤ 1048576) (hpg0 : PgM.Pgs w B0 P0) (hpx0 : ∀ e ∈ P0, PgM.PgOk w e ∧ (e.fs.length ≤ e.fc ∧ e.fc ≤ maxLen) ∧ e.x.nodes ≤ 1048576 ∧ e.fs.length ≤ 1048576) (hpd0 : P0.length ≤ e0 ∧ e0 ≤ maxLen) (hpn0 : P0.length ≤ 1048576) (ht : ExN.Tab w) (hp : Show.Pow w) (t_kinds : StrTab.Is Tryz.prog w "lychway/text.kinds" [[], [105, 110, 112, 117, 116], [102, 111, 114, 109, 117, 108, 97], [108, 111, 111, 107, 117, 112]]) (t_types : StrTab.Is Tryz.prog w "lychway/text.types" [[], [105, 110, 116], [98, 111, 111, 108], [116, 101, 120, 116]]) :
    Calls Tryz.prog 3 #[.agg #[.slice A0 F0.length c0, .slice B0 P0.length e0]] w fun e w' => e = .returned (.bool true) ∧ Below w.heap.size w w' := by
  have hv : TVars w := ⟨⟨ht, hp⟩, t_kinds, t_types⟩
  obtain ⟨out, R, h1, h2⟩ := prints_any F0 A0 c0 P0 B0 e0 w hfn0 hfl0 hfx0 hcp0 hpg0 hpx0 hpd0 hpn0 hv
  have hb0 := b_new w (frBox A0 F0.length c0 B0 P0.length e0)
  obtain ⟨W1, hW1⟩ : ∃ V, w.alloc (frBox A0 F0.length c0 B0 P0.length e0) = V := ⟨_, rfl⟩
  obtain ⟨B1, hB1⟩ : ∃ B, w.heap.size = B := ⟨_, rfl⟩
  have hcell := fr_cells w A0 F0.length c0 B0 P0.length e0
  rw [hW1] at hb0 hcell
  rw [hB1] at hcell
  obtain ⟨x0, x1⟩ := hcell W1 (Below.refl _ _)
  have tR : (R == R) = true := by simp
  have tS : (out.toList == out.toList) = true := by simp
  have H1 := Lib.hid h1
  have H2 := Lib.hid h2
  have HW1 := Lib.hid hW1
  have HB1 := Lib.hid hB1
  have Hb0 := Lib.hid hb0
  have HCell := Lib.hid hcell
  clear h1 h2 hfl0 hfx0 hpg0 hpx0 hpd0 hcp0 hW1 hB1 hb0 hcell ht hp t_kinds t_types hv
  unfold frBox at HW1
  go_enter Tryz.func3, Tryz.ntmps3
  go_upto_region 1 with fail
  rw [HW1.out, HB1.out]
  go_wp2_with fail
  refine (H1.out _ Hb0.out).mono ?_; rintro e w1 ⟨rfl, hb1⟩
  obtain ⟨x0, x1⟩ := HCell.out w1 hb1
  have Hb1 := Lib.hid (b_trans Hb0.out hb1)
  clear hb1
  go_wp2_with fail
  refine (H2.out _ Hb1.out).mono ?_; rintro e w2 ⟨rfl, hb2⟩
  have Hb2 := Lib.hid (b_trans Hb1.out hb2)
  clear hb2
  go_wp2_with fail
  go_ret
  exact ⟨rfl, Hb2.out⟩

theorem kinds_of {W : World} (h : laidMetH Tryz.prog Rows.textPrintsUptoRow.laid W) : StrTab.Is Tryz.prog W "lychway/text.kinds" [[], [105, 110, 112, 117, 116], [102, 111, 114, 109, 117, 108, 97], [108, 111, 111, 107, 117, 112]] := by
  have h0 : laidMet Tryz.prog Rows.textPrintsUptoRow.laid W := by rw [MakeChecks.laidMetH_plain _ _ _ (by kernel_rfl)] at h; exact h
  have h1 := h0.tail.tail.tail.tail
  exact StrTab.is_of_head (g := 0) (t := 103) (e := 9) (n := 4) (by kernel_rfl) (by kernel_rfl) Tryz.underlying103 Tryz.underlying9 (by kernel_rfl) (by kernel_rfl) h1

theorem types_of {W : World} (h : laidMetH Tryz.prog Rows.textPrintsUptoRow.laid W) : StrTab.Is Tryz.prog W "lychway/text.types" [[], [105, 110, 116], [98, 111, 111, 108], [116, 101, 120, 116]] := by
  have h0 : laidMet Tryz.prog Rows.textPrintsUptoRow.laid W := by rw [MakeChecks.laidMetH_plain _ _ _ (by kernel_rfl)] at h; exact h
  have h1 := h0.tail.tail.tail.tail.tail
  exact StrTab.is_of_head (g := 1) (t := 103) (e := 9) (n := 4) (by kernel_rfl) (by kernel_rfl) Tryz.underlying103 Tryz.underlying9 (by kernel_rfl) (by kernel_rfl) h1

theorem not_of {W : World} (h : laidMetH Tryz.prog Rows.textPrintsUptoRow.laid W) : ExN.Tab W := by
  have h0 : laidMet Tryz.prog Rows.textPrintsUptoRow.laid W := by rw [MakeChecks.laidMetH_plain _ _ _ (by kernel_rfl)] at h; exact h
  have h1 := h0.tail.tail.tail
  exact NotTab.is_of_head (g := 2) (t := 131) (e := 130) (n := 19) (by kernel_rfl) (by kernel_rfl) Tryz.underlying131 (by kernel_rfl) Tryz.underlying130 (by kernel_rfl) rfl rfl rfl Tryz.underlying9 Tryz.underlying3 Tryz.underlying3 (by kernel_rfl) (by kernel_rfl) (by kernel_rfl) h1

theorem pow_of {W : World} (h : laidMetH Tryz.prog Rows.textPrintsUptoRow.laid W) : Show.Pow W := by
  have h0 : laidMet Tryz.prog Rows.textPrintsUptoRow.laid W := by rw [MakeChecks.laidMetH_plain _ _ _ (by kernel_rfl)] at h; exact h
  have h1 := h0.tail.tail
  exact Lib.tabIs_of_head (k := .u64) (zs := Lib.pow10Tab) (g := 6) (t := 260) (e := 237) (n := 20) (by kernel_rfl) (by kernel_rfl) Tryz.underlying260 Tryz.underlying237 (by kernel_rfl) (by kernel_rfl) h1

/-! ### The row's step -/
set_option maxRecDepth 100000 in
theorem reads (os : Os) {H : Type} (enc : TypeId × Value → H) : ∃ places, DataW.whole enc Tryz.prog ((World.laidAll Tryz.prog os Rows.textPrintsUptoRow.laid).forCall (fun _ _ => 0) ⟨#[], #[.agg #[.slice none 0 0, .slice none 0 0]], []⟩).memory Tryz.f3.params.toList Rows.textPrintsSpec.vars false #[.agg #[.slice none 0 0, .slice none 0 0]].toList 8 = some ([.agg [.nil, .nil]], [], places) := ⟨[], by kernel_rfl⟩
set_option maxRecDepth 100000 in
theorem lifted (os : Os) (started : os.Started) (H : Type) (enc : TypeId × Value → H) (F : Stop.Interp) :
    ReturnsInHanded {} Tryz.checked os 3 .any ((Rows.OpenSpec.upto Rows.textPrintsSpec).preRow enc Tryz.prog Tryz.f3 Rows.textPrintsUptoRow.domain false Rows.textPrintsUptoRow.laid) (((Rows.OpenSpec.upto Rows.textPrintsSpec).at F).post enc Tryz.prog Tryz.f3 false true false false) := by
  obtain ⟨places, hx⟩ := reads os enc
  refine returnsInHanded_of_row (C := Tryz.checked) (s := Rows.OpenSpec.upto Rows.textPrintsSpec) own started (by kernel_rfl) Tryz.func3
    (witness_row_at (enc := enc) (C := Tryz.checked) false (World.laidAll Tryz.prog os Rows.textPrintsUptoRow.laid) #[.agg #[.slice none 0 0, .slice none 0 0]] (World.laidAll_os _ _ _) (by kernel_rfl) (by kernel_rfl) (by kernel_rfl)
      (OpenSpec.preRow_of_cond 8 hx (by kernel_rfl) (fun k hk => by cases hk; kernel_rfl) (by kernel_rfl) (by rw [MakeChecks.laidMetH_plain _ _ _ (by kernel_rfl)]; exact laidMet_laidAll _ (by kernel_rfl) (by kernel_rfl)))) ?_
  intro W base args ds gs before hval0 hW hcnd hcond hsz hL _ _
  have hval : ∀ (j : Nat) t v, Tryz.f3.params[j]? = some t → args[j]? = some v → Value.okWide Tryz.prog W .any base t v := hval0
  have hW' := hW
  obtain ⟨p, q, hA0, hV, rfl, hfz, hnd⟩ := hW
  have hA : DataW.TrodAll enc Tryz.prog W 0 (fun _ => true) true Tryz.f3.params.toList args.toList ds p := hA0
  rw [Tryz.params3] at hA hval
  obtain ⟨v0, vs0, d0, ds0, p0, q0, hargs, rfl, rfl, h0, r0⟩ := trodAll_cons hA
  obtain ⟨rfl, rfl, rfl⟩ := trodAll_nil r0
  obtain rfl : args = #[v0] := by cases args; simp_all
  obtain ⟨rfl, rfl⟩ := trodVars_none hV
  have k0 := h0
  have lt0 : ∀ x ∈ p0, x.block < W.heap.size := by obtain ⟨m, hm⟩ := k0; exact DataW.trod_lt m _ _ _ hm
  obtain ⟨A0, F0, c0, B0, P0, e0, rfl, ⟨hfl0, hfn0, hfx0⟩, ⟨hpg0, hpn0, hpx0⟩⟩ := FrmO.open_frm (hval 0 25 v0 rfl rfl) h0
  have hk := hcond _ rfl
  have hbk := of_decide_eq_true hk
  simp only [List.append_nil, Rows.uptoBulkAll] at hbk
  clear hA0 hval0
  refine (walk F0 A0 c0 P0 B0 e0  W hfl0 (fun j hj => ⟨(hfx0 j hj).1, (hfx0 j hj).2.imp fun x hx => ⟨hx.1, by omega⟩⟩) hfn0.2.2 (by omega) hpg0 (fun e he => ⟨(hpx0 e he).1, (hpx0 e he).2.1, by have := (hpx0 e he).2.2.1; omega, by have := (hpx0 e he).2.2.2; omega⟩) hpn0.2.2 (by omega) (not_of hL) (pow_of hL) (kinds_of hL) (types_of hL)).mono fun e W' ⟨he, bel⟩ => ?_
  subst he
  exact ⟨_, rfl, _, _, _, [], _, [], hW', trodAll_mk1 (shut_bool Tryz.underlying4 _), (trodAll_cons_mk (Below.trod laidOut (by kernel_rfl) (of_decide_eq_true (by kernel_rfl)) k0 bel lt0) trodAll_mk0), rfl, bel.frame _, fun h => by cases h⟩

theorem over : Rows.TextPrintsUptoSaid :=
  OpenClaim.holds_of_cond 3 Tryz.f3 rfl rfl rfl rfl rfl rfl rfl ⟨rfl, rfl, rfl, rfl, rfl⟩ rfl rfl rfl rfl rfl (by kernel_rfl) Tryz.func3 (by kernel_rfl)
    (of_decide_eq_true (by kernel_rfl)) (by unfold Func.isWrapper; first | (rw [if_pos (by decide +kernel)]; kernel_rfl) | (rw [if_neg (by decide +kernel)]; exact ⟨rfl, rfl⟩))
    (fun os started H enc _ F => by rw [OpenClaim.pre_eq_preRow]; exact lifted os started H enc F)

/-- The tied card. -/
theorem proved : Rows.TextPrintsUptoCardSaid :=
  Claim7.holds_tied_plain_at .later [] [.data, .data, .data, .data, .data, .data] true (true, "dcdfce5172450e36f3ccf140f6bd935ce6d963e2e5d0b7dd44de47bb4f661764") true
    over (fun _ h => by cases h) (by kernel_rfl) (fun _ h => by cases h) textPrintsUpto_row_tie rfl ⟨rfl, rfl⟩ (by kernel_rfl) rfl
    (fun f fn hf hfn => by
      obtain rfl : f = 3 := Option.some.inj ((show Tryz.prog.funcNamed "lychway/lychwaylaw.TextPrints" = some 3 by kernel_rfl).symm.trans hf) |>.symm
      obtain rfl : fn = Tryz.f3 := (Option.some.inj (Tryz.func3.symm.trans hfn)).symm
      exact ⟨by kernel_rfl, fun j t ht => by
        rw [Tryz.params3] at ht
        have hm : t ∈ [25] := by simpa using Array.mem_of_getElem? ht
        have hall : ([25].all fun u => !Tryz.prog.wantsStandIn u) = true := by kernel_rfl
        exact (show Tryz.prog.wantsStandIn t = false by simpa using List.all_eq_true.1 hall t hm)⟩)
    (by kernel_rfl)
#print axioms proved
end Go.Proofs.YtdefaeieiaegaaaGreatDoor.textPrints
