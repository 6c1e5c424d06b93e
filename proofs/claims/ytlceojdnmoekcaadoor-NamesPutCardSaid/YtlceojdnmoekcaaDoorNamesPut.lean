/- What is proved: the Go law lychwaykeep.NamesPut returns true for all its arguments, and leaves them as they were. No condition. -/
import Derived.Test.YtlceojdnmoekcaaDoorRows
import Derived.Test.YtlceojdnmoekcaaDoorNmGen
import Derived.Test.YtlceojdnmoekcaaDoorExSame
import Derived.Test.YtlceojdnmoekcaaDoorExOpen
import Derived.Test.YtlceojdnmoekcaaDoorKit
import Derived.WalkKit
import Derived.ProofKit
import Derived.OpenShut
import Derived.Deep.RegionHeld3
import Derived.Deep.DrawnRows
import Derived.Deep.DeepCutAuto
import Derived.Deep.QuietTactic
import Derived.BigQuiet
import Derived.WalkSpells
import Derived.WalkLawsBesides
import Derived.Lib.Hide
import Derived.Outline
import Derived.ShutString
import Derived.ChangeOld
import Derived.Below
import Derived.LaidMore
import Derived.SizedLaws
import Derived.Stop.Joined
import Derived.Stop.LaidErr
import Derived.Lib.LaidTab
import Derived.SevenTiedAt
import Derived.Lay
import Derived.LaidOnce
import Derived.Deep.DeepHandedRow
import Derived.Test.YtlceojdnmoekcaaDoorCards
import Derived.Test.YtlceojdnmoekcaaDoorTie
namespace Go.Proofs.YtlceojdnmoekcaaDoor.namesPut
open ExM NmM Kit ExL ExP ExN ExV RawL RawV Within GenL Gen GenE GenT NmC NmP NmG NmH
open Go.ChangeShapes Go.WideShapes Go.ChangeAt Go.RowKit
open Go.ChangeMaps (open_string shut_string)
set_option linter.unusedVariables false

theorem own : ownKnob Tryd.prog.godebug = none := by kernel_rfl
theorem laidOut : laidOutB Tryd.prog = true := by kernel_rfl


/-! ### The walk -/
attribute [local go_sem] Go.undef
set_option maxRecDepth 100000 in
set_option maxHeartbeats 40000000 in
theorem walk (A0 : Option Addr) (n0 : Nat) (c0 : Nat) (A1 : Option Addr) (n1 : Nat) (c1 : Nat) (a2 : Int) (w2 : (Lit.int .i64 a2).wf = true) (w : World) (hraw0 : RawL.Raws w A0 n0 c0) (hraw1 : RawL.Raws w A1 n1 c1) (ht : ExN.Tab w) :
    Calls Tryd.prog 5 #[.slice A0 n0 c0, .slice A1 n1 c1, .int .i64 a2] w fun e w' => e = .returned (.bool true) ∧ Below w.heap.size w w' := by
  obtain ⟨pk, hpk⟩ : ∃ p, pick a2 3 = p := ⟨_, rfl⟩
  have hpb := pick_bd a2 3 (by decide)
  have hp := fun W => picked_any a2 3 W w2 (by decide) (by decide)
  rw [hpk] at hp hpb
  obtain ⟨pb0, pb1⟩ := hpb
  have HP := Lib.hid hp
  have HT := Lib.hid ht
  have HR0 := Lib.hid hraw0
  have HR1 := Lib.hid hraw1
  clear hp hpk ht hraw0 hraw1 w2
  have hmk : ∀ W FA fc, Raws W A0 n0 c0 → Flds W FA someF → Calls Tryd.prog 17 #[.slice A0 n0 c0, .int .i64 (1 + pk), .slice FA 5 fc] W (ExprOut someF (1 + pk) W) := fun W FA fc hr hf => make_any n0 c0 fc A0 FA someF (1 + pk) W hr hf (by decide) someF_sz
  have hmk2 : ∀ W FA fc, Raws W A1 n1 c1 → Flds W FA mF → Calls Tryd.prog 17 #[.slice A1 n1 c1, .int .i64 1, .slice FA 1 fc] W (ExprOut mF 1 W) := fun W FA fc hr hf => make_any n1 c1 fc A1 FA mF 1 W hr hf (by decide) mF_sz
  have HMk := Lib.hid hmk
  have HMk2 := Lib.hid hmk2
  clear hmk hmk2
  go_enter Tryd.func5, Tryd.ntmps5
  go_wp2_with fail
  refine (HP.out _).mono ?_; rintro e w9 ⟨rfl, rfl⟩
  go_wp2_with fail
  refine (someX_any _).mono ?_; rintro e w1 ⟨⟨rfl, hfl⟩, hb1⟩
  have hr1 : Raws w1 A0 n0 c0 := HR0.out.keep fun p v0 v1 v2 h0 h2 => hb1.block _ (cell_lt' h0)
  have HC := Lib.hid (HMk.out w1 _ 5 hr1 hfl)
  have HB1 := Lib.hid hb1
  clear hr1 hfl hb1
  go_wp2_with fail
  refine HC.out.mono ?_; rintro e w2 ⟨x, dx, Bx, mx, cx, rfl, hgx, hisx, hb2⟩
  obtain ⟨hckx, hx40, _, _⟩ := gn_check someF_nm hgx
  have hix := hisx.is
  have z1 := Box.new w2 dx Bx mx cx
  have j1 := hix.below (b_new w2 (.cells #[.int .i64 dx.op, .int .i64 dx.k, .int .i64 dx.n, .string dx.s, .string dx.nm, .slice Bx mx cx] 26))
  have hbA : Below w.heap.size w (w2.alloc (.cells #[.int .i64 dx.op, .int .i64 dx.k, .int .i64 dx.n, .string dx.s, .string dx.nm, .slice Bx mx cx] 26)) := b_more (b_trans HB1.out hb2) _
  have HCkx := Lib.hid hckx
  have HX40 := Lib.hid hx40
  have Z1 := Lib.hid z1
  have J1 := Lib.hid j1
  have HBA := Lib.hid hbA
  clear hisx hix z1 j1 hb2 HC HB1 hgx hckx hx40 hbA
  go_wp2_with fail
  refine (someX_any _).mono ?_; rintro e w3 ⟨⟨rfl, hfl⟩, hb3⟩
  simp only [World.size_alloc] at hfl
  have hbB := b_trans HBA.out hb3
  have hr1 : Raws w3 A1 n1 c1 := HR1.out.keep fun p v0 v1 v2 h0 h2 => hbB.block _ (cell_lt' h0)
  have HC := Lib.hid (fun B fc (h : Flds w3 (some ⟨B, 0, none⟩) someF) => HMk2.out w3 (some ⟨B, 9, none⟩) fc hr1 (flds_m h))
  have HFl := Lib.hid hfl
  have Z1' := Lib.hid (Z1.out.below hb3)
  have J1' := Lib.hid (J1.out.below hb3)
  have HBB := Lib.hid hbB
  clear hr1 hfl hb3 hbB Z1 J1 HBA
  go_wp2_with fail
  refine (HC.out (w2.heap.size + 1) 4 HFl.out).mono ?_; rintro e w4 ⟨y, dy, By, my, cy, rfl, hgy, hisy, hb4⟩
  obtain ⟨hcky, hy40, _, _⟩ := gn_check mF_nm hgy
  have hny := gn_m_none hgy
  have hiy := hisy.is
  have z2 := Box.new w4 dy By my cy
  have j2 := hiy.below (b_new w4 (.cells #[.int .i64 dy.op, .int .i64 dy.k, .int .i64 dy.n, .string dy.s, .string dy.nm, .slice By my cy] 26))
  have hb4n : Below w3.heap.size w3 (w4.alloc (.cells #[.int .i64 dy.op, .int .i64 dy.k, .int .i64 dy.n, .string dy.s, .string dy.nm, .slice By my cy] 26)) := b_more hb4 _
  obtain ⟨m0, m1, m2, m3, m4, m5⟩ := (Z1'.out.below hb4).cells
  have lx : w2.heap.size < w4.heap.size := (Z1'.out.below hb4).lt
  have z1 := Z1'.out.below hb4n
  have j1 := J1'.out.below hb4n
  have hbC := b_trans HBB.out hb4n
  have hT := HT.out.below hbC
  have hckx := HCkx.out
  have hx40 := HX40.out
  obtain ⟨W, hW⟩ : ∃ W, w4.alloc (.cells #[.int .i64 dy.op, .int .i64 dy.k, .int .i64 dy.n, .string dy.s, .string dy.nm, .slice By my cy] 26) = W := ⟨_, rfl⟩
  rw [hW] at z1 z2 j1 j2 hbC hT
  have c1 := fun V (hb : Below W.heap.size W V) => Put_any nN (by decide) x y (by omega) (by omega) dx dy Bx By mx cx my cy V (j1.below hb) (j2.below hb) (hT.below hb)
  have c2 := fun V (hb : Below W.heap.size W V) => Put_any nN (by decide) x refN (by omega) (by rw [refN_nodes]; decide) dx ⟨2, 0, 0, ⟨#[]⟩, nN⟩ Bx none mx cx 0 0 V (j1.below hb) (refN_is V) (hT.below hb)
  obtain ⟨r, hr⟩ : ∃ r, putR nN x y = r := ⟨_, rfl⟩
  have hrc := putR_cases hckx hcky
  rw [hr] at hrc
  unfold PutOut at c1 c2
  simp only [putR_self hckx, putZ_self hckx] at c2
  simp only [hr] at c1
  have HRC := Lib.hid hrc
  have HRR := Lib.hid hr
  have C1 := Lib.hid c1
  have C2 := Lib.hid c2
  have HW := Lib.hid hW
  have Z1 := Lib.hid z1
  have Z2 := Lib.hid z2
  have J1 := Lib.hid j1
  have J2 := Lib.hid j2
  have HBC := Lib.hid hbC
  have HNy := Lib.hid hny
  have HCky := Lib.hid hcky
  clear c1 c2 hrc hr hW z1 z2 j1 j2 hbC hT hckx hx40 hcky hy40 hny hiy hisy hgy hb4 hb4n Z1' J1' HBB HC HFl HX40
  go_wp2_with fail
  rw [HW.out]
  clear m0 m1 m2 m3 m4 m5
  refine (C1.out _ (Below.refl _ _)).mono ?_; rintro e w5 ⟨dz, Bz, mz, cz, rfl, hisz, hb5⟩
  have z3 := Box.new w5 dz Bz mz cz
  have j3 := (hisz.is).below (b_new w5 (.cells #[.int .i64 dz.op, .int .i64 dz.k, .int .i64 dz.n, .string dz.s, .string dz.nm, .slice Bz mz cz] 26))
  obtain ⟨m0, m1, m2, m3, m4, m5⟩ := (Z1.out.below hb5).cells
  have lx5 : w2.heap.size < w5.heap.size := (Z1.out.below hb5).lt
  have hb5n : Below W.heap.size W (w5.alloc (.cells #[.int .i64 dz.op, .int .i64 dz.k, .int .i64 dz.n, .string dz.s, .string dz.nm, .slice Bz mz cz] 26)) := b_more hb5 _
  have Z3 := Lib.hid z3
  have J3 := Lib.hid j3
  have HB5 := Lib.hid hb5n
  clear hisz hb5 z3 j3 hb5n lx
  go_wp2_with fail
  refine (C2.out _ HB5.out).mono ?_; rintro e w6 ⟨ds, Bs, ms, cs, rfl, hiss, hb6⟩
  have z4 := Box.new w6 ds Bs ms cs
  have j4 := (hiss.is).below (b_new w6 (.cells #[.int .i64 ds.op, .int .i64 ds.k, .int .i64 ds.n, .string ds.s, .string ds.nm, .slice Bs ms cs] 26))
  have hb6n : Below (w5.alloc (.cells #[.int .i64 dz.op, .int .i64 dz.k, .int .i64 dz.n, .string dz.s, .string dz.nm, .slice Bz mz cz] 26)).heap.size (w5.alloc (.cells #[.int .i64 dz.op, .int .i64 dz.k, .int .i64 dz.n, .string dz.s, .string dz.nm, .slice Bz mz cz] 26)) (w6.alloc (.cells #[.int .i64 ds.op, .int .i64 ds.k, .int .i64 ds.n, .string ds.s, .string ds.nm, .slice Bs ms cs] 26)) := b_more hb6 _
  have hbD := b_trans HB5.out hb6n
  have j1 := J1.out.below hbD
  have j2 := J2.out.below hbD
  have j3 := J3.out.below hb6n
  have z1 := Z1.out.below hbD
  have z2 := Z2.out.below hbD
  have z3 := Z3.out.below hb6n
  obtain rfl : dx = ds := (ExS.is_d j1).trans (ExS.is_d j4).symm
  clear m0 m1 m2 m3 m4 m5
  obtain ⟨m0, m1, m2, m3, m4, m5⟩ := z1.cells
  have hbE := b_trans HBC.out hbD
  obtain ⟨V0, hV0⟩ : ∃ V0, w6.alloc (.cells #[.int .i64 dx.op, .int .i64 dx.k, .int .i64 dx.n, .string dx.s, .string dx.nm, .slice Bs ms cs] 26) = V0 := ⟨_, rfl⟩
  have hs := ExS.keepSame_any x dx Bx Bs mx ms cx cs _ j1 j4
  rw [hV0] at hs z1 z2 z3 j1 j2 j3 hbE
  have HV0 := Lib.hid hV0
  have HS := Lib.hid hs
  have Z1' := Lib.hid z1
  have Z2' := Lib.hid z2
  have Z3' := Lib.hid z3
  have J1' := Lib.hid j1
  have J2' := Lib.hid j2
  have J3' := Lib.hid j3
  have HBE := Lib.hid hbE
  clear hV0 hs z1 z2 z3 z4 j1 j2 j3 j4 hbE hiss hb6 hb6n hbD Z1 Z2 Z3 J1 J2 J3 HBC HB5 C1 C2 lx5
  go_wp2_with fail
  rw [HV0.out]
  refine HS.out.mono ?_; rintro e w7 ⟨rfl, hb7⟩
  have z1 := Z1'.out.below hb7
  have z2 := Z2'.out.below hb7
  have z3 := Z3'.out.below hb7
  have j1 := J1'.out.below hb7
  have j2 := J2'.out.below hb7
  have j3 := J3'.out.below hb7
  have hbF := b_trans HBE.out hb7
  have HBF := Lib.hid hbF
  clear m0 m1 m2 m3 m4 m5 hb7 hbF HS HV0 Z1' Z2' Z3' J1' J2' J3' HBE
  by_cases hr0 : r = 0
  · subst hr0
    have hz : putZ nN x y = Ex.put nN y x := by unfold putZ; rw [HRR.out, if_pos rfl]
    rw [hz] at j3
    have hokx := (checkE_zero HCkx.out).2.2
    have e1 := put_gone nN y x hokx HNy.out
    obtain ⟨bx, hbx⟩ : ∃ b, hasB (Ex.refs x) nN = b := ⟨_, rfl⟩
    have h1 := fun V (hV : Below w7.heap.size w7 V) => has_any (Ex.put nN y x) nN dz Bz mz cz V (j3.below hV)
    have h2 := fun V (hV : Below w7.heap.size w7 V) => has_any x nN dx Bx mx cx V (j1.below hV)
    rw [e1] at h1
    rw [hbx] at h2
    unfold nN at h1 h2
    have hbl : Below w7.heap.size w7 w7 := Below.refl _ _
    cases bx
    · have hnot : nN ∉ Ex.refs x := fun h => by rw [(hasB_true _ _).2 h] at hbx; cases hbx
      have hpx := put_none nN y x hnot
      rw [hpx] at j3
      obtain rfl : dx = dz := (ExS.is_d j1).trans (ExS.is_d j3).symm
      have h3 := fun V (hV : Below w7.heap.size w7 V) => ExS.keepSame_any x dx Bx Bz mx mz cx cz V (j1.below hV) (j3.below hV)
      have HCells := Lib.hid (show ∀ V, Below w7.heap.size w7 V → (V.cell? ⟨w2.heap.size, 0, none⟩ = some (.int .i64 dx.op) ∧ V.cell? ⟨w2.heap.size, 1, none⟩ = some (.int .i64 dx.k) ∧ V.cell? ⟨w2.heap.size, 2, none⟩ = some (.int .i64 dx.n) ∧ V.cell? ⟨w2.heap.size, 3, none⟩ = some (.string dx.s) ∧ V.cell? ⟨w2.heap.size, 4, none⟩ = some (.string dx.nm) ∧ V.cell? ⟨w2.heap.size, 5, none⟩ = some (.slice Bx mx cx) ∧ V.cell? ⟨w5.heap.size, 0, none⟩ = some (.int .i64 dx.op) ∧ V.cell? ⟨w5.heap.size, 1, none⟩ = some (.int .i64 dx.k) ∧ V.cell? ⟨w5.heap.size, 2, none⟩ = some (.int .i64 dx.n) ∧ V.cell? ⟨w5.heap.size, 3, none⟩ = some (.string dx.s) ∧ V.cell? ⟨w5.heap.size, 4, none⟩ = some (.string dx.nm) ∧ V.cell? ⟨w5.heap.size, 5, none⟩ = some (.slice Bz mz cz)) from fun V hV => by
        obtain ⟨p0, p1, p2, p3, p4, p5⟩ := (z1.below hV).cells
        obtain ⟨r0, r1, r2, r3, r4, r5⟩ := (z3.below hV).cells
        exact ⟨p0, p1, p2, p3, p4, p5, r0, r1, r2, r3, r4, r5⟩)
      obtain ⟨p0, p1, p2, p3, p4, p5⟩ := z1.cells
      obtain ⟨r0, r1, r2, r3, r4, r5⟩ := z3.cells
      have H1 := Lib.hid h1
      have H2 := Lib.hid h2
      have H3 := Lib.hid h3
      clear h1 h2 h3 hokx e1 hbx hnot hpx j1 j2 j3 z1 z2 z3 hz
      go_wp2_with fail
      first | (go_region_law (first | (go_simp; go_at_call 20; (with_reducible refine (H3.out _ ?_).mono ?_); (first | (with_reducible exact hbl) | (with_reducible exact b_drew hbl) | (with_reducible exact b_drew (b_drew hbl)) | (with_reducible exact b_drewN hbl _) | (with_reducible exact b_drew (b_drewN hbl _))); rintro e wn ⟨rfl, hbn⟩; have hbl : Below w7.heap.size w7 wn := (by (first | (with_reducible exact b_trans hbl hbn) | (with_reducible exact b_trans (b_drew hbl) hbn) | (exact b_trans (b_drew (b_drew hbl)) hbn))); clear hbn; obtain ⟨p0, p1, p2, p3, p4, p5, r0, r1, r2, r3, r4, r5⟩ := HCells.out wn hbl) | (go_simp; go_at_call 8; (with_reducible refine (H1.out _ ?_).mono ?_); (first | (with_reducible exact hbl) | (with_reducible exact b_drew hbl) | (with_reducible exact b_drew (b_drew hbl)) | (with_reducible exact b_drewN hbl _) | (with_reducible exact b_drew (b_drewN hbl _))); rintro e wn ⟨rfl, hbn⟩; have hbl : Below w7.heap.size w7 wn := (by (first | (with_reducible exact b_trans hbl hbn) | (with_reducible exact b_trans (b_drew hbl) hbn) | (exact b_trans (b_drew (b_drew hbl)) hbn))); clear hbn; obtain ⟨p0, p1, p2, p3, p4, p5, r0, r1, r2, r3, r4, r5⟩ := HCells.out wn hbl) | (go_simp; go_at_call 8; (with_reducible refine (H2.out _ ?_).mono ?_); (first | (with_reducible exact hbl) | (with_reducible exact b_drew hbl) | (with_reducible exact b_drew (b_drew hbl)) | (with_reducible exact b_drewN hbl _) | (with_reducible exact b_drew (b_drewN hbl _))); rintro e wn ⟨rfl, hbn⟩; have hbl : Below w7.heap.size w7 wn := (by (first | (with_reducible exact b_trans hbl hbn) | (with_reducible exact b_trans (b_drew hbl) hbn) | (exact b_trans (b_drew (b_drew hbl)) hbn))); clear hbn; obtain ⟨p0, p1, p2, p3, p4, p5, r0, r1, r2, r3, r4, r5⟩ := HCells.out wn hbl))) | (fail)
      all_goals (go_wp2_with fail)
      all_goals go_ret
      all_goals exact ⟨by first | rfl | simp, b_trans HBF.out hbl⟩
    · have hin : nN ∈ Ex.refs x := (hasB_true _ _).1 hbx
      have e3 := put_other nN nM y x hokx hin n_ne_m
      obtain ⟨b2, hb2⟩ : ∃ b, hasB (Ex.refs x) nM = b := ⟨_, rfl⟩
      obtain ⟨b3, hb3⟩ : ∃ b, hasB (Ex.refs y) nM = b := ⟨_, rfl⟩
      have h4 := fun V (hV : Below w7.heap.size w7 V) => has_any (Ex.put nN y x) nM dz Bz mz cz V (j3.below hV)
      have h5 := fun V (hV : Below w7.heap.size w7 V) => has_any x nM dx Bx mx cx V (j1.below hV)
      have h6 := fun V (hV : Below w7.heap.size w7 V) => has_any y nM dy By my cy V (j2.below hV)
      rw [e3, hb2, hb3] at h4
      rw [hb2] at h5
      rw [hb3] at h6
      unfold nM at h4 h5 h6
      have HCells := Lib.hid (show ∀ V, Below w7.heap.size w7 V → (V.cell? ⟨w2.heap.size, 0, none⟩ = some (.int .i64 dx.op) ∧ V.cell? ⟨w2.heap.size, 1, none⟩ = some (.int .i64 dx.k) ∧ V.cell? ⟨w2.heap.size, 2, none⟩ = some (.int .i64 dx.n) ∧ V.cell? ⟨w2.heap.size, 3, none⟩ = some (.string dx.s) ∧ V.cell? ⟨w2.heap.size, 4, none⟩ = some (.string dx.nm) ∧ V.cell? ⟨w2.heap.size, 5, none⟩ = some (.slice Bx mx cx) ∧ V.cell? ⟨w5.heap.size, 0, none⟩ = some (.int .i64 dz.op) ∧ V.cell? ⟨w5.heap.size, 1, none⟩ = some (.int .i64 dz.k) ∧ V.cell? ⟨w5.heap.size, 2, none⟩ = some (.int .i64 dz.n) ∧ V.cell? ⟨w5.heap.size, 3, none⟩ = some (.string dz.s) ∧ V.cell? ⟨w5.heap.size, 4, none⟩ = some (.string dz.nm) ∧ V.cell? ⟨w5.heap.size, 5, none⟩ = some (.slice Bz mz cz) ∧ V.cell? ⟨w4.heap.size, 0, none⟩ = some (.int .i64 dy.op) ∧ V.cell? ⟨w4.heap.size, 1, none⟩ = some (.int .i64 dy.k) ∧ V.cell? ⟨w4.heap.size, 2, none⟩ = some (.int .i64 dy.n) ∧ V.cell? ⟨w4.heap.size, 3, none⟩ = some (.string dy.s) ∧ V.cell? ⟨w4.heap.size, 4, none⟩ = some (.string dy.nm) ∧ V.cell? ⟨w4.heap.size, 5, none⟩ = some (.slice By my cy)) from fun V hV => by
        obtain ⟨p0, p1, p2, p3, p4, p5⟩ := (z1.below hV).cells
        obtain ⟨q0, q1, q2, q3, q4, q5⟩ := (z2.below hV).cells
        obtain ⟨r0, r1, r2, r3, r4, r5⟩ := (z3.below hV).cells
        exact ⟨p0, p1, p2, p3, p4, p5, r0, r1, r2, r3, r4, r5, q0, q1, q2, q3, q4, q5⟩)
      obtain ⟨p0, p1, p2, p3, p4, p5⟩ := z1.cells
      obtain ⟨q0, q1, q2, q3, q4, q5⟩ := z2.cells
      obtain ⟨r0, r1, r2, r3, r4, r5⟩ := z3.cells
      have H1 := Lib.hid h1
      have H2 := Lib.hid h2
      have H4 := Lib.hid h4
      have H5 := Lib.hid h5
      have H6 := Lib.hid h6
      clear h1 h2 h4 h5 h6 hokx e1 e3 hbx hin hb2 hb3 j1 j2 j3 z1 z2 z3 hz
      cases b2
      · rw [Bool.false_or] at H4
        go_wp2_with fail
        first | (go_region_law (first | (go_simp; go_at_call 8; (with_reducible refine (H1.out _ ?_).mono ?_); (first | (with_reducible exact hbl) | (with_reducible exact b_drew hbl) | (with_reducible exact b_drew (b_drew hbl)) | (with_reducible exact b_drewN hbl _) | (with_reducible exact b_drew (b_drewN hbl _))); rintro e wn ⟨rfl, hbn⟩; have hbl : Below w7.heap.size w7 wn := (by (first | (with_reducible exact b_trans hbl hbn) | (with_reducible exact b_trans (b_drew hbl) hbn) | (exact b_trans (b_drew (b_drew hbl)) hbn))); clear hbn; obtain ⟨p0, p1, p2, p3, p4, p5, r0, r1, r2, r3, r4, r5, q0, q1, q2, q3, q4, q5⟩ := HCells.out wn hbl) | (go_simp; go_at_call 8; (with_reducible refine (H2.out _ ?_).mono ?_); (first | (with_reducible exact hbl) | (with_reducible exact b_drew hbl) | (with_reducible exact b_drew (b_drew hbl)) | (with_reducible exact b_drewN hbl _) | (with_reducible exact b_drew (b_drewN hbl _))); rintro e wn ⟨rfl, hbn⟩; have hbl : Below w7.heap.size w7 wn := (by (first | (with_reducible exact b_trans hbl hbn) | (with_reducible exact b_trans (b_drew hbl) hbn) | (exact b_trans (b_drew (b_drew hbl)) hbn))); clear hbn; obtain ⟨p0, p1, p2, p3, p4, p5, r0, r1, r2, r3, r4, r5, q0, q1, q2, q3, q4, q5⟩ := HCells.out wn hbl) | (go_simp; go_at_call 8; (with_reducible refine (H4.out _ ?_).mono ?_); (first | (with_reducible exact hbl) | (with_reducible exact b_drew hbl) | (with_reducible exact b_drew (b_drew hbl)) | (with_reducible exact b_drewN hbl _) | (with_reducible exact b_drew (b_drewN hbl _))); rintro e wn ⟨rfl, hbn⟩; have hbl : Below w7.heap.size w7 wn := (by (first | (with_reducible exact b_trans hbl hbn) | (with_reducible exact b_trans (b_drew hbl) hbn) | (exact b_trans (b_drew (b_drew hbl)) hbn))); clear hbn; obtain ⟨p0, p1, p2, p3, p4, p5, r0, r1, r2, r3, r4, r5, q0, q1, q2, q3, q4, q5⟩ := HCells.out wn hbl) | (go_simp; go_at_call 8; (with_reducible refine (H5.out _ ?_).mono ?_); (first | (with_reducible exact hbl) | (with_reducible exact b_drew hbl) | (with_reducible exact b_drew (b_drew hbl)) | (with_reducible exact b_drewN hbl _) | (with_reducible exact b_drew (b_drewN hbl _))); rintro e wn ⟨rfl, hbn⟩; have hbl : Below w7.heap.size w7 wn := (by (first | (with_reducible exact b_trans hbl hbn) | (with_reducible exact b_trans (b_drew hbl) hbn) | (exact b_trans (b_drew (b_drew hbl)) hbn))); clear hbn; obtain ⟨p0, p1, p2, p3, p4, p5, r0, r1, r2, r3, r4, r5, q0, q1, q2, q3, q4, q5⟩ := HCells.out wn hbl) | (go_simp; go_at_call 8; (with_reducible refine (H6.out _ ?_).mono ?_); (first | (with_reducible exact hbl) | (with_reducible exact b_drew hbl) | (with_reducible exact b_drew (b_drew hbl)) | (with_reducible exact b_drewN hbl _) | (with_reducible exact b_drew (b_drewN hbl _))); rintro e wn ⟨rfl, hbn⟩; have hbl : Below w7.heap.size w7 wn := (by (first | (with_reducible exact b_trans hbl hbn) | (with_reducible exact b_trans (b_drew hbl) hbn) | (exact b_trans (b_drew (b_drew hbl)) hbn))); clear hbn; obtain ⟨p0, p1, p2, p3, p4, p5, r0, r1, r2, r3, r4, r5, q0, q1, q2, q3, q4, q5⟩ := HCells.out wn hbl))) | (fail)
        all_goals (go_wp2_with fail)
        all_goals go_ret
        all_goals exact ⟨by cases b3 <;> first | rfl | simp, b_trans HBF.out hbl⟩
      · rw [Bool.true_or] at H4
        go_wp2_with fail
        first | (go_region_law (first | (go_simp; go_at_call 8; (with_reducible refine (H1.out _ ?_).mono ?_); (first | (with_reducible exact hbl) | (with_reducible exact b_drew hbl) | (with_reducible exact b_drew (b_drew hbl)) | (with_reducible exact b_drewN hbl _) | (with_reducible exact b_drew (b_drewN hbl _))); rintro e wn ⟨rfl, hbn⟩; have hbl : Below w7.heap.size w7 wn := (by (first | (with_reducible exact b_trans hbl hbn) | (with_reducible exact b_trans (b_drew hbl) hbn) | (exact b_trans (b_drew (b_drew hbl)) hbn))); clear hbn; obtain ⟨p0, p1, p2, p3, p4, p5, r0, r1, r2, r3, r4, r5, q0, q1, q2, q3, q4, q5⟩ := HCells.out wn hbl) | (go_simp; go_at_call 8; (with_reducible refine (H2.out _ ?_).mono ?_); (first | (with_reducible exact hbl) | (with_reducible exact b_drew hbl) | (with_reducible exact b_drew (b_drew hbl)) | (with_reducible exact b_drewN hbl _) | (with_reducible exact b_drew (b_drewN hbl _))); rintro e wn ⟨rfl, hbn⟩; have hbl : Below w7.heap.size w7 wn := (by (first | (with_reducible exact b_trans hbl hbn) | (with_reducible exact b_trans (b_drew hbl) hbn) | (exact b_trans (b_drew (b_drew hbl)) hbn))); clear hbn; obtain ⟨p0, p1, p2, p3, p4, p5, r0, r1, r2, r3, r4, r5, q0, q1, q2, q3, q4, q5⟩ := HCells.out wn hbl) | (go_simp; go_at_call 8; (with_reducible refine (H4.out _ ?_).mono ?_); (first | (with_reducible exact hbl) | (with_reducible exact b_drew hbl) | (with_reducible exact b_drew (b_drew hbl)) | (with_reducible exact b_drewN hbl _) | (with_reducible exact b_drew (b_drewN hbl _))); rintro e wn ⟨rfl, hbn⟩; have hbl : Below w7.heap.size w7 wn := (by (first | (with_reducible exact b_trans hbl hbn) | (with_reducible exact b_trans (b_drew hbl) hbn) | (exact b_trans (b_drew (b_drew hbl)) hbn))); clear hbn; obtain ⟨p0, p1, p2, p3, p4, p5, r0, r1, r2, r3, r4, r5, q0, q1, q2, q3, q4, q5⟩ := HCells.out wn hbl) | (go_simp; go_at_call 8; (with_reducible refine (H5.out _ ?_).mono ?_); (first | (with_reducible exact hbl) | (with_reducible exact b_drew hbl) | (with_reducible exact b_drew (b_drew hbl)) | (with_reducible exact b_drewN hbl _) | (with_reducible exact b_drew (b_drewN hbl _))); rintro e wn ⟨rfl, hbn⟩; have hbl : Below w7.heap.size w7 wn := (by (first | (with_reducible exact b_trans hbl hbn) | (with_reducible exact b_trans (b_drew hbl) hbn) | (exact b_trans (b_drew (b_drew hbl)) hbn))); clear hbn; obtain ⟨p0, p1, p2, p3, p4, p5, r0, r1, r2, r3, r4, r5, q0, q1, q2, q3, q4, q5⟩ := HCells.out wn hbl))) | (fail)
        all_goals (go_wp2_with fail)
        all_goals go_ret
        all_goals exact ⟨by first | rfl | simp, b_trans HBF.out hbl⟩
  · have hcases := HRC.out
    have t1 : (r != 0) = true := bne_iff_ne.2 hr0
    clear z1 z2 z3 j1 j2 j3
    rcases hcases with h | h | h
    · exact absurd h hr0
    · subst h
      clear hr0 t1
      go_wp2_with fail
      go_ret
      exact ⟨rfl, HBF.out⟩
    · subst h
      clear hr0 t1
      go_wp2_with fail
      go_ret
      exact ⟨rfl, HBF.out⟩

theorem not_of {W : World} (h : laidMetH Tryd.prog Rows.namesPutRow.laid W) : ExN.Tab W := by
  have h0 : laidMet Tryd.prog Rows.namesPutRow.laid W := by rw [MakeChecks.laidMetH_plain _ _ _ (by kernel_rfl)] at h; exact h
  have h1 := h0
  exact NotTab.is_of_head (g := 0) (t := 88) (e := 87) (n := 19) (by kernel_rfl) (by kernel_rfl) Tryd.underlying88 (by kernel_rfl) Tryd.underlying87 (by kernel_rfl) rfl rfl rfl Tryd.underlying9 Tryd.underlying3 Tryd.underlying3 (by kernel_rfl) (by kernel_rfl) (by kernel_rfl) h1

/-! ### The row's step -/
set_option maxRecDepth 100000 in
theorem lifted (os : Os) (started : os.Started) (H : Type) (enc : TypeId × Value → H) :
    ReturnsInHanded {} Tryd.checked os 5 .any (fun w args => (Rows.namesPutSpec.pre enc Tryd.prog Tryd.f5 [] false w args ∧ laidMetH Tryd.prog Rows.namesPutRow.laid w) ∧ sizedMet enc Tryd.prog Tryd.f5 (OpenSpec.ofChange Rows.namesPutSpec) false w args) (Rows.namesPutSpec.post enc Tryd.prog Tryd.f5 false true false false) := by
  refine returnsInHanded_of_change_and (C := Tryd.checked) (X := fun w _ => laidMetH Tryd.prog Rows.namesPutRow.laid w) (fun _ _ _ hh h => h.of_heap hh) own started (by kernel_rfl) Tryd.func5
    (ChangeSpec.witness_shaped (enc := enc) (C := Tryd.checked) (os := os) (X := fun w _ => laidMetH Tryd.prog Rows.namesPutRow.laid w) false (World.laidAll Tryd.prog os Rows.namesPutRow.laid) #[.slice none 0 0, .slice none 0 0, .int .i64 0] 8 (World.laidAll_os _ _ _) (World.shaped_of_ZipB (by kernel_rfl) (by kernel_rfl)) (by kernel_rfl) (by kernel_rfl) (by kernel_rfl) (by rw [MakeChecks.laidMetH_plain _ _ _ (by kernel_rfl)]; exact laidMet_laidAll _ (by kernel_rfl) (by kernel_rfl))) ?_
  intro W base args ds gs before hval0 hW hcnd hsz hL _
  have hval : ∀ (j : Nat) t v, Tryd.f5.params[j]? = some t → args[j]? = some v → Value.okWide Tryd.prog W .any base t v := hval0
  have hW' := hW
  obtain ⟨p, q, hA0, hV, rfl, hfz, hnd⟩ := hW
  have hA : DataW.TrodAll enc Tryd.prog W 0 (fun _ => true) true Tryd.f5.params.toList args.toList ds p := hA0
  rw [Tryd.params5] at hA hval
  obtain ⟨v0, vs0, d0, ds0, p0, q0, hargs, rfl, rfl, h0, r0⟩ := trodAll_cons hA
  obtain ⟨v1, vs1, d1, ds1, p1, q1, rfl, rfl, rfl, h1, r1⟩ := trodAll_cons r0
  obtain ⟨v2, vs2, d2, ds2, p2, q2, rfl, rfl, rfl, h2, r2⟩ := trodAll_cons r1
  obtain ⟨rfl, rfl, rfl⟩ := trodAll_nil r2
  obtain rfl : args = #[v0, v1, v2] := by cases args; simp_all
  obtain ⟨rfl, rfl⟩ := trodVars_none hV
  have k0 := h0
  have lt0 : ∀ x ∈ p0, x.block < W.heap.size := by obtain ⟨m, hm⟩ := k0; exact DataW.trod_lt m _ _ _ hm
  obtain ⟨A0, n0, c0, rfl, hraw0⟩ := RawO.open_raws (hval 0 38 v0 rfl rfl) h0
  have k1 := h1
  have lt1 : ∀ x ∈ p1, x.block < W.heap.size := by obtain ⟨m, hm⟩ := k1; exact DataW.trod_lt m _ _ _ hm
  obtain ⟨A1, n1, c1, rfl, hraw1⟩ := RawO.open_raws (hval 1 38 v1 rfl rfl) h1
  have k2 := h2
  have lt2 : ∀ x ∈ p2, x.block < W.heap.size := by obtain ⟨m, hm⟩ := k2; exact DataW.trod_lt m _ _ _ hm
  obtain ⟨a2, rfl, rfl, rfl, w2⟩ := open_int Tryd.underlying3 (hval 2 3 v2 rfl rfl) h2
  clear hA0 hval0
  refine (walk A0 n0 c0 A1 n1 c1 a2 w2 W hraw0 hraw1 (not_of hL)).mono fun e W' ⟨he, bel⟩ => ?_
  subst he
  exact ⟨_, rfl, _, _, _, [], _, [], hW', trodAll_mk1 (shut_bool Tryd.underlying4 _), (trodAll_cons_mk (Below.trod laidOut (by kernel_rfl) (of_decide_eq_true (by kernel_rfl)) k0 bel lt0) (trodAll_cons_mk (Below.trod laidOut (by kernel_rfl) (of_decide_eq_true (by kernel_rfl)) k1 bel lt1) (trodAll_cons_mk (Below.trod laidOut (by kernel_rfl) (of_decide_eq_true (by kernel_rfl)) k2 bel lt2) trodAll_mk0))), rfl, bel.frame _, fun h => by cases h⟩

theorem over : Rows.namesPutRow.holds Tryd.pinned (OpenSpec.ofChange Rows.namesPutSpec) :=
  OpenClaim.holds_of_wide 5 Tryd.f5 rfl rfl rfl rfl rfl rfl rfl ⟨rfl, rfl, rfl, rfl, rfl⟩ rfl rfl rfl rfl rfl (by kernel_rfl) Tryd.func5 (by kernel_rfl)
    (of_decide_eq_true (by kernel_rfl)) (by unfold Func.isWrapper; first | (rw [if_pos (by decide +kernel)]; kernel_rfl) | (rw [if_neg (by decide +kernel)]; exact ⟨rfl, rfl⟩))
    (fun os started H enc _ => lifted os started H enc)

/-- The tied card. -/
theorem proved : Rows.NamesPutCardSaid :=
  Claim7.holds_tied_plain_at .later [] [.data] true (true, "887a223315835e23b5a2630090f113ffe25d5ccc31492941d6ecbc9d83265101") false
    over (fun _ h => by cases h) (by kernel_rfl) (fun _ h => by cases h) namesPut_row_tie rfl ⟨rfl, rfl⟩ (by kernel_rfl) rfl
    (fun f fn hf hfn => by
      obtain rfl : f = 5 := Option.some.inj ((show Tryd.prog.funcNamed "lychway/lychwaykeep.NamesPut" = some 5 by kernel_rfl).symm.trans hf) |>.symm
      obtain rfl : fn = Tryd.f5 := (Option.some.inj (Tryd.func5.symm.trans hfn)).symm
      exact ⟨by kernel_rfl, fun j t ht => by
        rw [Tryd.params5] at ht
        have hm : t ∈ [38, 38, 3] := by simpa using Array.mem_of_getElem? ht
        have hall : ([38, 38, 3].all fun u => !Tryd.prog.wantsStandIn u) = true := by kernel_rfl
        exact (show Tryd.prog.wantsStandIn t = false by simpa using List.all_eq_true.1 hall t hm)⟩)
    (by kernel_rfl)
#print axioms proved
end Go.Proofs.YtlceojdnmoekcaaDoor.namesPut
