/- What is proved: the Go law lychwaykeep.EvalPut returns true for all its arguments, and leaves them as they were. No condition. -/
import Derived.Test.YtehkebncdahmcaaDoorRows
import Derived.Test.YtehkebncdahmcaaDoorEvPlug
import Derived.Test.YtehkebncdahmcaaDoorRawOpen
import Derived.Test.YtehkebncdahmcaaDoorKit
import Derived.WalkKit
import Derived.ProofKit
import Derived.OpenShut
import Derived.Deep.RegionHeld3
import Derived.Deep.DrawnRows
import Derived.Deep.DeepCutAuto
import Derived.Deep.QuietTactic
import Derived.BigQuiet
import Derived.WalkSpells
import Derived.WalkLawsBesides
import Derived.Lib.Hide
import Derived.Outline
import Derived.ShutString
import Derived.ChangeOld
import Derived.Below
import Derived.LaidMore
import Derived.SizedLaws
import Derived.Stop.Joined
import Derived.Stop.LaidErr
import Derived.Lib.LaidTab
import Derived.SevenTiedAt
import Derived.Lay
import Derived.LaidOnce
import Derived.Deep.DeepHandedRow
import Derived.Test.YtehkebncdahmcaaDoorCards
import Derived.Test.YtehkebncdahmcaaDoorTie
namespace Go.Proofs.YtehkebncdahmcaaDoor.evalPut
open ValM LexM ExM NmM TyM EvM EvP EvD Kit ExL ExP ExN ExV RawL RawN RawV Within GenL Gen GenE GenT NmC NmP NmG EvC EvO EvF EvG EvH EvK EvW EvJ EvU EvX
open Go.ChangeShapes Go.WideShapes Go.ChangeAt Go.RowKit
open Go.ChangeMaps (open_string shut_string)
set_option linter.unusedVariables false

theorem own : ownKnob Tryd.prog.godebug = none := by kernel_rfl
theorem laidOut : laidOutB Tryd.prog = true := by kernel_rfl


/-! ### The walk -/
set_option maxRecDepth 100000 in
set_option maxHeartbeats 16000000 in
theorem walk (A0 : Option Addr) (n0 : Nat) (c0 : Nat) (A1 : Option Addr) (n1 : Nat) (c1 : Nat) (A2 : Option Addr) (n2 : Nat) (c2 : Nat) (a3 : Int) (w3 : (Lit.int .i64 a3).wf = true) (w : World) (hraw0 : RawL.Raws w A0 n0 c0) (hraw1 : RawL.Raws w A1 n1 c1) (hraw2 : RawL.Raws w A2 n2 c2) (ht : ExN.Tab w) :
    Calls Tryd.prog 4 #[.slice A0 n0 c0, .slice A1 n1 c1, .slice A2 n2 c2, .int .i64 a3] w fun e w' => e = .returned (.bool true) ∧ Below w.heap.size w w' := by
  obtain ⟨pk, hpk⟩ : ∃ p, pick a3 3 = p := ⟨_, rfl⟩
  have hpb := pick_bd a3 3 (by decide)
  have hp := fun W => picked_any a3 3 W w3 (by decide) (by decide)
  rw [hpk] at hp hpb
  obtain ⟨pb0, pb1⟩ := hpb
  have HP := Lib.hid hp
  have HT := Lib.hid ht
  have HR0 := Lib.hid hraw0
  have HR1 := Lib.hid hraw1
  have HR2 := Lib.hid hraw2
  clear hp hpk ht hraw0 hraw1 hraw2 w3
  have hmk : ∀ W FA fc, Raws W A0 n0 c0 → Flds W FA someF → Calls Tryd.prog 7 #[.slice A0 n0 c0, .int .i64 (1 + pk), .slice FA 5 fc] W (ExprOut someF (1 + pk) W) := fun W FA fc hr hf => make_any n0 c0 fc A0 FA someF (1 + pk) W hr hf (by decide) someF_sz
  have hmk2 : ∀ W FA fc, Raws W A2 n2 c2 → Flds W FA someF.tail → Calls Tryd.prog 7 #[.slice A2 n2 c2, .int .i64 1, .slice FA 4 fc] W (ExprOut someF.tail 1 W) := fun W FA fc hr hf => make_any n2 c2 fc A2 FA someF.tail 1 W hr hf (by decide) (fun f hf => someF_sz f (List.mem_of_mem_tail hf))
  have HMk := Lib.hid hmk
  have HMk2 := Lib.hid hmk2
  clear hmk hmk2
  go_enter Tryd.func4, Tryd.ntmps4
  go_wp2_with fail
  refine (HP.out _).mono ?_; rintro e w9 ⟨rfl, rfl⟩
  go_wp2_with fail
  refine (someX_any _).mono ?_; rintro e w1 ⟨⟨rfl, hfl⟩, hb1⟩
  have hr1 : Raws w1 A0 n0 c0 := HR0.out.keep fun p v0 v1 v2 h0 h2 => hb1.block _ (cell_lt' h0)
  have HC := Lib.hid (HMk.out w1 _ 5 hr1 hfl)
  have HB1 := Lib.hid hb1
  clear hr1 hfl hb1
  go_wp2_with fail
  refine HC.out.mono ?_; rintro e w2 ⟨x, dx, Bx, mx, cx, rfl, hgx, hisx, hb2⟩
  obtain ⟨hckx, hx40, _, hokx⟩ := gn_check someF_nm hgx
  have hix := hisx.is
  have hbA : Below w.heap.size w (w2.alloc (.cells #[.int .i64 dx.op, .int .i64 dx.k, .int .i64 dx.n, .string dx.s, .string dx.nm, .slice Bx mx cx] 26)) := b_more (b_trans HB1.out hb2) _
  have z1 := Box.new w2 dx Bx mx cx
  have j1 := hix.below (b_new w2 (.cells #[.int .i64 dx.op, .int .i64 dx.k, .int .i64 dx.n, .string dx.s, .string dx.nm, .slice Bx mx cx] 26))
  obtain ⟨W, hW⟩ : ∃ W, w2.alloc (.cells #[.int .i64 dx.op, .int .i64 dx.k, .int .i64 dx.n, .string dx.s, .string dx.nm, .slice Bx mx cx] 26) = W := ⟨_, rfl⟩
  rw [hW] at hbA z1 j1
  have hT := HT.out.below hbA
  have HW := Lib.hid hW
  have HBA := Lib.hid hbA
  have HX := Lib.hid (And.intro z1 (And.intro j1 hT))
  have HOx := Lib.hid (And.intro hckx (And.intro hx40 hokx))
  clear hW hbA z1 j1 hT hix hisx hb2 hgx HC HB1 HMk HR0 HT hckx hx40 hokx
  go_upto_region 2 with fail
  rw [HW.out]
  go_wp2_with fail
  refine (someX_any _).mono ?_; rintro e w3 ⟨⟨rfl, hfl⟩, hb3⟩
  have hfl2 : Flds w3 (some ⟨W.heap.size, 9, none⟩) someF.tail := fun i hi => by
    obtain ⟨a, e, h⟩ := hfl (i + 1) (by rw [List.length_tail] at hi; omega)
    injection e with e
    subst e
    refine ⟨_, rfl, ?_⟩
    rw [List.getElem_tail]
    have e2 : (⟨W.heap.size, 0, none⟩ : Addr).add ((i + 1) * 9) = (⟨W.heap.size, 9, none⟩ : Addr).add (i * 9) := by
      unfold Addr.add
      rcases Nat.eq_zero_or_pos i with rfl | h
      · rfl
      · rw [if_neg (by omega), if_neg (by omega)]
        show (⟨W.heap.size, 0 + (i + 1) * 9, none⟩ : Addr) = ⟨W.heap.size, 9 + i * 9, none⟩
        rw [show 0 + (i + 1) * 9 = 9 + i * 9 by omega]
    rw [← e2]; exact h
  have hr2 : Raws w3 A2 n2 c2 := HR2.out.keep fun p v0 v1 v2 h0 h2 => (b_trans HBA.out hb3).block _ (cell_lt' h0)
  have HC := Lib.hid (HMk2.out w3 _ 4 hr2 hfl2)
  have HB3 := Lib.hid hb3
  clear hr2 hfl2 hfl hb3 HMk2 HR2
  go_wp2_with fail
  refine HC.out.mono ?_; rintro e w4 ⟨y, dy, By, my, cy, rfl, hgy, hisy, hb4⟩
  obtain ⟨hcky, hy40, _, hoky⟩ := gn_check (fun f hf => someF_nm f (List.mem_of_mem_tail hf)) hgy
  have hiy := hisy.is
  have hbB : Below W.heap.size W (w4.alloc (.cells #[.int .i64 dy.op, .int .i64 dy.k, .int .i64 dy.n, .string dy.s, .string dy.nm, .slice By my cy] 26)) := b_more (b_trans HB3.out hb4) _
  have z2 := Box.new w4 dy By my cy
  have j2 := hiy.below (b_new w4 (.cells #[.int .i64 dy.op, .int .i64 dy.k, .int .i64 dy.n, .string dy.s, .string dy.nm, .slice By my cy] 26))
  obtain ⟨z1, j1, hT⟩ := HX.out
  have z1 := z1.below hbB
  have j1 := j1.below hbB
  have hT := hT.below hbB
  obtain ⟨U, hU⟩ : ∃ W, w4.alloc (.cells #[.int .i64 dy.op, .int .i64 dy.k, .int .i64 dy.n, .string dy.s, .string dy.nm, .slice By my cy] 26) = W := ⟨_, rfl⟩
  rw [hU] at hbB z1 j1 z2 j2 hT
  have hbU := b_trans HBA.out hbB
  obtain ⟨hckx, hx40, hokx⟩ := HOx.out
  have hput : Calls Tryd.prog 10 #[.agg #[.int .i64 dx.op, .int .i64 dx.k, .int .i64 dx.n, .string dx.s, .string dx.nm, .slice Bx mx cx], .string ⟨#[110]⟩, .agg #[.int .i64 dy.op, .int .i64 dy.k, .int .i64 dy.n, .string dy.s, .string dy.nm, .slice By my cy]] U fun e w' => ∃ (dz : Nd) (Bz : Option Addr) (mz cz : Nat) (r : Int), e = .returned (.tuple #[.agg #[.int .i64 dz.op, .int .i64 dz.k, .int .i64 dz.n, .string dz.s, .string dz.nm, .slice Bz mz cz], .int .i64 r]) ∧ IsP (fun b => U.heap.size ≤ b) w' (putZ nN x y) dz Bz mz ∧ (r = 0 → putZ nN x y = Ex.put nN y x ∧ (Ex.put nN y x).checkE = 0) ∧ Below U.heap.size U w' := by
    refine (Put_any nN (by decide) x y (by omega) (by omega) dx dy Bx By mx cx my cy U j1 j2 hT).mono ?_
    rintro e w' ⟨dz, Bz, mz, cz, rfl, hz, hb⟩
    refine ⟨dz, Bz, mz, cz, _, rfl, hz, fun h0 => ?_, hb⟩
    have e1 : putZ nN x y = Ex.put nN y x := by unfold putZ; rw [if_pos h0]
    exact ⟨e1, by rw [← putR_n hckx hcky]; exact h0⟩
  obtain ⟨q0, q1, q2, q3, q4, q5⟩ := z1.cells
  obtain ⟨p0, p1, p2, p3, p4, p5⟩ := z2.cells
  have HPut := Lib.hid hput
  have HU := Lib.hid hU
  have HBU := Lib.hid hbU
  have HXY := Lib.hid (And.intro z1 (And.intro j1 (And.intro z2 (And.intro j2 hT))))
  have HOy := Lib.hid (And.intro hcky hoky)
  clear hput hU hbU z1 j1 z2 j2 hT hckx hx40 hokx hcky hy40 hoky hgy hisy hiy hb4 hbB HC HB3 HX HBA
  go_upto_region 3 with fail
  rw [HU.out]
  go_wp2_with fail
  refine HPut.out.mono ?_; rintro e w5 ⟨dz, Bz, mz, cz, r, rfl, hz, hr, hb5⟩
  have hbC : Below U.heap.size U (w5.alloc (.cells #[.int .i64 dz.op, .int .i64 dz.k, .int .i64 dz.n, .string dz.s, .string dz.nm, .slice Bz mz cz] 26)) := b_more hb5 _
  have z3 := Box.new w5 dz Bz mz cz
  have j3 := hz.is.below (b_new w5 (.cells #[.int .i64 dz.op, .int .i64 dz.k, .int .i64 dz.n, .string dz.s, .string dz.nm, .slice Bz mz cz] 26))
  obtain ⟨X, hX⟩ : ∃ W, w5.alloc (.cells #[.int .i64 dz.op, .int .i64 dz.k, .int .i64 dz.n, .string dz.s, .string dz.nm, .slice Bz mz cz] 26) = W := ⟨_, rfl⟩
  rw [hX] at hbC z3 j3
  have HX := Lib.hid hX
  have HBX := Lib.hid hbC
  have HZ := Lib.hid (And.intro z3 (And.intro j3 hr))
  clear hX hbC z3 j3 hr hz hb5 q0 q1 q2 q3 q4 q5 p0 p1 p2 p3 p4 p5 HPut HU
  go_upto_region 4 with fail
  rw [HX.out]
  obtain ⟨rs, hrs, hrv⟩ := Raws.val n1 HR1.out
  obtain ⟨z1, j1, z2, j2, hT⟩ := HXY.out
  obtain ⟨z3, j3, hr⟩ := HZ.out
  obtain ⟨hckx, hx40, hokx⟩ := HOx.out
  obtain ⟨hcky, hoky⟩ := HOy.out
  have hbX := b_trans HBU.out HBX.out
  have hfit := factsV_fits rs
  have hfa : ∀ V, Below X.heap.size X V → Calls Tryd.prog 11 #[.slice A1 n1 c1] V (FactsV rs V) := fun V hV => factsV_any rs n1 c1 A1 V hrs (hrv.below (b_trans hbX hV))
  obtain ⟨v, hv⟩ : ∃ v, Ex.ev (fcs (factsV rs 5)) y = v := ⟨_, rfl⟩
  have hvok : v.ok := by rw [← hv]; exact ev_ok hfit.ok y hoky
  have hlen := factsV_len rs 5
  have hoY : ∀ V g cap, Below X.heap.size X V → FRow V g (factsV rs 5) → Calls Tryd.prog 5 #[.agg #[.int .i64 dy.op, .int .i64 dy.k, .int .i64 dy.n, .string dy.s, .string dy.nm, .slice By my cy], .slice (some ⟨g, 0, none⟩) 5 cap] V fun e' w' => e' = .returned (.tuple #[.agg #[.int .i64 v.k, .int .i64 v.n, .string v.s], .int .i64 0]) ∧ Below V.heap.size V w' := fun V g cap hV hr => by
    have := of_row cy ((j2.below HBX.out).below hV) hcky ((hT.below HBX.out).below hV) (factsV rs 5) g cap (by omega) hfit.names hfit.ok hr
    rw [hlen, hv] at this; exact this
  have hoX : ∀ V g cap, Below X.heap.size X V → FRow V g (nFc v :: factsV rs 5) → Calls Tryd.prog 5 #[.agg #[.int .i64 dx.op, .int .i64 dx.k, .int .i64 dx.n, .string dx.s, .string dx.nm, .slice Bx mx cx], .slice (some ⟨g, 0, none⟩) 6 cap] V fun e' w' => e' = .returned (.tuple #[.agg #[.int .i64 (Ex.ev (fcs (nFc v :: factsV rs 5)) x).k, .int .i64 (Ex.ev (fcs (nFc v :: factsV rs 5)) x).n, .string (Ex.ev (fcs (nFc v :: factsV rs 5)) x).s], .int .i64 0]) ∧ Below V.heap.size V w' := fun V g cap hV hr => by
    have := of_row cx ((j1.below HBX.out).below hV) hckx ((hT.below HBX.out).below hV) (nFc v :: factsV rs 5) g cap (by simp; omega) (six_names hfit v) (six_ok hfit hvok) hr
    rw [show (nFc v :: factsV rs 5).length = 6 by simp; omega] at this; exact this
  have hoZ : r = 0 → ∀ V g cap, Below X.heap.size X V → FRow V g (factsV rs 5) → Calls Tryd.prog 5 #[.agg #[.int .i64 dz.op, .int .i64 dz.k, .int .i64 dz.n, .string dz.s, .string dz.nm, .slice Bz mz cz], .slice (some ⟨g, 0, none⟩) 5 cap] V fun e' w' => e' = .returned (.tuple #[.agg #[.int .i64 (Ex.ev (fcs (nFc v :: factsV rs 5)) x).k, .int .i64 (Ex.ev (fcs (nFc v :: factsV rs 5)) x).n, .string (Ex.ev (fcs (nFc v :: factsV rs 5)) x).s], .int .i64 0]) ∧ Below V.heap.size V w' := fun h0 V g cap hV hr' => by
    obtain ⟨e1, e2⟩ := hr h0
    have := of_row cz (j3.below hV) (by rw [e1]; exact e2) ((hT.below HBX.out).below hV) (factsV rs 5) g cap (by omega) hfit.names hfit.ok hr'
    rw [hlen, e1, plug, hv] at this; exact this
  have hvk := (ok_kind hvok).1
  obtain ⟨u, hu⟩ : ∃ u, Ex.ev (fcs (nFc v :: factsV rs 5)) x = u := ⟨_, rfl⟩
  rw [hu] at hoX hoZ
  obtain ⟨vk, vn, vz⟩ := v
  obtain ⟨uk, un, uz⟩ := u
  simp only at hoY hoX hoZ hvk
  have hvk : ¬ vk = 0 := by omega
  have hcy : ∀ V, Below X.heap.size X V → V.cell? ⟨w4.heap.size, 0, none⟩ = some (.int .i64 dy.op) ∧ V.cell? ⟨w4.heap.size, 1, none⟩ = some (.int .i64 dy.k) ∧ V.cell? ⟨w4.heap.size, 2, none⟩ = some (.int .i64 dy.n) ∧ V.cell? ⟨w4.heap.size, 3, none⟩ = some (.string dy.s) ∧ V.cell? ⟨w4.heap.size, 4, none⟩ = some (.string dy.nm) ∧ V.cell? ⟨w4.heap.size, 5, none⟩ = some (.slice By my cy) := fun V hV => ((z2.below HBX.out).below hV).cells
  have hcz : ∀ V, Below X.heap.size X V → V.cell? ⟨w5.heap.size, 0, none⟩ = some (.int .i64 dz.op) ∧ V.cell? ⟨w5.heap.size, 1, none⟩ = some (.int .i64 dz.k) ∧ V.cell? ⟨w5.heap.size, 2, none⟩ = some (.int .i64 dz.n) ∧ V.cell? ⟨w5.heap.size, 3, none⟩ = some (.string dz.s) ∧ V.cell? ⟨w5.heap.size, 4, none⟩ = some (.string dz.nm) ∧ V.cell? ⟨w5.heap.size, 5, none⟩ = some (.slice Bz mz cz) := fun V hV => (z3.below hV).cells
  have hcx : ∀ V, Below X.heap.size X V → V.cell? ⟨w2.heap.size, 0, none⟩ = some (.int .i64 dx.op) ∧ V.cell? ⟨w2.heap.size, 1, none⟩ = some (.int .i64 dx.k) ∧ V.cell? ⟨w2.heap.size, 2, none⟩ = some (.int .i64 dx.n) ∧ V.cell? ⟨w2.heap.size, 3, none⟩ = some (.string dx.s) ∧ V.cell? ⟨w2.heap.size, 4, none⟩ = some (.string dx.nm) ∧ V.cell? ⟨w2.heap.size, 5, none⟩ = some (.slice Bx mx cx) := fun V hV => ((z1.below HBX.out).below hV).cells
  have HFa := Lib.hid hfa
  have HOY := Lib.hid hoY
  have HOX := Lib.hid hoX
  have HOZ := Lib.hid hoZ
  have HCy := Lib.hid hcy
  have HCz := Lib.hid hcz
  have HCx := Lib.hid hcx
  have HBW := Lib.hid hbX
  have HVk := Lib.hid hvk
  clear hfa hoY hoX hoZ hcy hcz hcx hbX hvk hvok hlen hfit hv hu hrs hrv z1 j1 z2 j2 hT z3 j3 hr hckx hx40 hokx hcky hoky HXY HZ HOx HOy HR1 HBX HBU HX HW
  have hcl : ∀ V, Below X.heap.size X V → V.cell? ⟨w4.heap.size, 0, none⟩ = some (.int .i64 dy.op) ∧ V.cell? ⟨w4.heap.size, 1, none⟩ = some (.int .i64 dy.k) ∧ V.cell? ⟨w4.heap.size, 2, none⟩ = some (.int .i64 dy.n) ∧ V.cell? ⟨w4.heap.size, 3, none⟩ = some (.string dy.s) ∧ V.cell? ⟨w4.heap.size, 4, none⟩ = some (.string dy.nm) ∧ V.cell? ⟨w4.heap.size, 5, none⟩ = some (.slice By my cy) := HCy.out
  have hst : ∀ (U : World) (B : Nat) (u0 u1 u2 : Value), Below X.heap.size X U → X.heap.size ≤ B → ∀ V, V = ((U.setCell ⟨B, 0, none⟩ u0).setCell ⟨B, 1, none⟩ u1).setCell ⟨B, 2, none⟩ u2 → V.cell? ⟨w4.heap.size, 0, none⟩ = some (.int .i64 dy.op) ∧ V.cell? ⟨w4.heap.size, 1, none⟩ = some (.int .i64 dy.k) ∧ V.cell? ⟨w4.heap.size, 2, none⟩ = some (.int .i64 dy.n) ∧ V.cell? ⟨w4.heap.size, 3, none⟩ = some (.string dy.s) ∧ V.cell? ⟨w4.heap.size, 4, none⟩ = some (.string dy.nm) ∧ V.cell? ⟨w4.heap.size, 5, none⟩ = some (.slice By my cy) := fun U B u0 u1 u2 hU hB V hV => by
    subst hV
    exact hcl _ (b_set3' hU B hB 0 1 2 u0 u1 u2)
  have HC := Lib.hid hcl
  have HS := Lib.hid hst
  clear hcl hst
  go_cut [13, 14] (fun sA sB wx => ∃ (B : Nat), sA = .pointer (some ⟨B, 0, none⟩) ∧ sB = .int .i64 0 ∧ BV wx B vk vn vz ∧ Below X.heap.size X wx)
  case first =>
    have hbl := Below.refl X.heap.size X
    obtain ⟨q0, q1, q2, q3, q4, q5⟩ := HC.out X hbl
    go_region_held3 (fun V => V.cell? ⟨w4.heap.size, 0, none⟩ = some (.int .i64 dy.op) ∧ V.cell? ⟨w4.heap.size, 1, none⟩ = some (.int .i64 dy.k) ∧ V.cell? ⟨w4.heap.size, 2, none⟩ = some (.int .i64 dy.n) ∧ V.cell? ⟨w4.heap.size, 3, none⟩ = some (.string dy.s) ∧ V.cell? ⟨w4.heap.size, 4, none⟩ = some (.string dy.nm) ∧ V.cell? ⟨w4.heap.size, 5, none⟩ = some (.slice By my cy)) (first | (with_reducible exact HC.out _ (by ((repeat (first | (with_reducible refine b_more ?_ _) | (with_reducible refine b_drew ?_))); (first | (with_reducible assumption) | (with_reducible exact Below.refl _ _))))) | (with_reducible exact HS.out _ _ _ _ _ hbl (by first | exact Nat.le_refl _ | omega) _ rfl))
      (first | (go_at_call 11; (with_reducible refine (HFa.out _ ?_).mono ?_); (((repeat (first | (with_reducible refine b_more ?_ _) | (with_reducible refine b_drew ?_))); (first | (with_reducible assumption) | (with_reducible exact Below.refl _ _)))); rintro e wn ⟨g1, cap1, rfl, hg1, hrow, hbn⟩; have hrow : FRow wn g1 (factsV rs 5) := hrow; have hbl : Below X.heap.size X wn := b_trans (by ((repeat (first | (with_reducible refine b_more ?_ _) | (with_reducible refine b_drew ?_))); (first | (with_reducible assumption) | (with_reducible exact Below.refl _ _)))) hbn; have sn := hbl.size; (first | (have bx : BV wn X.heap.size 0 0 ⟨#[]⟩ := BV.below (by ((repeat (with_reducible refine bv_drew ?_)); first | (with_reducible assumption) | ((with_reducible refine bv_at _ _ ?_); first | rfl | (exact World.size_alloc _ _) | (exact sz2 _ _ _)) | ((with_reducible refine bv_alloc ?_ _); ((repeat (with_reducible refine bv_drew ?_)); first | (with_reducible assumption) | ((with_reducible refine bv_at _ _ ?_); first | rfl | (exact World.size_alloc _ _) | (exact sz2 _ _ _)) | ((with_reducible refine bv_alloc ?_ _); ((repeat (with_reducible refine bv_drew ?_)); first | (with_reducible assumption) | ((with_reducible refine bv_at _ _ ?_); first | rfl | (exact World.size_alloc _ _) | (exact sz2 _ _ _)) | ((with_reducible refine bv_alloc ?_ _); ((repeat (with_reducible refine bv_drew ?_)); with_reducible assumption)))))))) hbn) | (have bx : BV wn (X.heap.size + 1) 0 0 ⟨#[]⟩ := BV.below (by ((repeat (with_reducible refine bv_drew ?_)); first | (with_reducible assumption) | ((with_reducible refine bv_at _ _ ?_); first | rfl | (exact World.size_alloc _ _) | (exact sz2 _ _ _)) | ((with_reducible refine bv_alloc ?_ _); ((repeat (with_reducible refine bv_drew ?_)); first | (with_reducible assumption) | ((with_reducible refine bv_at _ _ ?_); first | rfl | (exact World.size_alloc _ _) | (exact sz2 _ _ _)) | ((with_reducible refine bv_alloc ?_ _); ((repeat (with_reducible refine bv_drew ?_)); first | (with_reducible assumption) | ((with_reducible refine bv_at _ _ ?_); first | rfl | (exact World.size_alloc _ _) | (exact sz2 _ _ _)) | ((with_reducible refine bv_alloc ?_ _); ((repeat (with_reducible refine bv_drew ?_)); with_reducible assumption)))))))) hbn) | skip)) | (go_at_call 5; (with_reducible refine (HOY.out _ _ _ ?_ (hrow.below ?_)).mono ?_); (((repeat (first | (with_reducible refine b_more ?_ _) | (with_reducible refine b_drew ?_))); (first | (with_reducible assumption) | (with_reducible exact Below.refl _ _)))); (((repeat (first | (with_reducible refine b_more ?_ _) | (with_reducible refine b_drew ?_))); (first | (with_reducible assumption) | (with_reducible exact Below.refl _ _)))); rintro e wz ⟨rfl, hbz⟩; have hbl : Below X.heap.size X wz := b_trans (by ((repeat (first | (with_reducible refine b_more ?_ _) | (with_reducible refine b_drew ?_))); (first | (with_reducible assumption) | (with_reducible exact Below.refl _ _)))) hbz; (first | (have bx : BV wz X.heap.size 0 0 ⟨#[]⟩ := BV.below (by ((repeat (with_reducible refine bv_drew ?_)); first | (with_reducible assumption) | ((with_reducible refine bv_at _ _ ?_); first | rfl | (exact World.size_alloc _ _) | (exact sz2 _ _ _)) | ((with_reducible refine bv_alloc ?_ _); ((repeat (with_reducible refine bv_drew ?_)); first | (with_reducible assumption) | ((with_reducible refine bv_at _ _ ?_); first | rfl | (exact World.size_alloc _ _) | (exact sz2 _ _ _)) | ((with_reducible refine bv_alloc ?_ _); ((repeat (with_reducible refine bv_drew ?_)); first | (with_reducible assumption) | ((with_reducible refine bv_at _ _ ?_); first | rfl | (exact World.size_alloc _ _) | (exact sz2 _ _ _)) | ((with_reducible refine bv_alloc ?_ _); ((repeat (with_reducible refine bv_drew ?_)); with_reducible assumption)))))))) hbz) | (have bx : BV wz wn.heap.size 0 0 ⟨#[]⟩ := BV.below (by ((repeat (with_reducible refine bv_drew ?_)); first | (with_reducible assumption) | ((with_reducible refine bv_at _ _ ?_); first | rfl | (exact World.size_alloc _ _) | (exact sz2 _ _ _)) | ((with_reducible refine bv_alloc ?_ _); ((repeat (with_reducible refine bv_drew ?_)); first | (with_reducible assumption) | ((with_reducible refine bv_at _ _ ?_); first | rfl | (exact World.size_alloc _ _) | (exact sz2 _ _ _)) | ((with_reducible refine bv_alloc ?_ _); ((repeat (with_reducible refine bv_drew ?_)); first | (with_reducible assumption) | ((with_reducible refine bv_at _ _ ?_); first | rfl | (exact World.size_alloc _ _) | (exact sz2 _ _ _)) | ((with_reducible refine bv_alloc ?_ _); ((repeat (with_reducible refine bv_drew ?_)); with_reducible assumption)))))))) hbz) | (have bx : BV wz (wn.heap.size + 1) 0 0 ⟨#[]⟩ := BV.below (by ((repeat (with_reducible refine bv_drew ?_)); first | (with_reducible assumption) | ((with_reducible refine bv_at _ _ ?_); first | rfl | (exact World.size_alloc _ _) | (exact sz2 _ _ _)) | ((with_reducible refine bv_alloc ?_ _); ((repeat (with_reducible refine bv_drew ?_)); first | (with_reducible assumption) | ((with_reducible refine bv_at _ _ ?_); first | rfl | (exact World.size_alloc _ _) | (exact sz2 _ _ _)) | ((with_reducible refine bv_alloc ?_ _); ((repeat (with_reducible refine bv_drew ?_)); first | (with_reducible assumption) | ((with_reducible refine bv_at _ _ ?_); first | rfl | (exact World.size_alloc _ _) | (exact sz2 _ _ _)) | ((with_reducible refine bv_alloc ?_ _); ((repeat (with_reducible refine bv_drew ?_)); with_reducible assumption)))))))) hbz) | skip); (first | (obtain ⟨x0, x1, x2⟩ := bx.cells; have xf := bx.frozen; have xl := bx.lt) | skip)))
    all_goals (go_wp2_with fail; go_meet)
    all_goals (first | (with_reducible exact ⟨_, rfl, rfl, bx.set3 vk vn vz, b_set3' hbl _ (by first | exact Nat.le_refl _ | omega) 0 1 2 _ _ _⟩) | (with_reducible exact ⟨_, rfl, rfl, BV.new wz vk vn vz, b_more hbl _⟩))
  case rest =>
    obtain ⟨B13, rfl, rfl, hbx, hb⟩ := hcut
    obtain ⟨Y, rfl⟩ : ∃ V, V = wc := ⟨_, rfl⟩
    have KV := Lib.hid hbx
    have HBY := Lib.hid hb
    clear hbx hb HC HS HOY HCy
    have hvk := HVk.out
    obtain ⟨v0, v1, v2⟩ := KV.out.cells
    go_upto_region 7 with fail
    clear v0 v1 v2 hvk
    by_cases h0 : r = 0
    · subst h0
      have HOZ := Lib.hid (HOZ.out rfl)
      go_upto_region 9 with fail
      have HFa9 := Lib.hid (fun V (hV : Below Y.heap.size Y V) => HFa.out V (b_trans HBY.out hV))
      have HOZ9 := Lib.hid (fun V g cap (hV : Below Y.heap.size Y V) => HOZ.out V g cap (b_trans HBY.out hV))
      clear HOZ
      have hcl : ∀ V, Below Y.heap.size Y V → V.cell? ⟨w5.heap.size, 0, none⟩ = some (.int .i64 dz.op) ∧ V.cell? ⟨w5.heap.size, 1, none⟩ = some (.int .i64 dz.k) ∧ V.cell? ⟨w5.heap.size, 2, none⟩ = some (.int .i64 dz.n) ∧ V.cell? ⟨w5.heap.size, 3, none⟩ = some (.string dz.s) ∧ V.cell? ⟨w5.heap.size, 4, none⟩ = some (.string dz.nm) ∧ V.cell? ⟨w5.heap.size, 5, none⟩ = some (.slice Bz mz cz) := fun V hV => HCz.out V (b_trans HBY.out hV)
      have hst : ∀ (U : World) (B : Nat) (u0 u1 u2 : Value), Below Y.heap.size Y U → Y.heap.size ≤ B → ∀ V, V = ((U.setCell ⟨B, 0, none⟩ u0).setCell ⟨B, 1, none⟩ u1).setCell ⟨B, 2, none⟩ u2 → V.cell? ⟨w5.heap.size, 0, none⟩ = some (.int .i64 dz.op) ∧ V.cell? ⟨w5.heap.size, 1, none⟩ = some (.int .i64 dz.k) ∧ V.cell? ⟨w5.heap.size, 2, none⟩ = some (.int .i64 dz.n) ∧ V.cell? ⟨w5.heap.size, 3, none⟩ = some (.string dz.s) ∧ V.cell? ⟨w5.heap.size, 4, none⟩ = some (.string dz.nm) ∧ V.cell? ⟨w5.heap.size, 5, none⟩ = some (.slice Bz mz cz) := fun U B u0 u1 u2 hU hB V hV => by
        subst hV
        exact hcl _ (b_set3' hU B hB 0 1 2 u0 u1 u2)
      have HC := Lib.hid hcl
      have HS := Lib.hid hst
      clear hcl hst
      go_cut [15, 16] (fun sA sB wx => ∃ (B : Nat), sA = .pointer (some ⟨B, 0, none⟩) ∧ sB = .int .i64 0 ∧ BV wx B uk un uz ∧ Below Y.heap.size Y wx)
      case first =>
        have hbl := Below.refl Y.heap.size Y
        obtain ⟨q0, q1, q2, q3, q4, q5⟩ := HC.out Y hbl
        go_region_held3 (fun V => V.cell? ⟨w5.heap.size, 0, none⟩ = some (.int .i64 dz.op) ∧ V.cell? ⟨w5.heap.size, 1, none⟩ = some (.int .i64 dz.k) ∧ V.cell? ⟨w5.heap.size, 2, none⟩ = some (.int .i64 dz.n) ∧ V.cell? ⟨w5.heap.size, 3, none⟩ = some (.string dz.s) ∧ V.cell? ⟨w5.heap.size, 4, none⟩ = some (.string dz.nm) ∧ V.cell? ⟨w5.heap.size, 5, none⟩ = some (.slice Bz mz cz)) (first | (with_reducible exact HC.out _ (by ((repeat (first | (with_reducible refine b_more ?_ _) | (with_reducible refine b_drew ?_))); (first | (with_reducible assumption) | (with_reducible exact Below.refl _ _))))) | (with_reducible exact HS.out _ _ _ _ _ hbl (by first | exact Nat.le_refl _ | omega) _ rfl))
          (first | (go_at_call 11; (with_reducible refine (HFa9.out _ ?_).mono ?_); (((repeat (first | (with_reducible refine b_more ?_ _) | (with_reducible refine b_drew ?_))); (first | (with_reducible assumption) | (with_reducible exact Below.refl _ _)))); rintro e wn ⟨g1, cap1, rfl, hg1, hrow, hbn⟩; have hrow : FRow wn g1 (factsV rs 5) := hrow; have hbl : Below Y.heap.size Y wn := b_trans (by ((repeat (first | (with_reducible refine b_more ?_ _) | (with_reducible refine b_drew ?_))); (first | (with_reducible assumption) | (with_reducible exact Below.refl _ _)))) hbn; have sn := hbl.size; (first | (have bx : BV wn Y.heap.size 0 0 ⟨#[]⟩ := BV.below (by ((repeat (with_reducible refine bv_drew ?_)); first | (with_reducible assumption) | ((with_reducible refine bv_at _ _ ?_); first | rfl | (exact World.size_alloc _ _) | (exact sz2 _ _ _)) | ((with_reducible refine bv_alloc ?_ _); ((repeat (with_reducible refine bv_drew ?_)); first | (with_reducible assumption) | ((with_reducible refine bv_at _ _ ?_); first | rfl | (exact World.size_alloc _ _) | (exact sz2 _ _ _)) | ((with_reducible refine bv_alloc ?_ _); ((repeat (with_reducible refine bv_drew ?_)); first | (with_reducible assumption) | ((with_reducible refine bv_at _ _ ?_); first | rfl | (exact World.size_alloc _ _) | (exact sz2 _ _ _)) | ((with_reducible refine bv_alloc ?_ _); ((repeat (with_reducible refine bv_drew ?_)); with_reducible assumption)))))))) hbn) | (have bx : BV wn (Y.heap.size + 1) 0 0 ⟨#[]⟩ := BV.below (by ((repeat (with_reducible refine bv_drew ?_)); first | (with_reducible assumption) | ((with_reducible refine bv_at _ _ ?_); first | rfl | (exact World.size_alloc _ _) | (exact sz2 _ _ _)) | ((with_reducible refine bv_alloc ?_ _); ((repeat (with_reducible refine bv_drew ?_)); first | (with_reducible assumption) | ((with_reducible refine bv_at _ _ ?_); first | rfl | (exact World.size_alloc _ _) | (exact sz2 _ _ _)) | ((with_reducible refine bv_alloc ?_ _); ((repeat (with_reducible refine bv_drew ?_)); first | (with_reducible assumption) | ((with_reducible refine bv_at _ _ ?_); first | rfl | (exact World.size_alloc _ _) | (exact sz2 _ _ _)) | ((with_reducible refine bv_alloc ?_ _); ((repeat (with_reducible refine bv_drew ?_)); with_reducible assumption)))))))) hbn) | skip)) | (go_at_call 5; (with_reducible refine (HOZ9.out _ _ _ ?_ (hrow.below ?_)).mono ?_); (((repeat (first | (with_reducible refine b_more ?_ _) | (with_reducible refine b_drew ?_))); (first | (with_reducible assumption) | (with_reducible exact Below.refl _ _)))); (((repeat (first | (with_reducible refine b_more ?_ _) | (with_reducible refine b_drew ?_))); (first | (with_reducible assumption) | (with_reducible exact Below.refl _ _)))); rintro e wz ⟨rfl, hbz⟩; have hbl : Below Y.heap.size Y wz := b_trans (by ((repeat (first | (with_reducible refine b_more ?_ _) | (with_reducible refine b_drew ?_))); (first | (with_reducible assumption) | (with_reducible exact Below.refl _ _)))) hbz; (first | (have bx : BV wz Y.heap.size 0 0 ⟨#[]⟩ := BV.below (by ((repeat (with_reducible refine bv_drew ?_)); first | (with_reducible assumption) | ((with_reducible refine bv_at _ _ ?_); first | rfl | (exact World.size_alloc _ _) | (exact sz2 _ _ _)) | ((with_reducible refine bv_alloc ?_ _); ((repeat (with_reducible refine bv_drew ?_)); first | (with_reducible assumption) | ((with_reducible refine bv_at _ _ ?_); first | rfl | (exact World.size_alloc _ _) | (exact sz2 _ _ _)) | ((with_reducible refine bv_alloc ?_ _); ((repeat (with_reducible refine bv_drew ?_)); first | (with_reducible assumption) | ((with_reducible refine bv_at _ _ ?_); first | rfl | (exact World.size_alloc _ _) | (exact sz2 _ _ _)) | ((with_reducible refine bv_alloc ?_ _); ((repeat (with_reducible refine bv_drew ?_)); with_reducible assumption)))))))) hbz) | (have bx : BV wz wn.heap.size 0 0 ⟨#[]⟩ := BV.below (by ((repeat (with_reducible refine bv_drew ?_)); first | (with_reducible assumption) | ((with_reducible refine bv_at _ _ ?_); first | rfl | (exact World.size_alloc _ _) | (exact sz2 _ _ _)) | ((with_reducible refine bv_alloc ?_ _); ((repeat (with_reducible refine bv_drew ?_)); first | (with_reducible assumption) | ((with_reducible refine bv_at _ _ ?_); first | rfl | (exact World.size_alloc _ _) | (exact sz2 _ _ _)) | ((with_reducible refine bv_alloc ?_ _); ((repeat (with_reducible refine bv_drew ?_)); first | (with_reducible assumption) | ((with_reducible refine bv_at _ _ ?_); first | rfl | (exact World.size_alloc _ _) | (exact sz2 _ _ _)) | ((with_reducible refine bv_alloc ?_ _); ((repeat (with_reducible refine bv_drew ?_)); with_reducible assumption)))))))) hbz) | (have bx : BV wz (wn.heap.size + 1) 0 0 ⟨#[]⟩ := BV.below (by ((repeat (with_reducible refine bv_drew ?_)); first | (with_reducible assumption) | ((with_reducible refine bv_at _ _ ?_); first | rfl | (exact World.size_alloc _ _) | (exact sz2 _ _ _)) | ((with_reducible refine bv_alloc ?_ _); ((repeat (with_reducible refine bv_drew ?_)); first | (with_reducible assumption) | ((with_reducible refine bv_at _ _ ?_); first | rfl | (exact World.size_alloc _ _) | (exact sz2 _ _ _)) | ((with_reducible refine bv_alloc ?_ _); ((repeat (with_reducible refine bv_drew ?_)); first | (with_reducible assumption) | ((with_reducible refine bv_at _ _ ?_); first | rfl | (exact World.size_alloc _ _) | (exact sz2 _ _ _)) | ((with_reducible refine bv_alloc ?_ _); ((repeat (with_reducible refine bv_drew ?_)); with_reducible assumption)))))))) hbz) | skip); (first | (obtain ⟨x0, x1, x2⟩ := bx.cells; have xf := bx.frozen; have xl := bx.lt) | skip)))
        all_goals (go_wp2_with fail; go_meet)
        all_goals (first | (with_reducible exact ⟨_, rfl, rfl, bx.set3 uk un uz, b_set3' hbl _ (by first | exact Nat.le_refl _ | omega) 0 1 2 _ _ _⟩) | (with_reducible exact ⟨_, rfl, rfl, BV.new wz uk un uz, b_more hbl _⟩))
      case rest =>
        obtain ⟨B15, rfl, rfl, hbx, hb⟩ := hcut
        obtain ⟨Y2, rfl⟩ : ∃ V, V = wc := ⟨_, rfl⟩
        have KU := Lib.hid hbx
        have KV := Lib.hid (KV.out.below hb)
        have HBY2 := Lib.hid (b_trans HBY.out hb)
        clear hbx hb HC HS HOZ9 HCz HFa9
        go_upto_region 10 with fail
        have HFa10 := Lib.hid (fun V (hV : Below Y2.heap.size Y2 V) => HFa.out V (b_trans HBY2.out hV))
        have HOX10 := Lib.hid (fun V g cap (hV : Below Y2.heap.size Y2 V) => HOX.out V g cap (b_trans HBY2.out hV))
        have HLen := Lib.hid (factsV_len rs 5)
        have hcl : ∀ V, Below Y2.heap.size Y2 V → V.cell? ⟨w2.heap.size, 0, none⟩ = some (.int .i64 dx.op) ∧ V.cell? ⟨w2.heap.size, 1, none⟩ = some (.int .i64 dx.k) ∧ V.cell? ⟨w2.heap.size, 2, none⟩ = some (.int .i64 dx.n) ∧ V.cell? ⟨w2.heap.size, 3, none⟩ = some (.string dx.s) ∧ V.cell? ⟨w2.heap.size, 4, none⟩ = some (.string dx.nm) ∧ V.cell? ⟨w2.heap.size, 5, none⟩ = some (.slice Bx mx cx) ∧ V.cell? ⟨B13, 0, none⟩ = some (.int .i64 vk) ∧ V.cell? ⟨B13, 1, none⟩ = some (.int .i64 vn) ∧ V.cell? ⟨B13, 2, none⟩ = some (.string vz) := fun V hV => by
          obtain ⟨a0, a1, a2, a3, a4, a5⟩ := HCx.out V (b_trans HBY2.out hV)
          obtain ⟨b0, b1, b2⟩ := (KV.out.below hV).cells
          exact ⟨a0, a1, a2, a3, a4, a5, b0, b1, b2⟩
        have hst : ∀ (U : World) (B : Nat) (u0 u1 u2 : Value), Below Y2.heap.size Y2 U → Y2.heap.size ≤ B → ∀ V, V = ((U.setCell ⟨B, 0, none⟩ u0).setCell ⟨B, 1, none⟩ u1).setCell ⟨B, 2, none⟩ u2 → V.cell? ⟨w2.heap.size, 0, none⟩ = some (.int .i64 dx.op) ∧ V.cell? ⟨w2.heap.size, 1, none⟩ = some (.int .i64 dx.k) ∧ V.cell? ⟨w2.heap.size, 2, none⟩ = some (.int .i64 dx.n) ∧ V.cell? ⟨w2.heap.size, 3, none⟩ = some (.string dx.s) ∧ V.cell? ⟨w2.heap.size, 4, none⟩ = some (.string dx.nm) ∧ V.cell? ⟨w2.heap.size, 5, none⟩ = some (.slice Bx mx cx) ∧ V.cell? ⟨B13, 0, none⟩ = some (.int .i64 vk) ∧ V.cell? ⟨B13, 1, none⟩ = some (.int .i64 vn) ∧ V.cell? ⟨B13, 2, none⟩ = some (.string vz) := fun U B u0 u1 u2 hU hB V hV => by
          subst hV
          exact hcl _ (b_set3' hU B hB 0 1 2 u0 u1 u2)
        have HC := Lib.hid hcl
        have HS := Lib.hid hst
        clear hcl hst HFa HOX HCx
        go_cut [17, 18] (fun sA sB wx => ∃ (B : Nat), sA = .pointer (some ⟨B, 0, none⟩) ∧ sB = .int .i64 0 ∧ BV wx B uk un uz ∧ Below Y2.heap.size Y2 wx)
        case first =>
          have hbl := Below.refl Y2.heap.size Y2
          obtain ⟨q0, q1, q2, q3, q4, q5, p0, p1, p2⟩ := HC.out Y2 hbl
          go_region_held3 (fun V => V.cell? ⟨w2.heap.size, 0, none⟩ = some (.int .i64 dx.op) ∧ V.cell? ⟨w2.heap.size, 1, none⟩ = some (.int .i64 dx.k) ∧ V.cell? ⟨w2.heap.size, 2, none⟩ = some (.int .i64 dx.n) ∧ V.cell? ⟨w2.heap.size, 3, none⟩ = some (.string dx.s) ∧ V.cell? ⟨w2.heap.size, 4, none⟩ = some (.string dx.nm) ∧ V.cell? ⟨w2.heap.size, 5, none⟩ = some (.slice Bx mx cx) ∧ V.cell? ⟨B13, 0, none⟩ = some (.int .i64 vk) ∧ V.cell? ⟨B13, 1, none⟩ = some (.int .i64 vn) ∧ V.cell? ⟨B13, 2, none⟩ = some (.string vz)) (first | (with_reducible exact HC.out _ (by ((repeat (first | (with_reducible refine b_more ?_ _) | (with_reducible refine b_drew ?_))); (first | (with_reducible assumption) | (with_reducible exact Below.refl _ _))))) | (with_reducible exact HS.out _ _ _ _ _ hbl (by first | exact Nat.le_refl _ | omega) _ rfl))
            (first | (go_at_call 11; (with_reducible refine (HFa10.out _ ?_).mono ?_); (((repeat (first | (with_reducible refine b_more ?_ _) | (with_reducible refine b_drew ?_))); (first | (with_reducible assumption) | (with_reducible exact Below.refl _ _)))); rintro e wn ⟨g1, cap1, rfl, hg1, hrow, hbn⟩; have hrow : FRow wn g1 (factsV rs 5) := hrow; have hbl : Below Y2.heap.size Y2 wn := b_trans (by ((repeat (first | (with_reducible refine b_more ?_ _) | (with_reducible refine b_drew ?_))); (first | (with_reducible assumption) | (with_reducible exact Below.refl _ _)))) hbn; have sn := hbl.size; (first | (have bx : BV wn Y2.heap.size 0 0 ⟨#[]⟩ := BV.below (by ((repeat (with_reducible refine bv_drew ?_)); first | (with_reducible assumption) | ((with_reducible refine bv_at _ _ ?_); first | rfl | (exact World.size_alloc _ _) | (exact sz2 _ _ _)) | ((with_reducible refine bv_alloc ?_ _); ((repeat (with_reducible refine bv_drew ?_)); first | (with_reducible assumption) | ((with_reducible refine bv_at _ _ ?_); first | rfl | (exact World.size_alloc _ _) | (exact sz2 _ _ _)) | ((with_reducible refine bv_alloc ?_ _); ((repeat (with_reducible refine bv_drew ?_)); first | (with_reducible assumption) | ((with_reducible refine bv_at _ _ ?_); first | rfl | (exact World.size_alloc _ _) | (exact sz2 _ _ _)) | ((with_reducible refine bv_alloc ?_ _); ((repeat (with_reducible refine bv_drew ?_)); with_reducible assumption)))))))) hbn; have bl := bx.lt) | (have bx : BV wn (Y2.heap.size + 1) 0 0 ⟨#[]⟩ := BV.below (by ((repeat (with_reducible refine bv_drew ?_)); first | (with_reducible assumption) | ((with_reducible refine bv_at _ _ ?_); first | rfl | (exact World.size_alloc _ _) | (exact sz2 _ _ _)) | ((with_reducible refine bv_alloc ?_ _); ((repeat (with_reducible refine bv_drew ?_)); first | (with_reducible assumption) | ((with_reducible refine bv_at _ _ ?_); first | rfl | (exact World.size_alloc _ _) | (exact sz2 _ _ _)) | ((with_reducible refine bv_alloc ?_ _); ((repeat (with_reducible refine bv_drew ?_)); first | (with_reducible assumption) | ((with_reducible refine bv_at _ _ ?_); first | rfl | (exact World.size_alloc _ _) | (exact sz2 _ _ _)) | ((with_reducible refine bv_alloc ?_ _); ((repeat (with_reducible refine bv_drew ?_)); with_reducible assumption)))))))) hbn; have bl := bx.lt) | skip); (first | (have h1 : FOne wn Y2.heap.size ⟨vk, vn, vz⟩ := FOne.below (by ((repeat (with_reducible refine fone_drew ?_)); first | (with_reducible assumption) | ((with_reducible refine fone_at _ _ _ _ _ ?_); first | rfl | (exact World.size_alloc _ _) | (exact sz2 _ _ _)) | ((with_reducible refine fone_alloc ?_ _); ((repeat (with_reducible refine fone_drew ?_)); first | (with_reducible assumption) | ((with_reducible refine fone_at _ _ _ _ _ ?_); first | rfl | (exact World.size_alloc _ _) | (exact sz2 _ _ _)) | ((with_reducible refine fone_alloc ?_ _); ((repeat (with_reducible refine fone_drew ?_)); first | (with_reducible assumption) | ((with_reducible refine fone_at _ _ _ _ _ ?_); first | rfl | (exact World.size_alloc _ _) | (exact sz2 _ _ _)) | ((with_reducible refine fone_alloc ?_ _); ((repeat (with_reducible refine fone_drew ?_)); with_reducible assumption)))))))) hbn; have h1l := h1.lt) | (have h1 : FOne wn (Y2.heap.size + 1) ⟨vk, vn, vz⟩ := FOne.below (by ((repeat (with_reducible refine fone_drew ?_)); first | (with_reducible assumption) | ((with_reducible refine fone_at _ _ _ _ _ ?_); first | rfl | (exact World.size_alloc _ _) | (exact sz2 _ _ _)) | ((with_reducible refine fone_alloc ?_ _); ((repeat (with_reducible refine fone_drew ?_)); first | (with_reducible assumption) | ((with_reducible refine fone_at _ _ _ _ _ ?_); first | rfl | (exact World.size_alloc _ _) | (exact sz2 _ _ _)) | ((with_reducible refine fone_alloc ?_ _); ((repeat (with_reducible refine fone_drew ?_)); first | (with_reducible assumption) | ((with_reducible refine fone_at _ _ _ _ _ ?_); first | rfl | (exact World.size_alloc _ _) | (exact sz2 _ _ _)) | ((with_reducible refine fone_alloc ?_ _); ((repeat (with_reducible refine fone_drew ?_)); with_reducible assumption)))))))) hbn; have h1l := h1.lt) | skip)) | (go_at_call 5; (with_reducible refine (HOX10.out _ _ _ ?_ (hrow6.below ?_)).mono ?_); (((repeat (first | (with_reducible refine b_more ?_ _) | (with_reducible refine b_drew ?_))); (first | (with_reducible assumption) | (with_reducible exact Below.refl _ _)))); (((repeat (first | (with_reducible refine b_more ?_ _) | (with_reducible refine b_drew ?_))); (first | (with_reducible assumption) | (with_reducible exact Below.refl _ _)))); rintro e wz ⟨rfl, hbz⟩; have hbl : Below Y2.heap.size Y2 wz := b_trans (by ((repeat (first | (with_reducible refine b_more ?_ _) | (with_reducible refine b_drew ?_))); (first | (with_reducible assumption) | (with_reducible exact Below.refl _ _)))) hbz; (first | (have bx : BV wz Y2.heap.size 0 0 ⟨#[]⟩ := BV.below (by ((repeat (with_reducible refine bv_drew ?_)); first | (with_reducible assumption) | ((with_reducible refine bv_at _ _ ?_); first | rfl | (exact World.size_alloc _ _) | (exact sz2 _ _ _)) | ((with_reducible refine bv_alloc ?_ _); ((repeat (with_reducible refine bv_drew ?_)); first | (with_reducible assumption) | ((with_reducible refine bv_at _ _ ?_); first | rfl | (exact World.size_alloc _ _) | (exact sz2 _ _ _)) | ((with_reducible refine bv_alloc ?_ _); ((repeat (with_reducible refine bv_drew ?_)); first | (with_reducible assumption) | ((with_reducible refine bv_at _ _ ?_); first | rfl | (exact World.size_alloc _ _) | (exact sz2 _ _ _)) | ((with_reducible refine bv_alloc ?_ _); ((repeat (with_reducible refine bv_drew ?_)); with_reducible assumption)))))))) hbz) | (have bx : BV wz (Y2.heap.size + 1) 0 0 ⟨#[]⟩ := BV.below (by ((repeat (with_reducible refine bv_drew ?_)); first | (with_reducible assumption) | ((with_reducible refine bv_at _ _ ?_); first | rfl | (exact World.size_alloc _ _) | (exact sz2 _ _ _)) | ((with_reducible refine bv_alloc ?_ _); ((repeat (with_reducible refine bv_drew ?_)); first | (with_reducible assumption) | ((with_reducible refine bv_at _ _ ?_); first | rfl | (exact World.size_alloc _ _) | (exact sz2 _ _ _)) | ((with_reducible refine bv_alloc ?_ _); ((repeat (with_reducible refine bv_drew ?_)); first | (with_reducible assumption) | ((with_reducible refine bv_at _ _ ?_); first | rfl | (exact World.size_alloc _ _) | (exact sz2 _ _ _)) | ((with_reducible refine bv_alloc ?_ _); ((repeat (with_reducible refine bv_drew ?_)); with_reducible assumption)))))))) hbz) | (have bx : BV wz wn.heap.size 0 0 ⟨#[]⟩ := BV.below (by ((repeat (with_reducible refine bv_drew ?_)); first | (with_reducible assumption) | ((with_reducible refine bv_at _ _ ?_); first | rfl | (exact World.size_alloc _ _) | (exact sz2 _ _ _)) | ((with_reducible refine bv_alloc ?_ _); ((repeat (with_reducible refine bv_drew ?_)); first | (with_reducible assumption) | ((with_reducible refine bv_at _ _ ?_); first | rfl | (exact World.size_alloc _ _) | (exact sz2 _ _ _)) | ((with_reducible refine bv_alloc ?_ _); ((repeat (with_reducible refine bv_drew ?_)); first | (with_reducible assumption) | ((with_reducible refine bv_at _ _ ?_); first | rfl | (exact World.size_alloc _ _) | (exact sz2 _ _ _)) | ((with_reducible refine bv_alloc ?_ _); ((repeat (with_reducible refine bv_drew ?_)); with_reducible assumption)))))))) hbz) | (have bx : BV wz (wn.heap.size + 1) 0 0 ⟨#[]⟩ := BV.below (by ((repeat (with_reducible refine bv_drew ?_)); first | (with_reducible assumption) | ((with_reducible refine bv_at _ _ ?_); first | rfl | (exact World.size_alloc _ _) | (exact sz2 _ _ _)) | ((with_reducible refine bv_alloc ?_ _); ((repeat (with_reducible refine bv_drew ?_)); first | (with_reducible assumption) | ((with_reducible refine bv_at _ _ ?_); first | rfl | (exact World.size_alloc _ _) | (exact sz2 _ _ _)) | ((with_reducible refine bv_alloc ?_ _); ((repeat (with_reducible refine bv_drew ?_)); first | (with_reducible assumption) | ((with_reducible refine bv_at _ _ ?_); first | rfl | (exact World.size_alloc _ _) | (exact sz2 _ _ _)) | ((with_reducible refine bv_alloc ?_ _); ((repeat (with_reducible refine bv_drew ?_)); with_reducible assumption)))))))) hbz) | (have bx : BV wz w7.heap.size 0 0 ⟨#[]⟩ := BV.below (by ((repeat (with_reducible refine bv_drew ?_)); first | (with_reducible assumption) | ((with_reducible refine bv_at _ _ ?_); first | rfl | (exact World.size_alloc _ _) | (exact sz2 _ _ _)) | ((with_reducible refine bv_alloc ?_ _); ((repeat (with_reducible refine bv_drew ?_)); first | (with_reducible assumption) | ((with_reducible refine bv_at _ _ ?_); first | rfl | (exact World.size_alloc _ _) | (exact sz2 _ _ _)) | ((with_reducible refine bv_alloc ?_ _); ((repeat (with_reducible refine bv_drew ?_)); first | (with_reducible assumption) | ((with_reducible refine bv_at _ _ ?_); first | rfl | (exact World.size_alloc _ _) | (exact sz2 _ _ _)) | ((with_reducible refine bv_alloc ?_ _); ((repeat (with_reducible refine bv_drew ?_)); with_reducible assumption)))))))) hbz) | skip); (first | (obtain ⟨x0, x1, x2⟩ := bx.cells; have xf := bx.frozen; have xl := bx.lt) | skip)) | (first | (refine step_six (by rfl) _ _ _ (by rfl) Tryd.underlying27 Y2 Y2.heap.size ⟨vk, vn, vz⟩ (by rfl) (by ((repeat (with_reducible refine fone_drew ?_)); first | (with_reducible assumption) | ((with_reducible refine fone_at _ _ _ _ _ ?_); first | rfl | (exact World.size_alloc _ _) | (exact sz2 _ _ _)) | ((with_reducible refine fone_alloc ?_ _); ((repeat (with_reducible refine fone_drew ?_)); first | (with_reducible assumption) | ((with_reducible refine fone_at _ _ _ _ _ ?_); first | rfl | (exact World.size_alloc _ _) | (exact sz2 _ _ _)) | ((with_reducible refine fone_alloc ?_ _); ((repeat (with_reducible refine fone_drew ?_)); first | (with_reducible assumption) | ((with_reducible refine fone_at _ _ _ _ _ ?_); first | rfl | (exact World.size_alloc _ _) | (exact sz2 _ _ _)) | ((with_reducible refine fone_alloc ?_ _); ((repeat (with_reducible refine fone_drew ?_)); with_reducible assumption)))))))) (by first | exact Nat.le_refl _ | omega) (by ((repeat (first | (with_reducible refine b_more ?_ _) | (with_reducible refine b_drew ?_))); (first | (with_reducible assumption) | (with_reducible exact Below.refl _ _)))) g1 cap1 (factsV rs 5) HLen.out (by rfl) (hrow.below (by ((repeat (first | (with_reducible refine b_more ?_ _) | (with_reducible refine b_drew ?_))); (first | (with_reducible assumption) | (with_reducible exact Below.refl _ _))))) ?_; intro g6 cap6 w7 hrow6 hbl7 hk7; have hbl := hbl7; have s7 := hbl.size; (first | (have bx : BV w7 (Y2.heap.size + 1) 0 0 ⟨#[]⟩ := hk7 (Y2.heap.size + 1) 0 0 ⟨#[]⟩ (by ((repeat (with_reducible refine bv_drew ?_)); first | (with_reducible assumption) | ((with_reducible refine bv_at _ _ ?_); first | rfl | (exact World.size_alloc _ _) | (exact sz2 _ _ _)) | ((with_reducible refine bv_alloc ?_ _); ((repeat (with_reducible refine bv_drew ?_)); first | (with_reducible assumption) | ((with_reducible refine bv_at _ _ ?_); first | rfl | (exact World.size_alloc _ _) | (exact sz2 _ _ _)) | ((with_reducible refine bv_alloc ?_ _); ((repeat (with_reducible refine bv_drew ?_)); first | (with_reducible assumption) | ((with_reducible refine bv_at _ _ ?_); first | rfl | (exact World.size_alloc _ _) | (exact sz2 _ _ _)) | ((with_reducible refine bv_alloc ?_ _); ((repeat (with_reducible refine bv_drew ?_)); with_reducible assumption)))))))) (by omega); have bl := bx.lt) | (have bx : BV w7 wn.heap.size 0 0 ⟨#[]⟩ := hk7 wn.heap.size 0 0 ⟨#[]⟩ (by ((repeat (with_reducible refine bv_drew ?_)); first | (with_reducible assumption) | ((with_reducible refine bv_at _ _ ?_); first | rfl | (exact World.size_alloc _ _) | (exact sz2 _ _ _)) | ((with_reducible refine bv_alloc ?_ _); ((repeat (with_reducible refine bv_drew ?_)); first | (with_reducible assumption) | ((with_reducible refine bv_at _ _ ?_); first | rfl | (exact World.size_alloc _ _) | (exact sz2 _ _ _)) | ((with_reducible refine bv_alloc ?_ _); ((repeat (with_reducible refine bv_drew ?_)); first | (with_reducible assumption) | ((with_reducible refine bv_at _ _ ?_); first | rfl | (exact World.size_alloc _ _) | (exact sz2 _ _ _)) | ((with_reducible refine bv_alloc ?_ _); ((repeat (with_reducible refine bv_drew ?_)); with_reducible assumption)))))))) (by omega); have bl := bx.lt) | (have bx : BV w7 (wn.heap.size + 1) 0 0 ⟨#[]⟩ := hk7 (wn.heap.size + 1) 0 0 ⟨#[]⟩ (by ((repeat (with_reducible refine bv_drew ?_)); first | (with_reducible assumption) | ((with_reducible refine bv_at _ _ ?_); first | rfl | (exact World.size_alloc _ _) | (exact sz2 _ _ _)) | ((with_reducible refine bv_alloc ?_ _); ((repeat (with_reducible refine bv_drew ?_)); first | (with_reducible assumption) | ((with_reducible refine bv_at _ _ ?_); first | rfl | (exact World.size_alloc _ _) | (exact sz2 _ _ _)) | ((with_reducible refine bv_alloc ?_ _); ((repeat (with_reducible refine bv_drew ?_)); first | (with_reducible assumption) | ((with_reducible refine bv_at _ _ ?_); first | rfl | (exact World.size_alloc _ _) | (exact sz2 _ _ _)) | ((with_reducible refine bv_alloc ?_ _); ((repeat (with_reducible refine bv_drew ?_)); with_reducible assumption)))))))) (by omega); have bl := bx.lt) | skip); clear hk7) | (refine step_six (by rfl) _ _ _ (by rfl) Tryd.underlying27 Y2 (Y2.heap.size + 1) ⟨vk, vn, vz⟩ (by rfl) (by ((repeat (with_reducible refine fone_drew ?_)); first | (with_reducible assumption) | ((with_reducible refine fone_at _ _ _ _ _ ?_); first | rfl | (exact World.size_alloc _ _) | (exact sz2 _ _ _)) | ((with_reducible refine fone_alloc ?_ _); ((repeat (with_reducible refine fone_drew ?_)); first | (with_reducible assumption) | ((with_reducible refine fone_at _ _ _ _ _ ?_); first | rfl | (exact World.size_alloc _ _) | (exact sz2 _ _ _)) | ((with_reducible refine fone_alloc ?_ _); ((repeat (with_reducible refine fone_drew ?_)); first | (with_reducible assumption) | ((with_reducible refine fone_at _ _ _ _ _ ?_); first | rfl | (exact World.size_alloc _ _) | (exact sz2 _ _ _)) | ((with_reducible refine fone_alloc ?_ _); ((repeat (with_reducible refine fone_drew ?_)); with_reducible assumption)))))))) (by first | exact Nat.le_refl _ | omega) (by ((repeat (first | (with_reducible refine b_more ?_ _) | (with_reducible refine b_drew ?_))); (first | (with_reducible assumption) | (with_reducible exact Below.refl _ _)))) g1 cap1 (factsV rs 5) HLen.out (by rfl) (hrow.below (by ((repeat (first | (with_reducible refine b_more ?_ _) | (with_reducible refine b_drew ?_))); (first | (with_reducible assumption) | (with_reducible exact Below.refl _ _))))) ?_; intro g6 cap6 w7 hrow6 hbl7 hk7; have hbl := hbl7; have s7 := hbl.size; (first | (have bx : BV w7 Y2.heap.size 0 0 ⟨#[]⟩ := hk7 Y2.heap.size 0 0 ⟨#[]⟩ (by ((repeat (with_reducible refine bv_drew ?_)); first | (with_reducible assumption) | ((with_reducible refine bv_at _ _ ?_); first | rfl | (exact World.size_alloc _ _) | (exact sz2 _ _ _)) | ((with_reducible refine bv_alloc ?_ _); ((repeat (with_reducible refine bv_drew ?_)); first | (with_reducible assumption) | ((with_reducible refine bv_at _ _ ?_); first | rfl | (exact World.size_alloc _ _) | (exact sz2 _ _ _)) | ((with_reducible refine bv_alloc ?_ _); ((repeat (with_reducible refine bv_drew ?_)); first | (with_reducible assumption) | ((with_reducible refine bv_at _ _ ?_); first | rfl | (exact World.size_alloc _ _) | (exact sz2 _ _ _)) | ((with_reducible refine bv_alloc ?_ _); ((repeat (with_reducible refine bv_drew ?_)); with_reducible assumption)))))))) (by omega); have bl := bx.lt) | (have bx : BV w7 wn.heap.size 0 0 ⟨#[]⟩ := hk7 wn.heap.size 0 0 ⟨#[]⟩ (by ((repeat (with_reducible refine bv_drew ?_)); first | (with_reducible assumption) | ((with_reducible refine bv_at _ _ ?_); first | rfl | (exact World.size_alloc _ _) | (exact sz2 _ _ _)) | ((with_reducible refine bv_alloc ?_ _); ((repeat (with_reducible refine bv_drew ?_)); first | (with_reducible assumption) | ((with_reducible refine bv_at _ _ ?_); first | rfl | (exact World.size_alloc _ _) | (exact sz2 _ _ _)) | ((with_reducible refine bv_alloc ?_ _); ((repeat (with_reducible refine bv_drew ?_)); first | (with_reducible assumption) | ((with_reducible refine bv_at _ _ ?_); first | rfl | (exact World.size_alloc _ _) | (exact sz2 _ _ _)) | ((with_reducible refine bv_alloc ?_ _); ((repeat (with_reducible refine bv_drew ?_)); with_reducible assumption)))))))) (by omega); have bl := bx.lt) | (have bx : BV w7 (wn.heap.size + 1) 0 0 ⟨#[]⟩ := hk7 (wn.heap.size + 1) 0 0 ⟨#[]⟩ (by ((repeat (with_reducible refine bv_drew ?_)); first | (with_reducible assumption) | ((with_reducible refine bv_at _ _ ?_); first | rfl | (exact World.size_alloc _ _) | (exact sz2 _ _ _)) | ((with_reducible refine bv_alloc ?_ _); ((repeat (with_reducible refine bv_drew ?_)); first | (with_reducible assumption) | ((with_reducible refine bv_at _ _ ?_); first | rfl | (exact World.size_alloc _ _) | (exact sz2 _ _ _)) | ((with_reducible refine bv_alloc ?_ _); ((repeat (with_reducible refine bv_drew ?_)); first | (with_reducible assumption) | ((with_reducible refine bv_at _ _ ?_); first | rfl | (exact World.size_alloc _ _) | (exact sz2 _ _ _)) | ((with_reducible refine bv_alloc ?_ _); ((repeat (with_reducible refine bv_drew ?_)); with_reducible assumption)))))))) (by omega); have bl := bx.lt) | skip); clear hk7) | (refine step_six (by rfl) _ _ _ (by rfl) Tryd.underlying27 Y2 wn.heap.size ⟨vk, vn, vz⟩ (by rfl) (by ((repeat (with_reducible refine fone_drew ?_)); first | (with_reducible assumption) | ((with_reducible refine fone_at _ _ _ _ _ ?_); first | rfl | (exact World.size_alloc _ _) | (exact sz2 _ _ _)) | ((with_reducible refine fone_alloc ?_ _); ((repeat (with_reducible refine fone_drew ?_)); first | (with_reducible assumption) | ((with_reducible refine fone_at _ _ _ _ _ ?_); first | rfl | (exact World.size_alloc _ _) | (exact sz2 _ _ _)) | ((with_reducible refine fone_alloc ?_ _); ((repeat (with_reducible refine fone_drew ?_)); first | (with_reducible assumption) | ((with_reducible refine fone_at _ _ _ _ _ ?_); first | rfl | (exact World.size_alloc _ _) | (exact sz2 _ _ _)) | ((with_reducible refine fone_alloc ?_ _); ((repeat (with_reducible refine fone_drew ?_)); with_reducible assumption)))))))) (by first | exact Nat.le_refl _ | omega) (by ((repeat (first | (with_reducible refine b_more ?_ _) | (with_reducible refine b_drew ?_))); (first | (with_reducible assumption) | (with_reducible exact Below.refl _ _)))) g1 cap1 (factsV rs 5) HLen.out (by rfl) (hrow.below (by ((repeat (first | (with_reducible refine b_more ?_ _) | (with_reducible refine b_drew ?_))); (first | (with_reducible assumption) | (with_reducible exact Below.refl _ _))))) ?_; intro g6 cap6 w7 hrow6 hbl7 hk7; have hbl := hbl7; have s7 := hbl.size; (first | (have bx : BV w7 Y2.heap.size 0 0 ⟨#[]⟩ := hk7 Y2.heap.size 0 0 ⟨#[]⟩ (by ((repeat (with_reducible refine bv_drew ?_)); first | (with_reducible assumption) | ((with_reducible refine bv_at _ _ ?_); first | rfl | (exact World.size_alloc _ _) | (exact sz2 _ _ _)) | ((with_reducible refine bv_alloc ?_ _); ((repeat (with_reducible refine bv_drew ?_)); first | (with_reducible assumption) | ((with_reducible refine bv_at _ _ ?_); first | rfl | (exact World.size_alloc _ _) | (exact sz2 _ _ _)) | ((with_reducible refine bv_alloc ?_ _); ((repeat (with_reducible refine bv_drew ?_)); first | (with_reducible assumption) | ((with_reducible refine bv_at _ _ ?_); first | rfl | (exact World.size_alloc _ _) | (exact sz2 _ _ _)) | ((with_reducible refine bv_alloc ?_ _); ((repeat (with_reducible refine bv_drew ?_)); with_reducible assumption)))))))) (by omega); have bl := bx.lt) | (have bx : BV w7 (Y2.heap.size + 1) 0 0 ⟨#[]⟩ := hk7 (Y2.heap.size + 1) 0 0 ⟨#[]⟩ (by ((repeat (with_reducible refine bv_drew ?_)); first | (with_reducible assumption) | ((with_reducible refine bv_at _ _ ?_); first | rfl | (exact World.size_alloc _ _) | (exact sz2 _ _ _)) | ((with_reducible refine bv_alloc ?_ _); ((repeat (with_reducible refine bv_drew ?_)); first | (with_reducible assumption) | ((with_reducible refine bv_at _ _ ?_); first | rfl | (exact World.size_alloc _ _) | (exact sz2 _ _ _)) | ((with_reducible refine bv_alloc ?_ _); ((repeat (with_reducible refine bv_drew ?_)); first | (with_reducible assumption) | ((with_reducible refine bv_at _ _ ?_); first | rfl | (exact World.size_alloc _ _) | (exact sz2 _ _ _)) | ((with_reducible refine bv_alloc ?_ _); ((repeat (with_reducible refine bv_drew ?_)); with_reducible assumption)))))))) (by omega); have bl := bx.lt) | (have bx : BV w7 (wn.heap.size + 1) 0 0 ⟨#[]⟩ := hk7 (wn.heap.size + 1) 0 0 ⟨#[]⟩ (by ((repeat (with_reducible refine bv_drew ?_)); first | (with_reducible assumption) | ((with_reducible refine bv_at _ _ ?_); first | rfl | (exact World.size_alloc _ _) | (exact sz2 _ _ _)) | ((with_reducible refine bv_alloc ?_ _); ((repeat (with_reducible refine bv_drew ?_)); first | (with_reducible assumption) | ((with_reducible refine bv_at _ _ ?_); first | rfl | (exact World.size_alloc _ _) | (exact sz2 _ _ _)) | ((with_reducible refine bv_alloc ?_ _); ((repeat (with_reducible refine bv_drew ?_)); first | (with_reducible assumption) | ((with_reducible refine bv_at _ _ ?_); first | rfl | (exact World.size_alloc _ _) | (exact sz2 _ _ _)) | ((with_reducible refine bv_alloc ?_ _); ((repeat (with_reducible refine bv_drew ?_)); with_reducible assumption)))))))) (by omega); have bl := bx.lt) | skip); clear hk7) | (refine step_six (by rfl) _ _ _ (by rfl) Tryd.underlying27 Y2 (wn.heap.size + 1) ⟨vk, vn, vz⟩ (by rfl) (by ((repeat (with_reducible refine fone_drew ?_)); first | (with_reducible assumption) | ((with_reducible refine fone_at _ _ _ _ _ ?_); first | rfl | (exact World.size_alloc _ _) | (exact sz2 _ _ _)) | ((with_reducible refine fone_alloc ?_ _); ((repeat (with_reducible refine fone_drew ?_)); first | (with_reducible assumption) | ((with_reducible refine fone_at _ _ _ _ _ ?_); first | rfl | (exact World.size_alloc _ _) | (exact sz2 _ _ _)) | ((with_reducible refine fone_alloc ?_ _); ((repeat (with_reducible refine fone_drew ?_)); first | (with_reducible assumption) | ((with_reducible refine fone_at _ _ _ _ _ ?_); first | rfl | (exact World.size_alloc _ _) | (exact sz2 _ _ _)) | ((with_reducible refine fone_alloc ?_ _); ((repeat (with_reducible refine fone_drew ?_)); with_reducible assumption)))))))) (by first | exact Nat.le_refl _ | omega) (by ((repeat (first | (with_reducible refine b_more ?_ _) | (with_reducible refine b_drew ?_))); (first | (with_reducible assumption) | (with_reducible exact Below.refl _ _)))) g1 cap1 (factsV rs 5) HLen.out (by rfl) (hrow.below (by ((repeat (first | (with_reducible refine b_more ?_ _) | (with_reducible refine b_drew ?_))); (first | (with_reducible assumption) | (with_reducible exact Below.refl _ _))))) ?_; intro g6 cap6 w7 hrow6 hbl7 hk7; have hbl := hbl7; have s7 := hbl.size; (first | (have bx : BV w7 Y2.heap.size 0 0 ⟨#[]⟩ := hk7 Y2.heap.size 0 0 ⟨#[]⟩ (by ((repeat (with_reducible refine bv_drew ?_)); first | (with_reducible assumption) | ((with_reducible refine bv_at _ _ ?_); first | rfl | (exact World.size_alloc _ _) | (exact sz2 _ _ _)) | ((with_reducible refine bv_alloc ?_ _); ((repeat (with_reducible refine bv_drew ?_)); first | (with_reducible assumption) | ((with_reducible refine bv_at _ _ ?_); first | rfl | (exact World.size_alloc _ _) | (exact sz2 _ _ _)) | ((with_reducible refine bv_alloc ?_ _); ((repeat (with_reducible refine bv_drew ?_)); first | (with_reducible assumption) | ((with_reducible refine bv_at _ _ ?_); first | rfl | (exact World.size_alloc _ _) | (exact sz2 _ _ _)) | ((with_reducible refine bv_alloc ?_ _); ((repeat (with_reducible refine bv_drew ?_)); with_reducible assumption)))))))) (by omega); have bl := bx.lt) | (have bx : BV w7 (Y2.heap.size + 1) 0 0 ⟨#[]⟩ := hk7 (Y2.heap.size + 1) 0 0 ⟨#[]⟩ (by ((repeat (with_reducible refine bv_drew ?_)); first | (with_reducible assumption) | ((with_reducible refine bv_at _ _ ?_); first | rfl | (exact World.size_alloc _ _) | (exact sz2 _ _ _)) | ((with_reducible refine bv_alloc ?_ _); ((repeat (with_reducible refine bv_drew ?_)); first | (with_reducible assumption) | ((with_reducible refine bv_at _ _ ?_); first | rfl | (exact World.size_alloc _ _) | (exact sz2 _ _ _)) | ((with_reducible refine bv_alloc ?_ _); ((repeat (with_reducible refine bv_drew ?_)); first | (with_reducible assumption) | ((with_reducible refine bv_at _ _ ?_); first | rfl | (exact World.size_alloc _ _) | (exact sz2 _ _ _)) | ((with_reducible refine bv_alloc ?_ _); ((repeat (with_reducible refine bv_drew ?_)); with_reducible assumption)))))))) (by omega); have bl := bx.lt) | (have bx : BV w7 wn.heap.size 0 0 ⟨#[]⟩ := hk7 wn.heap.size 0 0 ⟨#[]⟩ (by ((repeat (with_reducible refine bv_drew ?_)); first | (with_reducible assumption) | ((with_reducible refine bv_at _ _ ?_); first | rfl | (exact World.size_alloc _ _) | (exact sz2 _ _ _)) | ((with_reducible refine bv_alloc ?_ _); ((repeat (with_reducible refine bv_drew ?_)); first | (with_reducible assumption) | ((with_reducible refine bv_at _ _ ?_); first | rfl | (exact World.size_alloc _ _) | (exact sz2 _ _ _)) | ((with_reducible refine bv_alloc ?_ _); ((repeat (with_reducible refine bv_drew ?_)); first | (with_reducible assumption) | ((with_reducible refine bv_at _ _ ?_); first | rfl | (exact World.size_alloc _ _) | (exact sz2 _ _ _)) | ((with_reducible refine bv_alloc ?_ _); ((repeat (with_reducible refine bv_drew ?_)); with_reducible assumption)))))))) (by omega); have bl := bx.lt) | skip); clear hk7)))
          all_goals (go_wp2_with fail; go_meet)
          all_goals (first | (with_reducible exact ⟨_, rfl, rfl, bx.set3 uk un uz, b_set3' hbl _ (by first | exact Nat.le_refl _ | omega) 0 1 2 _ _ _⟩) | (with_reducible exact ⟨_, rfl, rfl, BV.new wz uk un uz, b_more hbl _⟩))
        case rest =>
          obtain ⟨B17, rfl, rfl, hbx, hb⟩ := hcut
          obtain ⟨Y3, rfl⟩ : ∃ V, V = wc := ⟨_, rfl⟩
          obtain ⟨u0, u1, u2⟩ := (KU.out.below hb).cells
          obtain ⟨a0, a1, a2⟩ := hbx.cells
          have HBF := Lib.hid (b_trans HBW.out (b_trans HBY2.out hb))
          clear hb hbx
          go_wp2_with fail
          go_ret
          exact ⟨by simp, HBF.out⟩
    · have hr0 : (r == 0) = false := by simp; exact h0
      go_wp2_with fail
      all_goals (go_ret; exact ⟨by simp, b_trans HBW.out HBY.out⟩)

theorem not_of {W : World} (h : laidMetH Tryd.prog Rows.evalPutRow.laid W) : ExN.Tab W := by
  have h0 : laidMet Tryd.prog Rows.evalPutRow.laid W := by rw [MakeChecks.laidMetH_plain _ _ _ (by kernel_rfl)] at h; exact h
  have h1 := h0
  exact NotTab.is_of_head (g := 0) (t := 92) (e := 91) (n := 19) (by kernel_rfl) (by kernel_rfl) Tryd.underlying92 (by kernel_rfl) Tryd.underlying91 (by kernel_rfl) rfl rfl rfl Tryd.underlying9 Tryd.underlying3 Tryd.underlying3 (by kernel_rfl) (by kernel_rfl) (by kernel_rfl) h1

/-! ### The row's step -/
set_option maxRecDepth 100000 in
theorem lifted (os : Os) (started : os.Started) (H : Type) (enc : TypeId × Value → H) :
    ReturnsInHanded {} Tryd.checked os 4 .any (fun w args => (Rows.evalPutSpec.pre enc Tryd.prog Tryd.f4 [] false w args ∧ laidMetH Tryd.prog Rows.evalPutRow.laid w) ∧ sizedMet enc Tryd.prog Tryd.f4 (OpenSpec.ofChange Rows.evalPutSpec) false w args) (Rows.evalPutSpec.post enc Tryd.prog Tryd.f4 false true false false) := by
  refine returnsInHanded_of_change_and (C := Tryd.checked) (X := fun w _ => laidMetH Tryd.prog Rows.evalPutRow.laid w) (fun _ _ _ hh h => h.of_heap hh) own started (by kernel_rfl) Tryd.func4
    (ChangeSpec.witness_shaped (enc := enc) (C := Tryd.checked) (os := os) (X := fun w _ => laidMetH Tryd.prog Rows.evalPutRow.laid w) false (World.laidAll Tryd.prog os Rows.evalPutRow.laid) #[.slice none 0 0, .slice none 0 0, .slice none 0 0, .int .i64 0] 8 (World.laidAll_os _ _ _) (World.shaped_of_ZipB (by kernel_rfl) (by kernel_rfl)) (by kernel_rfl) (by kernel_rfl) (by kernel_rfl) (by rw [MakeChecks.laidMetH_plain _ _ _ (by kernel_rfl)]; exact laidMet_laidAll _ (by kernel_rfl) (by kernel_rfl))) ?_
  intro W base args ds gs before hval0 hW hcnd hsz hL _
  have hval : ∀ (j : Nat) t v, Tryd.f4.params[j]? = some t → args[j]? = some v → Value.okWide Tryd.prog W .any base t v := hval0
  have hW' := hW
  obtain ⟨p, q, hA0, hV, rfl, hfz, hnd⟩ := hW
  have hA : DataW.TrodAll enc Tryd.prog W 0 (fun _ => true) true Tryd.f4.params.toList args.toList ds p := hA0
  rw [Tryd.params4] at hA hval
  obtain ⟨v0, vs0, d0, ds0, p0, q0, hargs, rfl, rfl, h0, r0⟩ := trodAll_cons hA
  obtain ⟨v1, vs1, d1, ds1, p1, q1, rfl, rfl, rfl, h1, r1⟩ := trodAll_cons r0
  obtain ⟨v2, vs2, d2, ds2, p2, q2, rfl, rfl, rfl, h2, r2⟩ := trodAll_cons r1
  obtain ⟨v3, vs3, d3, ds3, p3, q3, rfl, rfl, rfl, h3, r3⟩ := trodAll_cons r2
  obtain ⟨rfl, rfl, rfl⟩ := trodAll_nil r3
  obtain rfl : args = #[v0, v1, v2, v3] := by cases args; simp_all
  obtain ⟨rfl, rfl⟩ := trodVars_none hV
  have k0 := h0
  have lt0 : ∀ x ∈ p0, x.block < W.heap.size := by obtain ⟨m, hm⟩ := k0; exact DataW.trod_lt m _ _ _ hm
  obtain ⟨A0, n0, c0, rfl, hraw0⟩ := RawO.open_raws (hval 0 32 v0 rfl rfl) h0
  have k1 := h1
  have lt1 : ∀ x ∈ p1, x.block < W.heap.size := by obtain ⟨m, hm⟩ := k1; exact DataW.trod_lt m _ _ _ hm
  obtain ⟨A1, n1, c1, rfl, hraw1⟩ := RawO.open_raws (hval 1 32 v1 rfl rfl) h1
  have k2 := h2
  have lt2 : ∀ x ∈ p2, x.block < W.heap.size := by obtain ⟨m, hm⟩ := k2; exact DataW.trod_lt m _ _ _ hm
  obtain ⟨A2, n2, c2, rfl, hraw2⟩ := RawO.open_raws (hval 2 32 v2 rfl rfl) h2
  have k3 := h3
  have lt3 : ∀ x ∈ p3, x.block < W.heap.size := by obtain ⟨m, hm⟩ := k3; exact DataW.trod_lt m _ _ _ hm
  obtain ⟨a3, rfl, rfl, rfl, w3⟩ := open_int Tryd.underlying3 (hval 3 3 v3 rfl rfl) h3
  clear hA0 hval0
  refine (walk A0 n0 c0 A1 n1 c1 A2 n2 c2 a3 w3 W hraw0 hraw1 hraw2 (not_of hL)).mono fun e W' ⟨he, bel⟩ => ?_
  subst he
  exact ⟨_, rfl, _, _, _, [], _, [], hW', trodAll_mk1 (shut_bool Tryd.underlying4 _), (trodAll_cons_mk (Below.trod laidOut (by kernel_rfl) (of_decide_eq_true (by kernel_rfl)) k0 bel lt0) (trodAll_cons_mk (Below.trod laidOut (by kernel_rfl) (of_decide_eq_true (by kernel_rfl)) k1 bel lt1) (trodAll_cons_mk (Below.trod laidOut (by kernel_rfl) (of_decide_eq_true (by kernel_rfl)) k2 bel lt2) (trodAll_cons_mk (Below.trod laidOut (by kernel_rfl) (of_decide_eq_true (by kernel_rfl)) k3 bel lt3) trodAll_mk0)))), rfl, bel.frame _, fun h => by cases h⟩

theorem over : Rows.evalPutRow.holds Tryd.pinned (OpenSpec.ofChange Rows.evalPutSpec) :=
  OpenClaim.holds_of_wide 4 Tryd.f4 rfl rfl rfl rfl rfl rfl rfl ⟨rfl, rfl, rfl, rfl, rfl⟩ rfl rfl rfl rfl rfl (by kernel_rfl) Tryd.func4 (by kernel_rfl)
    (of_decide_eq_true (by kernel_rfl)) (by unfold Func.isWrapper; first | (rw [if_pos (by decide +kernel)]; kernel_rfl) | (rw [if_neg (by decide +kernel)]; exact ⟨rfl, rfl⟩))
    (fun os started H enc _ => lifted os started H enc)

/-- The tied card. -/
theorem proved : Rows.EvalPutCardSaid :=
  Claim7.holds_tied_plain_at .later [] [.data] true (true, "1895df816fd9a6cb1f08478fb35feaccc4e37cf4c571c150608ea7eb8f823bdf") false
    over (fun _ h => by cases h) (by kernel_rfl) (fun _ h => by cases h) evalPut_row_tie rfl ⟨rfl, rfl⟩ (by kernel_rfl) rfl
    (fun f fn hf hfn => by
      obtain rfl : f = 4 := Option.some.inj ((show Tryd.prog.funcNamed "lychway/lychwaykeep.EvalPut" = some 4 by kernel_rfl).symm.trans hf) |>.symm
      obtain rfl : fn = Tryd.f4 := (Option.some.inj (Tryd.func4.symm.trans hfn)).symm
      exact ⟨by kernel_rfl, fun j t ht => by
        rw [Tryd.params4] at ht
        have hm : t ∈ [32, 32, 32, 3] := by simpa using Array.mem_of_getElem? ht
        have hall : ([32, 32, 32, 3].all fun u => !Tryd.prog.wantsStandIn u) = true := by kernel_rfl
        exact (show Tryd.prog.wantsStandIn t = false by simpa using List.all_eq_true.1 hall t hm)⟩)
    (by kernel_rfl)
#print axioms proved
end Go.Proofs.YtehkebncdahmcaaDoor.evalPut
