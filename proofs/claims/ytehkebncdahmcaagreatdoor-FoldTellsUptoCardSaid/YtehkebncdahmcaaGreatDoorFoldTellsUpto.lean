/- What is proved: the Go law lychwaylaw.FoldTells returns true for all its arguments of bulk at most 1048576 (the second form), and leaves them as they were.  -/
import Derived.Test.YtehkebncdahmcaaGreatDoorRows
import Derived.Test.YtehkebncdahmcaaGreatDoorFoRef
import Derived.Test.YtehkebncdahmcaaGreatDoorNmTop
import Derived.Test.YtehkebncdahmcaaGreatDoorExSame
import Derived.Test.YtehkebncdahmcaaGreatDoorExOpen
import Derived.Test.YtehkebncdahmcaaGreatDoorKit
import Derived.WalkKit
import Derived.ProofKit
import Derived.OpenShut
import Derived.Deep.RegionHeld3
import Derived.Deep.DrawnRows
import Derived.Deep.DeepCutAuto
import Derived.Deep.QuietTactic
import Derived.BigQuiet
import Derived.WalkSpells
import Derived.WalkLawsBesides
import Derived.Lib.Hide
import Derived.Outline
import Derived.ShutString
import Derived.ChangeOld
import Derived.Below
import Derived.LaidMore
import Derived.SizedLaws
import Derived.Stop.Joined
import Derived.Stop.LaidErr
import Derived.Lib.LaidTab
import Derived.SevenTiedAt
import Derived.Lay
import Derived.LaidOnce
import Derived.Deep.DeepHandedRow
import Derived.Test.YtehkebncdahmcaaGreatDoorCards
import Derived.Test.YtehkebncdahmcaaGreatDoorTie
namespace Go.Proofs.YtehkebncdahmcaaGreatDoor.foldTells
open ValM LexM NumM ExM NmM EvM EvP FoM Kit ExL ExP ExN ExV NmC NmO NmT ExS EvF EvE Fo FoT FoS FoR
open Go.ChangeShapes Go.WideShapes Go.ChangeAt Go.RowKit
open Go.ChangeMaps (open_string shut_string)
set_option linter.unusedVariables false

theorem own : ownKnob Tryz.prog.godebug = none := by kernel_rfl
theorem laidOut : laidOutB Tryz.prog = true := by kernel_rfl


/-! ### The walk -/
set_option maxRecDepth 100000 in
set_option maxHeartbeats 4000000 in
theorem walk (x0 : ExM.Ex) (e0 : ExM.Nd) (A0 : Option Addr) (n0 : Nat) (c0 : Nat)  (w : World) (his0 : ExL.Is w x0 e0 A0 n0) (hb0 : x0.nodes ≤ 1048576) (ht : ExN.Tab w) :
    Calls Tryz.prog 3 #[.agg #[.int .i64 e0.op, .int .i64 e0.k, .int .i64 e0.n, .string e0.s, .string e0.nm, .slice A0 n0 c0]] w fun e w' => e = .returned (.bool true) ∧ Below w.heap.size w w' := by
  have h1 := his0.alloc (.cells #[.int .i64 e0.op, .int .i64 e0.k, .int .i64 e0.n, .string e0.s, .string e0.nm, .slice A0 n0 c0] 26)
  have hT := ht.alloc (.cells #[.int .i64 e0.op, .int .i64 e0.k, .int .i64 e0.n, .string e0.s, .string e0.nm, .slice A0 n0 c0] 26)
  obtain ⟨W, hW⟩ : ∃ W, w.alloc (.cells #[.int .i64 e0.op, .int .i64 e0.k, .int .i64 e0.n, .string e0.s, .string e0.nm, .slice A0 n0 c0] 26) = W := ⟨_, rfl⟩
  rw [hW] at h1 hT
  have k1 : Box W w.heap.size e0 A0 n0 c0 := by rw [← hW]; exact Box.new w e0 A0 n0 c0
  have hbW : Below w.heap.size w W := by rw [← hW]; exact b_new _ _
  obtain ⟨r, hr⟩ : ∃ r, x0.checkE = r := ⟨_, rfl⟩
  obtain ⟨y, hy⟩ : ∃ y, foldR x0 = y := ⟨_, rfl⟩
  have f1 := fold_any x0 e0 A0 n0 c0 W h1 hT
  have f2 := fun V (hb : Below W.heap.size W V) => closed_any x0 e0 A0 n0 c0 V (h1.below hb) (hT.below hb)
  have f3 := fun V (hb : Below W.heap.size W V) => refFold_any x0 e0 A0 n0 c0 V hb0 (h1.below hb)
  have f4 := fun V (hb : Below W.heap.size W V) => NmT.refOf_any x0 e0 A0 n0 c0 V hb0 (h1.below hb)
  unfold FoldOut at f1 f3
  have hoc := ofL_closed x0
  obtain ⟨M, hM⟩ : ∃ M, (ofL x0).length = M := ⟨_, rfl⟩
  rw [hM] at hoc
  obtain ⟨L, hL⟩ : ∃ L, ofL x0 = L := ⟨_, rfl⟩
  rw [hL] at f4 hM
  rw [hr, hy] at f1
  rw [hr] at f2 f4 hoc
  simp only [hr, hy] at f3
  rw [← hoc] at f2
  have F1 := Lib.hid f1
  have F2 := Lib.hid f2
  have F3 := Lib.hid f3
  have F4 := Lib.hid f4
  have HM := Lib.hid hM
  have HW := Lib.hid hW
  have K1 := Lib.hid k1
  have HB := Lib.hid hbW
  clear f1 f2 f3 f4 hM hW k1 hbW h1 hT hr hy hL hoc his0 ht hb0
  go_enter Tryz.func3, Tryz.ntmps3
  go_upto_region 1 with fail
  rw [HW.out]
  obtain ⟨m0, m1, m2, m3, m4, m5⟩ := K1.out.cells
  go_wp2_with fail
  refine F1.out.mono ?_; rintro e w1 ⟨dy, By, my, cy, rfl, hiy, hb1⟩
  have hdy : y.d = dy := isP_d hiy
  subst hdy
  have hiy := hiy.is
  have hbA := b_more hb1 (.cells #[.int .i64 y.d.op, .int .i64 y.d.k, .int .i64 y.d.n, .string y.d.s, .string y.d.nm, .slice By my cy] 26)
  have zy := Box.new w1 y.d By my cy
  have jy := hiy.below (b_new w1 (.cells #[.int .i64 y.d.op, .int .i64 y.d.k, .int .i64 y.d.n, .string y.d.s, .string y.d.nm, .slice By my cy] 26))
  obtain ⟨X, hX⟩ : ∃ X, w1.alloc (.cells #[.int .i64 y.d.op, .int .i64 y.d.k, .int .i64 y.d.n, .string y.d.s, .string y.d.nm, .slice By my cy] 26) = X := ⟨_, rfl⟩
  rw [hX] at hbA zy jy
  have zx := K1.out.below hbA
  clear m0 m1 m2 m3 m4 m5
  obtain ⟨m0, m1, m2, m3, m4, m5⟩ := zx.cells
  have hc := F2.out X hbA
  have HC := Lib.hid hc
  have HX := Lib.hid hX
  have HZY := Lib.hid zy
  have HJY := Lib.hid jy
  have HZX := Lib.hid zx
  have HBA := Lib.hid hbA
  clear hc hX zy jy zx hbA hb1 hiy F1
  go_upto_region 2 with fail
  rw [HX.out]
  go_wp2_with fail
  refine HC.out.mono ?_; rintro e w2 ⟨rfl, hb2⟩
  have zx := HZX.out.below hb2
  clear m0 m1 m2 m3 m4 m5
  obtain ⟨m0, m1, m2, m3, m4, m5⟩ := zx.cells
  have hbA2 := b_trans HBA.out hb2
  have hc := F3.out w2 hbA2
  have HC := Lib.hid hc
  have HB2 := Lib.hid hb2
  clear hc zx hb2 F2
  go_wp2_with fail
  refine HC.out.mono ?_; rintro e w3 ⟨dz, Bz, mz, cz, rfl, hiz, hb3⟩
  have hdz : y.d = dz := isP_d hiz
  subst hdz
  have hiz := hiz.is
  have hbX3 := b_more (b_trans HB2.out hb3) (.cells #[.int .i64 y.d.op, .int .i64 y.d.k, .int .i64 y.d.n, .string y.d.s, .string y.d.nm, .slice Bz mz cz] 26)
  have zz := Box.new w3 y.d Bz mz cz
  have jz := hiz.below (b_new w3 (.cells #[.int .i64 y.d.op, .int .i64 y.d.k, .int .i64 y.d.n, .string y.d.s, .string y.d.nm, .slice Bz mz cz] 26))
  obtain ⟨Y, hY⟩ : ∃ Y, w3.alloc (.cells #[.int .i64 y.d.op, .int .i64 y.d.k, .int .i64 y.d.n, .string y.d.s, .string y.d.nm, .slice Bz mz cz] 26) = Y := ⟨_, rfl⟩
  rw [hY] at hbX3 zz jz
  have zx := HZX.out.below hbX3
  clear m0 m1 m2 m3 m4 m5
  obtain ⟨m0, m1, m2, m3, m4, m5⟩ := zx.cells
  have hbWY := b_trans HBA.out hbX3
  have hc := F4.out Y hbWY
  have HC := Lib.hid hc
  have HY := Lib.hid hY
  have HZZ := Lib.hid zz
  have HJZ := Lib.hid jz
  have HZY := Lib.hid (HZY.out.below hbX3)
  have HJY := Lib.hid (HJY.out.below hbX3)
  have HBY := Lib.hid hbWY
  clear hc hY zz jz zx hbX3 hbWY hbA2 hb3 hiz F3 F4
  go_upto_region 4 with fail
  rw [HY.out]
  go_wp2_with fail
  refine HC.out.mono ?_; rintro e w4 ⟨v, rfl, hown, hb4⟩
  rw [HM.out] at hown
  obtain ⟨A9, c9, rfl⟩ := Fo.own_slice hown
  have zy := HZY.out.below hb4
  have zz := HZZ.out.below hb4
  obtain ⟨y0, y1, y2, y3, y4, y5⟩ := zy.cells
  obtain ⟨z0, z1, z2, z3, z4, z5⟩ := zz.cells
  have hc := lawSame_any y y.d By Bz my mz cy cz w4 (HJY.out.below hb4) (HJZ.out.below hb4)
  have HSame := Lib.hid hc
  have HBE := Lib.hid (b_trans HB.out (b_trans HBY.out hb4))
  clear hc zy zz hb4 hown m0 m1 m2 m3 m4 m5
  by_cases h0 : r = 0
  · subst h0
    by_cases h1 : M = 0
    · subst h1
      go_wp2_with fail
      refine HSame.out.mono ?_; rintro e w5 ⟨rfl, hb5⟩
      have HBF := Lib.hid (b_trans HBE.out hb5)
      clear hb5
      go_wp2_with fail
      go_ret
      exact ⟨by simp, HBF.out⟩
    · have t1 : ((M : Int) == 0) = false := beq_eq_false_iff_ne.2 (by omega)
      have t2 : decide (M = 0) = false := decide_eq_false h1
      go_wp2_with fail
      refine HSame.out.mono ?_; rintro e w5 ⟨rfl, hb5⟩
      have HBF := Lib.hid (b_trans HBE.out hb5)
      clear hb5
      go_wp2_with fail
      go_ret
      exact ⟨by simp, HBF.out⟩
  · have t1 : (r == 0) = false := beq_eq_false_iff_ne.2 h0
    have t2 : decide (r = 0) = false := decide_eq_false h0
    go_wp2_with fail
    refine HSame.out.mono ?_; rintro e w5 ⟨rfl, hb5⟩
    have HBF := Lib.hid (b_trans HBE.out hb5)
    clear hb5
    go_wp2_with fail
    go_ret
    exact ⟨by simp, HBF.out⟩

theorem not_of {W : World} (h : laidMetH Tryz.prog Rows.foldTellsUptoRow.laid W) : ExN.Tab W := by
  have h0 : laidMet Tryz.prog Rows.foldTellsUptoRow.laid W := by rw [MakeChecks.laidMetH_plain _ _ _ (by kernel_rfl)] at h; exact h
  have h1 := h0
  exact NotTab.is_of_head (g := 0) (t := 99) (e := 98) (n := 19) (by kernel_rfl) (by kernel_rfl) Tryz.underlying99 (by kernel_rfl) Tryz.underlying98 (by kernel_rfl) rfl rfl rfl Tryz.underlying9 Tryz.underlying3 Tryz.underlying3 (by kernel_rfl) (by kernel_rfl) (by kernel_rfl) h1

/-! ### The row's step -/
set_option maxRecDepth 100000 in
theorem reads (os : Os) {H : Type} (enc : TypeId × Value → H) : ∃ places, DataW.whole enc Tryz.prog ((World.laidAll Tryz.prog os Rows.foldTellsUptoRow.laid).forCall (fun _ _ => 0) ⟨#[], #[.agg #[.int .i64 0, .int .i64 0, .int .i64 0, .string ⟨#[]⟩, .string ⟨#[]⟩, .slice none 0 0]], []⟩).memory Tryz.f3.params.toList Rows.foldTellsSpec.vars false #[.agg #[.int .i64 0, .int .i64 0, .int .i64 0, .string ⟨#[]⟩, .string ⟨#[]⟩, .slice none 0 0]].toList 8 = some ([.agg [.lit (.int .i64 0), .agg [.lit (.int .i64 0), .lit (.int .i64 0), .lit (.string [])], .lit (.string []), .nil]], [], places) := ⟨[], by kernel_rfl⟩
set_option maxRecDepth 100000 in
theorem lifted (os : Os) (started : os.Started) (H : Type) (enc : TypeId × Value → H) (F : Stop.Interp) :
    ReturnsInHanded {} Tryz.checked os 3 .any ((Rows.OpenSpec.upto Rows.foldTellsSpec).preRow enc Tryz.prog Tryz.f3 Rows.foldTellsUptoRow.domain false Rows.foldTellsUptoRow.laid) (((Rows.OpenSpec.upto Rows.foldTellsSpec).at F).post enc Tryz.prog Tryz.f3 false true false false) := by
  obtain ⟨places, hx⟩ := reads os enc
  refine returnsInHanded_of_row (C := Tryz.checked) (s := Rows.OpenSpec.upto Rows.foldTellsSpec) own started (by kernel_rfl) Tryz.func3
    (witness_row_at (enc := enc) (C := Tryz.checked) false (World.laidAll Tryz.prog os Rows.foldTellsUptoRow.laid) #[.agg #[.int .i64 0, .int .i64 0, .int .i64 0, .string ⟨#[]⟩, .string ⟨#[]⟩, .slice none 0 0]] (World.laidAll_os _ _ _) (by kernel_rfl) (by kernel_rfl) (by kernel_rfl)
      (OpenSpec.preRow_of_cond 8 hx (by kernel_rfl) (fun k hk => by cases hk; kernel_rfl) (by kernel_rfl) (by rw [MakeChecks.laidMetH_plain _ _ _ (by kernel_rfl)]; exact laidMet_laidAll _ (by kernel_rfl) (by kernel_rfl)))) ?_
  intro W base args ds gs before hval0 hW hcnd hcond hsz hL _ _
  have hval : ∀ (j : Nat) t v, Tryz.f3.params[j]? = some t → args[j]? = some v → Value.okWide Tryz.prog W .any base t v := hval0
  have hW' := hW
  obtain ⟨p, q, hA0, hV, rfl, hfz, hnd⟩ := hW
  have hA : DataW.TrodAll enc Tryz.prog W 0 (fun _ => true) true Tryz.f3.params.toList args.toList ds p := hA0
  rw [Tryz.params3] at hA hval
  obtain ⟨v0, vs0, d0, ds0, p0, q0, hargs, rfl, rfl, h0, r0⟩ := trodAll_cons hA
  obtain ⟨rfl, rfl, rfl⟩ := trodAll_nil r0
  obtain rfl : args = #[v0] := by cases args; simp_all
  obtain ⟨rfl, rfl⟩ := trodVars_none hV
  have k0 := h0
  have lt0 : ∀ x ∈ p0, x.block < W.heap.size := by obtain ⟨m, hm⟩ := k0; exact DataW.trod_lt m _ _ _ hm
  obtain ⟨x0, e0, A0, n0, c0, rfl, his0, hb0⟩ := ExO.open_ex (hval 0 26 v0 rfl rfl) h0
  have hk := hcond _ rfl
  have hbk := of_decide_eq_true hk
  simp only [List.append_nil, Rows.uptoBulkAll] at hbk
  clear hA0 hval0
  refine (walk x0 e0 A0 n0 c0  W his0 (by omega) (not_of hL)).mono fun e W' ⟨he, bel⟩ => ?_
  subst he
  exact ⟨_, rfl, _, _, _, [], _, [], hW', trodAll_mk1 (shut_bool Tryz.underlying4 _), (trodAll_cons_mk (Below.trod laidOut (by kernel_rfl) (of_decide_eq_true (by kernel_rfl)) k0 bel lt0) trodAll_mk0), rfl, bel.frame _, fun h => by cases h⟩

theorem over : Rows.FoldTellsUptoSaid :=
  OpenClaim.holds_of_cond 3 Tryz.f3 rfl rfl rfl rfl rfl rfl rfl ⟨rfl, rfl, rfl, rfl, rfl⟩ rfl rfl rfl rfl rfl (by kernel_rfl) Tryz.func3 (by kernel_rfl)
    (of_decide_eq_true (by kernel_rfl)) (by unfold Func.isWrapper; first | (rw [if_pos (by decide +kernel)]; kernel_rfl) | (rw [if_neg (by decide +kernel)]; exact ⟨rfl, rfl⟩))
    (fun os started H enc _ F => by rw [OpenClaim.pre_eq_preRow]; exact lifted os started H enc F)

/-- The tied card. -/
theorem proved : Rows.FoldTellsUptoCardSaid :=
  Claim7.holds_tied_plain_at .later [] [.data] true (true, "ae40beb460a2ed87241e57f8ebfdcc3168592c69536a1755b1ac59dfa71bbbdb") false
    over (fun _ h => by cases h) (by kernel_rfl) (fun _ h => by cases h) foldTellsUpto_row_tie rfl ⟨rfl, rfl⟩ (by kernel_rfl) rfl
    (fun f fn hf hfn => by
      obtain rfl : f = 3 := Option.some.inj ((show Tryz.prog.funcNamed "lychway/lychwaylaw.FoldTells" = some 3 by kernel_rfl).symm.trans hf) |>.symm
      obtain rfl : fn = Tryz.f3 := (Option.some.inj (Tryz.func3.symm.trans hfn)).symm
      exact ⟨by kernel_rfl, fun j t ht => by
        rw [Tryz.params3] at ht
        have hm : t ∈ [26] := by simpa using Array.mem_of_getElem? ht
        have hall : ([26].all fun u => !Tryz.prog.wantsStandIn u) = true := by kernel_rfl
        exact (show Tryz.prog.wantsStandIn t = false by simpa using List.all_eq_true.1 hall t hm)⟩)
    (by kernel_rfl)
#print axioms proved
end Go.Proofs.YtehkebncdahmcaaGreatDoor.foldTells
