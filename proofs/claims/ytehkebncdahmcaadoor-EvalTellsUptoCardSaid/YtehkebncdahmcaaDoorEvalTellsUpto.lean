/- What is proved: the Go law lychwaylaw.EvalTells returns true for all its arguments of bulk at most 1048576 (the second form), and leaves them as they were.  -/
import Derived.Test.YtehkebncdahmcaaDoorRows
import Derived.Test.YtehkebncdahmcaaDoorVdBy
import Derived.Test.YtehkebncdahmcaaDoorFctOpen
import Derived.Test.YtehkebncdahmcaaDoorExOpen
import Derived.Test.YtehkebncdahmcaaDoorKit
import Derived.WalkKit
import Derived.ProofKit
import Derived.OpenShut
import Derived.Deep.RegionHeld3
import Derived.Deep.DrawnRows
import Derived.Deep.DeepCutAuto
import Derived.Deep.QuietTactic
import Derived.BigQuiet
import Derived.WalkSpells
import Derived.WalkLawsBesides
import Derived.Lib.Hide
import Derived.Outline
import Derived.ShutString
import Derived.ChangeOld
import Derived.Below
import Derived.LaidMore
import Derived.SizedLaws
import Derived.Stop.Joined
import Derived.Stop.LaidErr
import Derived.Lib.LaidTab
import Derived.SevenTiedAt
import Derived.Lay
import Derived.LaidOnce
import Derived.Deep.DeepHandedRow
import Derived.Test.YtehkebncdahmcaaDoorCards
import Derived.Test.YtehkebncdahmcaaDoorTie
namespace Go.Proofs.YtehkebncdahmcaaDoor.evalTells
open ValM LexM NumM ExM NmM EvM Kit ExL ExP ExN ExV EvC EvO EvF EvE Vd VdB
open Go.ChangeShapes Go.WideShapes Go.ChangeAt Go.RowKit
open Go.ChangeMaps (open_string shut_string)
set_option linter.unusedVariables false

theorem own : ownKnob Tryd.prog.godebug = none := by kernel_rfl
theorem laidOut : laidOutB Tryd.prog = true := by kernel_rfl


/-! ### The walk -/
set_option maxRecDepth 100000 in
set_option maxHeartbeats 4000000 in
theorem walk (x0 : ExM.Ex) (e0 : ExM.Nd) (A0 : Option Addr) (n0 : Nat) (c0 : Nat) (F1 : List EvF.Fc) (A1 : Option Addr) (c1 : Nat)  (w : World) (his0 : ExL.Is w x0 e0 A0 n0) (hb0 : x0.nodes ≤ 1048576) (hfl1 : EvF.Fcs w A1 F1) (hfx1 : ∀ f ∈ F1, f.nm.size ≤ maxLen) (hfn1 : F1.length ≤ 1048576) (ht : ExN.Tab w) :
    Calls Tryd.prog 3 #[.agg #[.int .i64 e0.op, .int .i64 e0.k, .int .i64 e0.n, .string e0.s, .string e0.nm, .slice A0 n0 c0], .slice A1 F1.length c1] w fun e w' => e = .returned (.bool true) ∧ Below w.heap.size w w' := by
  have h1 := his0.alloc (.cells #[.int .i64 e0.op, .int .i64 e0.k, .int .i64 e0.n, .string e0.s, .string e0.nm, .slice A0 n0 c0] 26)
  have hT := ht.alloc (.cells #[.int .i64 e0.op, .int .i64 e0.k, .int .i64 e0.n, .string e0.s, .string e0.nm, .slice A0 n0 c0] 26)
  have hF := hfl1.below (b_new w (.cells #[.int .i64 e0.op, .int .i64 e0.k, .int .i64 e0.n, .string e0.s, .string e0.nm, .slice A0 n0 c0] 26))
  obtain ⟨W, hW⟩ : ∃ W, w.alloc (.cells #[.int .i64 e0.op, .int .i64 e0.k, .int .i64 e0.n, .string e0.s, .string e0.nm, .slice A0 n0 c0] 26) = W := ⟨_, rfl⟩
  rw [hW] at h1 hT hF
  have k1 : Box W w.heap.size e0 A0 n0 c0 := by rw [← hW]; exact Box.new w e0 A0 n0 c0
  have hbW : Below w.heap.size w W := by rw [← hW]; exact b_new _ _
  obtain ⟨R, hR⟩ : ∃ R, ofV (fcs F1) x0 = R := ⟨_, rfl⟩
  obtain ⟨E, hE⟩ : ∃ E, ofE (fcs F1) x0 = E := ⟨_, rfl⟩
  have f1 := EvE.of_any x0 F1 A1 c1 e0 A0 n0 c0 W (by omega) hfx1 h1 hF hT
  have f2 := fun V (hb : Below W.heap.size W V) => by_any x0 F1 A1 c1 e0 A0 n0 c0 V hfn1 hb0 (h1.below hb) (hF.below hb)
  rw [hR, hE] at f1 f2
  obtain ⟨rk, rn, rs⟩ := R
  have F1' := Lib.hid f1
  have F2' := Lib.hid f2
  have HW := Lib.hid hW
  have K1 := Lib.hid k1
  have HB := Lib.hid hbW
  clear f1 f2 hW k1 hbW h1 hT hF hR hE his0 ht hfl1 hfx1 hb0 hfn1
  go_enter Tryd.func3, Tryd.ntmps3
  go_upto_region 1 with fail
  rw [HW.out]
  obtain ⟨m0, m1, m2, m3, m4, m5⟩ := K1.out.cells
  go_wp2_with fail
  refine F1'.out.mono ?_; rintro e w1 ⟨rfl, hb1⟩
  have hv := BV.new w1 rk rn rs
  have hbX := b_more hb1 (.cells #[.int .i64 rk, .int .i64 rn, .string rs] 23)
  obtain ⟨X, hX⟩ : ∃ X, w1.alloc (.cells #[.int .i64 rk, .int .i64 rn, .string rs] 23) = X := ⟨_, rfl⟩
  rw [hX] at hv hbX
  clear m0 m1 m2 m3 m4 m5
  obtain ⟨m0, m1, m2, m3, m4, m5⟩ := (K1.out.below hbX).cells
  have hc := F2'.out X hbX
  have HSame := Lib.hid hc
  have HX := Lib.hid hX
  have HV := Lib.hid hv
  have HBX := Lib.hid hbX
  clear hc hX hv hbX hb1
  go_upto_region 2 with fail
  rw [HX.out]
  go_wp2_with fail
  refine HSame.out.mono ?_; rintro e w2 ⟨rfl, hb2⟩
  have hv2 := HV.out.below hb2
  obtain ⟨u0, u1, u2⟩ := hv2.cells
  have ul := hv2.lt
  have HBE := Lib.hid (b_trans HB.out (b_trans HBX.out hb2))
  clear hv2 hb2 m0 m1 m2 m3 m4 m5
  go_wp2_with fail
  go_ret
  exact ⟨by simp, b_more HBE.out _⟩

theorem not_of {W : World} (h : laidMetH Tryd.prog Rows.evalTellsUptoRow.laid W) : ExN.Tab W := by
  have h0 : laidMet Tryd.prog Rows.evalTellsUptoRow.laid W := by rw [MakeChecks.laidMetH_plain _ _ _ (by kernel_rfl)] at h; exact h
  have h1 := h0
  exact NotTab.is_of_head (g := 0) (t := 92) (e := 91) (n := 19) (by kernel_rfl) (by kernel_rfl) Tryd.underlying92 (by kernel_rfl) Tryd.underlying91 (by kernel_rfl) rfl rfl rfl Tryd.underlying9 Tryd.underlying3 Tryd.underlying3 (by kernel_rfl) (by kernel_rfl) (by kernel_rfl) h1

/-! ### The row's step -/
set_option maxRecDepth 100000 in
theorem reads (os : Os) {H : Type} (enc : TypeId × Value → H) : ∃ places, DataW.whole enc Tryd.prog ((World.laidAll Tryd.prog os Rows.evalTellsUptoRow.laid).forCall (fun _ _ => 0) ⟨#[], #[.agg #[.int .i64 0, .int .i64 0, .int .i64 0, .string ⟨#[]⟩, .string ⟨#[]⟩, .slice none 0 0], .slice none 0 0], []⟩).memory Tryd.f3.params.toList Rows.evalTellsSpec.vars false #[.agg #[.int .i64 0, .int .i64 0, .int .i64 0, .string ⟨#[]⟩, .string ⟨#[]⟩, .slice none 0 0], .slice none 0 0].toList 8 = some ([.agg [.lit (.int .i64 0), .agg [.lit (.int .i64 0), .lit (.int .i64 0), .lit (.string [])], .lit (.string []), .nil], .nil], [], places) := ⟨[], by kernel_rfl⟩
set_option maxRecDepth 100000 in
theorem lifted (os : Os) (started : os.Started) (H : Type) (enc : TypeId × Value → H) (F : Stop.Interp) :
    ReturnsInHanded {} Tryd.checked os 3 .any ((Rows.OpenSpec.upto Rows.evalTellsSpec).preRow enc Tryd.prog Tryd.f3 Rows.evalTellsUptoRow.domain false Rows.evalTellsUptoRow.laid) (((Rows.OpenSpec.upto Rows.evalTellsSpec).at F).post enc Tryd.prog Tryd.f3 false true false false) := by
  obtain ⟨places, hx⟩ := reads os enc
  refine returnsInHanded_of_row (C := Tryd.checked) (s := Rows.OpenSpec.upto Rows.evalTellsSpec) own started (by kernel_rfl) Tryd.func3
    (witness_row_at (enc := enc) (C := Tryd.checked) false (World.laidAll Tryd.prog os Rows.evalTellsUptoRow.laid) #[.agg #[.int .i64 0, .int .i64 0, .int .i64 0, .string ⟨#[]⟩, .string ⟨#[]⟩, .slice none 0 0], .slice none 0 0] (World.laidAll_os _ _ _) (by kernel_rfl) (by kernel_rfl) (by kernel_rfl)
      (OpenSpec.preRow_of_cond 8 hx (by kernel_rfl) (fun k hk => by cases hk; kernel_rfl) (by kernel_rfl) (by rw [MakeChecks.laidMetH_plain _ _ _ (by kernel_rfl)]; exact laidMet_laidAll _ (by kernel_rfl) (by kernel_rfl)))) ?_
  intro W base args ds gs before hval0 hW hcnd hcond hsz hL _ _
  have hval : ∀ (j : Nat) t v, Tryd.f3.params[j]? = some t → args[j]? = some v → Value.okWide Tryd.prog W .any base t v := hval0
  have hW' := hW
  obtain ⟨p, q, hA0, hV, rfl, hfz, hnd⟩ := hW
  have hA : DataW.TrodAll enc Tryd.prog W 0 (fun _ => true) true Tryd.f3.params.toList args.toList ds p := hA0
  rw [Tryd.params3] at hA hval
  obtain ⟨v0, vs0, d0, ds0, p0, q0, hargs, rfl, rfl, h0, r0⟩ := trodAll_cons hA
  obtain ⟨v1, vs1, d1, ds1, p1, q1, rfl, rfl, rfl, h1, r1⟩ := trodAll_cons r0
  obtain ⟨rfl, rfl, rfl⟩ := trodAll_nil r1
  obtain rfl : args = #[v0, v1] := by cases args; simp_all
  obtain ⟨rfl, rfl⟩ := trodVars_none hV
  have k0 := h0
  have lt0 : ∀ x ∈ p0, x.block < W.heap.size := by obtain ⟨m, hm⟩ := k0; exact DataW.trod_lt m _ _ _ hm
  obtain ⟨x0, e0, A0, n0, c0, rfl, his0, hb0⟩ := ExO.open_ex (hval 0 26 v0 rfl rfl) h0
  have k1 := h1
  have lt1 : ∀ x ∈ p1, x.block < W.heap.size := by obtain ⟨m, hm⟩ := k1; exact DataW.trod_lt m _ _ _ hm
  obtain ⟨A1, F1, c1, rfl, hfl1, hfn1, hfx1⟩ := FctO.open_fcts (hval 1 27 v1 rfl rfl) h1
  have hk := hcond _ rfl
  have hbk := of_decide_eq_true hk
  simp only [List.append_nil, Rows.uptoBulkAll] at hbk
  clear hA0 hval0
  refine (walk x0 e0 A0 n0 c0 F1 A1 c1  W his0 (by omega) hfl1 hfx1 (by omega) (not_of hL)).mono fun e W' ⟨he, bel⟩ => ?_
  subst he
  exact ⟨_, rfl, _, _, _, [], _, [], hW', trodAll_mk1 (shut_bool Tryd.underlying4 _), (trodAll_cons_mk (Below.trod laidOut (by kernel_rfl) (of_decide_eq_true (by kernel_rfl)) k0 bel lt0) (trodAll_cons_mk (Below.trod laidOut (by kernel_rfl) (of_decide_eq_true (by kernel_rfl)) k1 bel lt1) trodAll_mk0)), rfl, bel.frame _, fun h => by cases h⟩

theorem over : Rows.EvalTellsUptoSaid :=
  OpenClaim.holds_of_cond 3 Tryd.f3 rfl rfl rfl rfl rfl rfl rfl ⟨rfl, rfl, rfl, rfl, rfl⟩ rfl rfl rfl rfl rfl (by kernel_rfl) Tryd.func3 (by kernel_rfl)
    (of_decide_eq_true (by kernel_rfl)) (by unfold Func.isWrapper; first | (rw [if_pos (by decide +kernel)]; kernel_rfl) | (rw [if_neg (by decide +kernel)]; exact ⟨rfl, rfl⟩))
    (fun os started H enc _ F => by rw [OpenClaim.pre_eq_preRow]; exact lifted os started H enc F)

/-- The tied card. -/
theorem proved : Rows.EvalTellsUptoCardSaid :=
  Claim7.holds_tied_plain_at .later [] [.data] true (true, "1895df816fd9a6cb1f08478fb35feaccc4e37cf4c571c150608ea7eb8f823bdf") false
    over (fun _ h => by cases h) (by kernel_rfl) (fun _ h => by cases h) evalTellsUpto_row_tie rfl ⟨rfl, rfl⟩ (by kernel_rfl) rfl
    (fun f fn hf hfn => by
      obtain rfl : f = 3 := Option.some.inj ((show Tryd.prog.funcNamed "lychway/lychwaylaw.EvalTells" = some 3 by kernel_rfl).symm.trans hf) |>.symm
      obtain rfl : fn = Tryd.f3 := (Option.some.inj (Tryd.func3.symm.trans hfn)).symm
      exact ⟨by kernel_rfl, fun j t ht => by
        rw [Tryd.params3] at ht
        have hm : t ∈ [26, 27] := by simpa using Array.mem_of_getElem? ht
        have hall : ([26, 27].all fun u => !Tryd.prog.wantsStandIn u) = true := by kernel_rfl
        exact (show Tryd.prog.wantsStandIn t = false by simpa using List.all_eq_true.1 hall t hm)⟩)
    (by kernel_rfl)
#print axioms proved
end Go.Proofs.YtehkebncdahmcaaDoor.evalTells
