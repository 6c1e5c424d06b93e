/- What is proved: the Go law lychwaylaw.ExprPrints returns true for all its arguments of bulk at most 1048576 (the second form), and leaves them as they were.  -/
import Derived.Test.YtmcggbloangpaaaDoorRows
import Derived.Test.YtmcggbloangpaaaDoorPrintTop
import Derived.Test.YtmcggbloangpaaaDoorExOpen
import Derived.Test.YtmcggbloangpaaaDoorKit
import Derived.WalkKit
import Derived.ProofKit
import Derived.OpenShut
import Derived.Deep.RegionHeld3
import Derived.Deep.DrawnRows
import Derived.Deep.DeepCutAuto
import Derived.Deep.QuietTactic
import Derived.BigQuiet
import Derived.WalkSpells
import Derived.WalkLawsBesides
import Derived.Lib.Hide
import Derived.Outline
import Derived.ShutString
import Derived.ChangeOld
import Derived.Below
import Derived.LaidMore
import Derived.SizedLaws
import Derived.Stop.Joined
import Derived.Stop.LaidErr
import Derived.Lib.LaidTab
import Derived.SevenTiedAt
import Derived.Lay
import Derived.LaidOnce
import Derived.Deep.DeepHandedRow
import Derived.Test.YtmcggbloangpaaaDoorCards
import Derived.Test.YtmcggbloangpaaaDoorTie
namespace Go.Proofs.YtmcggbloangpaaaDoor.exprPrints
open ExM PrM Kit ExL ExN ExV
open Go.ChangeShapes Go.WideShapes Go.ChangeAt Go.RowKit
open Go.ChangeMaps (open_string shut_string)
set_option linter.unusedVariables false

theorem own : ownKnob Tryd.prog.godebug = none := by kernel_rfl
theorem laidOut : laidOutB Tryd.prog = true := by kernel_rfl


/-! ### The walk -/
set_option maxHeartbeats 1000000 in
theorem walk (x0 : ExM.Ex) (e0 : ExM.Nd) (A0 : Option Addr) (n0 : Nat) (c0 : Nat)  (w : World) (his0 : ExL.Is w x0 e0 A0 n0) (hb0 : x0.nodes ≤ 1048576) (ht : ExN.Tab w) (hp : Show.Pow w) :
    Calls Tryd.prog 4 #[.agg #[.int .i64 e0.op, .int .i64 e0.k, .int .i64 e0.n, .string e0.s, .string e0.nm, .slice A0 n0 c0]] w fun e w' => e = .returned (.bool true) ∧ Below w.heap.size w w' := by
  have h1 := his0.alloc (.cells #[.int .i64 e0.op, .int .i64 e0.k, .int .i64 e0.n, .string e0.s, .string e0.nm, .slice A0 n0 c0] 26)
  have hT := ht.alloc (.cells #[.int .i64 e0.op, .int .i64 e0.k, .int .i64 e0.n, .string e0.s, .string e0.nm, .slice A0 n0 c0] 26)
  have hV : Prn.Vars w := ⟨ht, hp⟩
  have hV1 := hV.below (b_new w (.cells #[.int .i64 e0.op, .int .i64 e0.k, .int .i64 e0.n, .string e0.s, .string e0.nm, .slice A0 n0 c0] 26))
  obtain ⟨W, hW⟩ : ∃ W, w.alloc (.cells #[.int .i64 e0.op, .int .i64 e0.k, .int .i64 e0.n, .string e0.s, .string e0.nm, .slice A0 n0 c0] 26) = W := ⟨_, rfl⟩
  rw [hW] at h1 hT hV1
  have k1 : Box W w.heap.size e0 A0 n0 c0 := by rw [← hW]; exact Box.new w e0 A0 n0 c0
  have hbW : Below w.heap.size w W := by rw [← hW]; exact b_new _ _
  obtain ⟨r, hr⟩ : ∃ r, x0.checkE = r := ⟨_, rfl⟩
  obtain ⟨t, htt⟩ : ∃ t : ByteArray, t = ⟨(if x0.checkE = 0 then Ex.txt x0 else []).toArray⟩ := ⟨_, rfl⟩
  have c1 := fun V (hb : Below W.heap.size W V) => PrT.print_any x0 e0 A0 n0 c0 V (h1.below hb) (hV1.below hb)
  have c2 := fun V (hb : Below W.heap.size W V) => PrT.refText_any x0 e0 A0 n0 c0 V (by omega) (h1.below hb) (hV1.below hb)
  rw [← htt, hr] at c1 c2
  have C1 := Lib.hid c1
  have C2 := Lib.hid c2
  have HW := Lib.hid hW
  have K1 := Lib.hid k1
  have HB := Lib.hid hbW
  clear c1 c2 hW k1 hbW h1 hT hV hV1 htt hr his0 ht hp
  go_enter Tryd.func4, Tryd.ntmps4
  go_wp2_with fail
  rw [HW.out]
  refine (C1.out _ (Below.refl _ _)).mono ?_; rintro e w1 ⟨rfl, hb1⟩
  obtain ⟨m0, m1, m2, m3, m4, m5⟩ := (K1.out.below hb1).cells
  go_wp2_with fail
  refine (C2.out _ hb1).mono ?_; rintro e w2 ⟨rfl, hb2⟩
  have hb12 := b_trans hb1 hb2
  clear m0 m1 m2 m3 m4 m5 hb2
  go_wp2_with fail
  go_ret
  exact ⟨by simp, HB.out.trans (hb12.mono HB.out.size)⟩

theorem not_of {W : World} (h : laidMetH Tryd.prog Rows.exprPrintsUptoRow.laid W) : ExN.Tab W := by
  have h0 : laidMet Tryd.prog Rows.exprPrintsUptoRow.laid W := by rw [MakeChecks.laidMetH_plain _ _ _ (by kernel_rfl)] at h; exact h
  have h1 := h0.tail.tail.tail
  exact NotTab.is_of_head (g := 0) (t := 53) (e := 52) (n := 19) (by kernel_rfl) (by kernel_rfl) Tryd.underlying53 (by kernel_rfl) Tryd.underlying52 (by kernel_rfl) rfl rfl rfl Tryd.underlying9 Tryd.underlying3 Tryd.underlying3 (by kernel_rfl) (by kernel_rfl) (by kernel_rfl) h1

theorem pow_of {W : World} (h : laidMetH Tryd.prog Rows.exprPrintsUptoRow.laid W) : Show.Pow W := by
  have h0 : laidMet Tryd.prog Rows.exprPrintsUptoRow.laid W := by rw [MakeChecks.laidMetH_plain _ _ _ (by kernel_rfl)] at h; exact h
  have h1 := h0.tail.tail
  exact Lib.tabIs_of_head (k := .u64) (zs := Lib.pow10Tab) (g := 1) (t := 107) (e := 100) (n := 20) (by kernel_rfl) (by kernel_rfl) Tryd.underlying107 Tryd.underlying100 (by kernel_rfl) (by kernel_rfl) h1

/-! ### The row's step -/
set_option maxRecDepth 100000 in
theorem reads (os : Os) {H : Type} (enc : TypeId × Value → H) : ∃ places, DataW.whole enc Tryd.prog ((World.laidAll Tryd.prog os Rows.exprPrintsUptoRow.laid).forCall (fun _ _ => 0) ⟨#[], #[.agg #[.int .i64 0, .int .i64 0, .int .i64 0, .string ⟨#[]⟩, .string ⟨#[]⟩, .slice none 0 0]], []⟩).memory Tryd.f4.params.toList Rows.exprPrintsSpec.vars false #[.agg #[.int .i64 0, .int .i64 0, .int .i64 0, .string ⟨#[]⟩, .string ⟨#[]⟩, .slice none 0 0]].toList 8 = some ([.agg [.lit (.int .i64 0), .agg [.lit (.int .i64 0), .lit (.int .i64 0), .lit (.string [])], .lit (.string []), .nil]], [], places) := ⟨[], by kernel_rfl⟩
set_option maxRecDepth 100000 in
theorem lifted (os : Os) (started : os.Started) (H : Type) (enc : TypeId × Value → H) (F : Stop.Interp) :
    ReturnsInHanded {} Tryd.checked os 4 .any ((Rows.OpenSpec.upto Rows.exprPrintsSpec).preRow enc Tryd.prog Tryd.f4 Rows.exprPrintsUptoRow.domain false Rows.exprPrintsUptoRow.laid) (((Rows.OpenSpec.upto Rows.exprPrintsSpec).at F).post enc Tryd.prog Tryd.f4 false true false false) := by
  obtain ⟨places, hx⟩ := reads os enc
  refine returnsInHanded_of_row (C := Tryd.checked) (s := Rows.OpenSpec.upto Rows.exprPrintsSpec) own started (by kernel_rfl) Tryd.func4
    (witness_row_at (enc := enc) (C := Tryd.checked) false (World.laidAll Tryd.prog os Rows.exprPrintsUptoRow.laid) #[.agg #[.int .i64 0, .int .i64 0, .int .i64 0, .string ⟨#[]⟩, .string ⟨#[]⟩, .slice none 0 0]] (World.laidAll_os _ _ _) (by kernel_rfl) (by kernel_rfl) (by kernel_rfl)
      (OpenSpec.preRow_of_cond 8 hx (by kernel_rfl) (fun k hk => by cases hk; kernel_rfl) (by kernel_rfl) (by rw [MakeChecks.laidMetH_plain _ _ _ (by kernel_rfl)]; exact laidMet_laidAll _ (by kernel_rfl) (by kernel_rfl)))) ?_
  intro W base args ds gs before hval0 hW hcnd hcond hsz hL _ _
  have hval : ∀ (j : Nat) t v, Tryd.f4.params[j]? = some t → args[j]? = some v → Value.okWide Tryd.prog W .any base t v := hval0
  have hW' := hW
  obtain ⟨p, q, hA0, hV, rfl, hfz, hnd⟩ := hW
  have hA : DataW.TrodAll enc Tryd.prog W 0 (fun _ => true) true Tryd.f4.params.toList args.toList ds p := hA0
  rw [Tryd.params4] at hA hval
  obtain ⟨v0, vs0, d0, ds0, p0, q0, hargs, rfl, rfl, h0, r0⟩ := trodAll_cons hA
  obtain ⟨rfl, rfl, rfl⟩ := trodAll_nil r0
  obtain rfl : args = #[v0] := by cases args; simp_all
  obtain ⟨rfl, rfl⟩ := trodVars_none hV
  have k0 := h0
  have lt0 : ∀ x ∈ p0, x.block < W.heap.size := by obtain ⟨m, hm⟩ := k0; exact DataW.trod_lt m _ _ _ hm
  obtain ⟨x0, e0, A0, n0, c0, rfl, his0, hb0⟩ := ExO.open_ex (hval 0 26 v0 rfl rfl) h0
  have hk := hcond _ rfl
  have hbk := of_decide_eq_true hk
  simp only [List.append_nil, Rows.uptoBulkAll] at hbk
  clear hA0 hval0
  refine (walk x0 e0 A0 n0 c0  W his0 (by omega) (not_of hL) (pow_of hL)).mono fun e W' ⟨he, bel⟩ => ?_
  subst he
  exact ⟨_, rfl, _, _, _, [], _, [], hW', trodAll_mk1 (shut_bool Tryd.underlying4 _), (trodAll_cons_mk (Below.trod laidOut (by kernel_rfl) (of_decide_eq_true (by kernel_rfl)) k0 bel lt0) trodAll_mk0), rfl, bel.frame _, fun h => by cases h⟩

theorem over : Rows.ExprPrintsUptoSaid :=
  OpenClaim.holds_of_cond 4 Tryd.f4 rfl rfl rfl rfl rfl rfl rfl ⟨rfl, rfl, rfl, rfl, rfl⟩ rfl rfl rfl rfl rfl (by kernel_rfl) Tryd.func4 (by kernel_rfl)
    (of_decide_eq_true (by kernel_rfl)) (by unfold Func.isWrapper; first | (rw [if_pos (by decide +kernel)]; kernel_rfl) | (rw [if_neg (by decide +kernel)]; exact ⟨rfl, rfl⟩))
    (fun os started H enc _ F => by rw [OpenClaim.pre_eq_preRow]; exact lifted os started H enc F)

/-- The tied card. -/
theorem proved : Rows.ExprPrintsUptoCardSaid :=
  Claim7.holds_tied_plain_at .later [] [.data, .data, .data, .data] true (true, "455443f2290804957c317fc423d910334d6ae5c113b5fd06c029889d9dfaeceb") false
    over (fun _ h => by cases h) (by kernel_rfl) (fun _ h => by cases h) exprPrintsUpto_row_tie rfl ⟨rfl, rfl⟩ (by kernel_rfl) rfl
    (fun f fn hf hfn => by
      obtain rfl : f = 4 := Option.some.inj ((show Tryd.prog.funcNamed "lychway/lychwaylaw.ExprPrints" = some 4 by kernel_rfl).symm.trans hf) |>.symm
      obtain rfl : fn = Tryd.f4 := (Option.some.inj (Tryd.func4.symm.trans hfn)).symm
      exact ⟨by kernel_rfl, fun j t ht => by
        rw [Tryd.params4] at ht
        have hm : t ∈ [26] := by simpa using Array.mem_of_getElem? ht
        have hall : ([26].all fun u => !Tryd.prog.wantsStandIn u) = true := by kernel_rfl
        exact (show Tryd.prog.wantsStandIn t = false by simpa using List.all_eq_true.1 hall t hm)⟩)
    (by kernel_rfl)
#print axioms proved
end Go.Proofs.YtmcggbloangpaaaDoor.exprPrints
