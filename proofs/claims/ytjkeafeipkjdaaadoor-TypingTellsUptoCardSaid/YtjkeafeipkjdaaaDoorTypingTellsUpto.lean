/- What is proved: the Go law lychwaylaw.TypingTells returns true for all its arguments of bulk at most 1048576 (the second form), and leaves them as they were.  -/
import Derived.Test.YtjkeafeipkjdaaaDoorRows
import Derived.Test.YtjkeafeipkjdaaaDoorTyRefTop
import Derived.Test.YtjkeafeipkjdaaaDoorFldOpen
import Derived.Test.YtjkeafeipkjdaaaDoorExOpen
import Derived.Test.YtjkeafeipkjdaaaDoorKit
import Derived.WalkKit
import Derived.ProofKit
import Derived.OpenShut
import Derived.Deep.RegionHeld3
import Derived.Deep.DrawnRows
import Derived.Deep.DeepCutAuto
import Derived.Deep.QuietTactic
import Derived.BigQuiet
import Derived.WalkSpells
import Derived.WalkLawsBesides
import Derived.Lib.Hide
import Derived.Outline
import Derived.ShutString
import Derived.ChangeOld
import Derived.Below
import Derived.LaidMore
import Derived.SizedLaws
import Derived.Stop.Joined
import Derived.Stop.LaidErr
import Derived.Lib.LaidTab
import Derived.SevenTiedAt
import Derived.Lay
import Derived.LaidOnce
import Derived.Deep.DeepHandedRow
import Derived.Test.YtjkeafeipkjdaaaDoorCards
import Derived.Test.YtjkeafeipkjdaaaDoorTie
namespace Go.Proofs.YtjkeafeipkjdaaaDoor.typingTells
open ExM NmM Kit ExL ExN ExV GenL TyM Ty TyT TyO TyR TyRT
open Go.ChangeShapes Go.WideShapes Go.ChangeAt Go.RowKit
open Go.ChangeMaps (open_string shut_string)
set_option linter.unusedVariables false

theorem own : ownKnob Tryd.prog.godebug = none := by kernel_rfl
theorem laidOut : laidOutB Tryd.prog = true := by kernel_rfl


/-! ### The walk -/
set_option maxHeartbeats 2000000 in
theorem walk (x0 : ExM.Ex) (e0 : ExM.Nd) (A0 : Option Addr) (n0 : Nat) (c0 : Nat) (F1 : List GenL.Fd) (A1 : Option Addr) (c1 : Nat) (a2 : Int) (w2 : (Lit.int .i64 a2).wf = true) (w : World) (his0 : ExL.Is w x0 e0 A0 n0) (hb0 : x0.nodes ≤ 1048576) (hfl1 : GenL.Flds w A1 F1) (hfx1 : ∀ (j : Nat) (h : j < F1.length), F1[j].nm.size ≤ maxLen ∧ ∃ x, ExL.Is w x F1[j].d F1[j].A F1[j].n ∧ x.nodes ≤ 1048576) (hfn1 : F1.length ≤ 1048576) (ht : ExN.Tab w) :
    Calls Tryd.prog 3 #[.agg #[.int .i64 e0.op, .int .i64 e0.k, .int .i64 e0.n, .string e0.s, .string e0.nm, .slice A0 n0 c0], .slice A1 F1.length c1, .int .i64 a2] w fun e w' => e = .returned (.bool true) ∧ Below w.heap.size w w' := by
  clear w2 hfx1
  have h1 := his0.alloc (.cells #[.int .i64 e0.op, .int .i64 e0.k, .int .i64 e0.n, .string e0.s, .string e0.nm, .slice A0 n0 c0] 26)
  have hT := ht.alloc (.cells #[.int .i64 e0.op, .int .i64 e0.k, .int .i64 e0.n, .string e0.s, .string e0.nm, .slice A0 n0 c0] 26)
  have hF := hfl1.below (b_new w (.cells #[.int .i64 e0.op, .int .i64 e0.k, .int .i64 e0.n, .string e0.s, .string e0.nm, .slice A0 n0 c0] 26))
  obtain ⟨W, hW⟩ : ∃ W, w.alloc (.cells #[.int .i64 e0.op, .int .i64 e0.k, .int .i64 e0.n, .string e0.s, .string e0.nm, .slice A0 n0 c0] 26) = W := ⟨_, rfl⟩
  rw [hW] at h1 hT hF
  have k1 : Box W w.heap.size e0 A0 n0 c0 := by rw [← hW]; exact Box.new w e0 A0 n0 c0
  have hbW : Below w.heap.size w W := by rw [← hW]; exact b_new _ _
  obtain ⟨r, hr⟩ : ∃ r, (ofT (fts F1) x0).1 = r := ⟨_, rfl⟩
  obtain ⟨s, hs⟩ : ∃ r, (ofT (fts F1) x0).2 = r := ⟨_, rfl⟩
  obtain ⟨q, hq⟩ : ∃ q, fitsT (fts F1) x0 a2 = q := ⟨_, rfl⟩
  obtain ⟨fc, hfc⟩ : ∃ x, c1 = x := ⟨_, rfl⟩
  rw [hfc]
  have k2 := fun V (hb : Below W.heap.size W V) => of_any x0 F1 A1 fc e0 A0 n0 c0 V (by omega) (h1.below hb) (hF.below hb) (hT.below hb)
  have k3 := fun V (hb : Below W.heap.size W V) => fits_any x0 F1 A1 fc a2 e0 A0 n0 c0 V (by omega) (h1.below hb) (hF.below hb) (hT.below hb)
  have k4 := fun V (hb : Below W.heap.size W V) => refOf_any x0 F1 A1 fc e0 A0 n0 c0 V hb0 (by omega) (h1.below hb) (hF.below hb)
  have k5 := fun V (hb : Below W.heap.size W V) => refFits_any x0 F1 A1 fc a2 e0 A0 n0 c0 V hb0 (by omega) (h1.below hb) (hF.below hb)
  rw [hr, hs] at k2 k4
  rw [hq] at k3 k5
  have C1 := Lib.hid k2
  have C2 := Lib.hid k3
  have C3 := Lib.hid k4
  have C4 := Lib.hid k5
  have HW := Lib.hid hW
  have K1 := Lib.hid k1
  have HB := Lib.hid hbW
  clear k2 k3 k4 k5 hW k1 hbW h1 hT hF hr hs hq his0 ht hfl1 hfc
  go_enter Tryd.func3, Tryd.ntmps3
  go_wp2_with fail
  rw [HW.out]
  refine (C1.out _ (Below.refl _ _)).mono ?_; rintro e w1 ⟨rfl, hb1⟩
  obtain ⟨m0, m1, m2, m3, m4, m5⟩ := (K1.out.below hb1).cells
  go_wp2_with fail
  refine (C2.out _ hb1).mono ?_; rintro e w2 ⟨rfl, hb2⟩
  have hb12 := b_trans hb1 hb2
  clear m0 m1 m2 m3 m4 m5 hb2 hb1
  obtain ⟨m0, m1, m2, m3, m4, m5⟩ := (K1.out.below hb12).cells
  go_wp2_with fail
  refine (C3.out _ hb12).mono ?_; rintro e w3 ⟨rfl, hb3⟩
  have hb13 := b_trans hb12 hb3
  clear m0 m1 m2 m3 m4 m5 hb3 hb12
  obtain ⟨m0, m1, m2, m3, m4, m5⟩ := (K1.out.below hb13).cells
  go_wp2_with fail
  refine (C4.out _ hb13).mono ?_; rintro e w4 ⟨rfl, hb4⟩
  have hb14 := b_trans hb13 hb4
  have HB14 := Lib.hid hb14
  clear m0 m1 m2 m3 m4 m5 hb4 hb13 hb14
  go_wp2_with fail
  go_ret
  exact ⟨by simp, HB.out.trans (HB14.out.mono HB.out.size)⟩

theorem not_of {W : World} (h : laidMetH Tryd.prog Rows.typingTellsUptoRow.laid W) : ExN.Tab W := by
  have h0 : laidMet Tryd.prog Rows.typingTellsUptoRow.laid W := by rw [MakeChecks.laidMetH_plain _ _ _ (by kernel_rfl)] at h; exact h
  have h1 := h0
  exact NotTab.is_of_head (g := 0) (t := 77) (e := 76) (n := 19) (by kernel_rfl) (by kernel_rfl) Tryd.underlying77 (by kernel_rfl) Tryd.underlying76 (by kernel_rfl) rfl rfl rfl Tryd.underlying9 Tryd.underlying3 Tryd.underlying3 (by kernel_rfl) (by kernel_rfl) (by kernel_rfl) h1

/-! ### The row's step -/
set_option maxRecDepth 100000 in
theorem reads (os : Os) {H : Type} (enc : TypeId × Value → H) : ∃ places, DataW.whole enc Tryd.prog ((World.laidAll Tryd.prog os Rows.typingTellsUptoRow.laid).forCall (fun _ _ => 0) ⟨#[], #[.agg #[.int .i64 0, .int .i64 0, .int .i64 0, .string ⟨#[]⟩, .string ⟨#[]⟩, .slice none 0 0], .slice none 0 0, .int .i64 0], []⟩).memory Tryd.f3.params.toList Rows.typingTellsSpec.vars false #[.agg #[.int .i64 0, .int .i64 0, .int .i64 0, .string ⟨#[]⟩, .string ⟨#[]⟩, .slice none 0 0], .slice none 0 0, .int .i64 0].toList 8 = some ([.agg [.lit (.int .i64 0), .agg [.lit (.int .i64 0), .lit (.int .i64 0), .lit (.string [])], .lit (.string []), .nil], .nil, .lit (.int .i64 0)], [], places) := ⟨[], by kernel_rfl⟩
set_option maxRecDepth 100000 in
theorem lifted (os : Os) (started : os.Started) (H : Type) (enc : TypeId × Value → H) (F : Stop.Interp) :
    ReturnsInHanded {} Tryd.checked os 3 .any ((Rows.OpenSpec.upto Rows.typingTellsSpec).preRow enc Tryd.prog Tryd.f3 Rows.typingTellsUptoRow.domain false Rows.typingTellsUptoRow.laid) (((Rows.OpenSpec.upto Rows.typingTellsSpec).at F).post enc Tryd.prog Tryd.f3 false true false false) := by
  obtain ⟨places, hx⟩ := reads os enc
  refine returnsInHanded_of_row (C := Tryd.checked) (s := Rows.OpenSpec.upto Rows.typingTellsSpec) own started (by kernel_rfl) Tryd.func3
    (witness_row_at (enc := enc) (C := Tryd.checked) false (World.laidAll Tryd.prog os Rows.typingTellsUptoRow.laid) #[.agg #[.int .i64 0, .int .i64 0, .int .i64 0, .string ⟨#[]⟩, .string ⟨#[]⟩, .slice none 0 0], .slice none 0 0, .int .i64 0] (World.laidAll_os _ _ _) (by kernel_rfl) (by kernel_rfl) (by kernel_rfl)
      (OpenSpec.preRow_of_cond 8 hx (by kernel_rfl) (fun k hk => by cases hk; kernel_rfl) (by kernel_rfl) (by rw [MakeChecks.laidMetH_plain _ _ _ (by kernel_rfl)]; exact laidMet_laidAll _ (by kernel_rfl) (by kernel_rfl)))) ?_
  intro W base args ds gs before hval0 hW hcnd hcond hsz hL _ _
  have hval : ∀ (j : Nat) t v, Tryd.f3.params[j]? = some t → args[j]? = some v → Value.okWide Tryd.prog W .any base t v := hval0
  have hW' := hW
  obtain ⟨p, q, hA0, hV, rfl, hfz, hnd⟩ := hW
  have hA : DataW.TrodAll enc Tryd.prog W 0 (fun _ => true) true Tryd.f3.params.toList args.toList ds p := hA0
  rw [Tryd.params3] at hA hval
  obtain ⟨v0, vs0, d0, ds0, p0, q0, hargs, rfl, rfl, h0, r0⟩ := trodAll_cons hA
  obtain ⟨v1, vs1, d1, ds1, p1, q1, rfl, rfl, rfl, h1, r1⟩ := trodAll_cons r0
  obtain ⟨v2, vs2, d2, ds2, p2, q2, rfl, rfl, rfl, h2, r2⟩ := trodAll_cons r1
  obtain ⟨rfl, rfl, rfl⟩ := trodAll_nil r2
  obtain rfl : args = #[v0, v1, v2] := by cases args; simp_all
  obtain ⟨rfl, rfl⟩ := trodVars_none hV
  have k0 := h0
  have lt0 : ∀ x ∈ p0, x.block < W.heap.size := by obtain ⟨m, hm⟩ := k0; exact DataW.trod_lt m _ _ _ hm
  obtain ⟨x0, e0, A0, n0, c0, rfl, his0, hb0⟩ := ExO.open_ex (hval 0 26 v0 rfl rfl) h0
  have k1 := h1
  have lt1 : ∀ x ∈ p1, x.block < W.heap.size := by obtain ⟨m, hm⟩ := k1; exact DataW.trod_lt m _ _ _ hm
  obtain ⟨A1, F1, c1, rfl, hfl1, hfn1, hfx1⟩ := FldO.open_flds (hval 1 27 v1 rfl rfl) h1
  have k2 := h2
  have lt2 : ∀ x ∈ p2, x.block < W.heap.size := by obtain ⟨m, hm⟩ := k2; exact DataW.trod_lt m _ _ _ hm
  obtain ⟨a2, rfl, rfl, rfl, w2⟩ := open_int Tryd.underlying3 (hval 2 3 v2 rfl rfl) h2
  have hk := hcond _ rfl
  have hbk := of_decide_eq_true hk
  simp only [List.append_nil, Rows.uptoBulkAll] at hbk
  clear hA0 hval0
  refine (walk x0 e0 A0 n0 c0 F1 A1 c1 a2 w2 W his0 (by omega) hfl1 (fun j hj => ⟨(hfx1 j hj).1, (hfx1 j hj).2.imp fun x hx => ⟨hx.1, by omega⟩⟩) (by omega) (not_of hL)).mono fun e W' ⟨he, bel⟩ => ?_
  subst he
  exact ⟨_, rfl, _, _, _, [], _, [], hW', trodAll_mk1 (shut_bool Tryd.underlying4 _), (trodAll_cons_mk (Below.trod laidOut (by kernel_rfl) (of_decide_eq_true (by kernel_rfl)) k0 bel lt0) (trodAll_cons_mk (Below.trod laidOut (by kernel_rfl) (of_decide_eq_true (by kernel_rfl)) k1 bel lt1) (trodAll_cons_mk (Below.trod laidOut (by kernel_rfl) (of_decide_eq_true (by kernel_rfl)) k2 bel lt2) trodAll_mk0))), rfl, bel.frame _, fun h => by cases h⟩

theorem over : Rows.TypingTellsUptoSaid :=
  OpenClaim.holds_of_cond 3 Tryd.f3 rfl rfl rfl rfl rfl rfl rfl ⟨rfl, rfl, rfl, rfl, rfl⟩ rfl rfl rfl rfl rfl (by kernel_rfl) Tryd.func3 (by kernel_rfl)
    (of_decide_eq_true (by kernel_rfl)) (by unfold Func.isWrapper; first | (rw [if_pos (by decide +kernel)]; kernel_rfl) | (rw [if_neg (by decide +kernel)]; exact ⟨rfl, rfl⟩))
    (fun os started H enc _ F => by rw [OpenClaim.pre_eq_preRow]; exact lifted os started H enc F)

/-- The tied card. -/
theorem proved : Rows.TypingTellsUptoCardSaid :=
  Claim7.holds_tied_plain_at .later [] [.data] true (true, "d2311ff168048ed70af53b3e679d2f9d22ebf15cdeb8e10b114889f6a41fcbdf") false
    over (fun _ h => by cases h) (by kernel_rfl) (fun _ h => by cases h) typingTellsUpto_row_tie rfl ⟨rfl, rfl⟩ (by kernel_rfl) rfl
    (fun f fn hf hfn => by
      obtain rfl : f = 3 := Option.some.inj ((show Tryd.prog.funcNamed "lychway/lychwaylaw.TypingTells" = some 3 by kernel_rfl).symm.trans hf) |>.symm
      obtain rfl : fn = Tryd.f3 := (Option.some.inj (Tryd.func3.symm.trans hfn)).symm
      exact ⟨by kernel_rfl, fun j t ht => by
        rw [Tryd.params3] at ht
        have hm : t ∈ [26, 27, 3] := by simpa using Array.mem_of_getElem? ht
        have hall : ([26, 27, 3].all fun u => !Tryd.prog.wantsStandIn u) = true := by kernel_rfl
        exact (show Tryd.prog.wantsStandIn t = false by simpa using List.all_eq_true.1 hall t hm)⟩)
    (by kernel_rfl)
#print axioms proved
end Go.Proofs.YtjkeafeipkjdaaaDoor.typingTells
