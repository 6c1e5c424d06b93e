/- What is proved: the Go law lychwaylaw.NamesTells returns true for all its arguments of bulk at most 1048576 (the second form), and leaves them as they were.  -/
import Derived.Test.YtlceojdnmoekcaaDoorRows
import Derived.Test.YtlceojdnmoekcaaDoorNmTop
import Derived.Test.YtlceojdnmoekcaaDoorExOpen
import Derived.Test.YtlceojdnmoekcaaDoorKit
import Derived.WalkKit
import Derived.ProofKit
import Derived.OpenShut
import Derived.Deep.RegionHeld3
import Derived.Deep.DrawnRows
import Derived.Deep.DeepCutAuto
import Derived.Deep.QuietTactic
import Derived.BigQuiet
import Derived.WalkSpells
import Derived.WalkLawsBesides
import Derived.Lib.Hide
import Derived.Outline
import Derived.ShutString
import Derived.ChangeOld
import Derived.Below
import Derived.LaidMore
import Derived.SizedLaws
import Derived.Stop.Joined
import Derived.Stop.LaidErr
import Derived.Lib.LaidTab
import Derived.SevenTiedAt
import Derived.Lay
import Derived.LaidOnce
import Derived.Deep.DeepHandedRow
import Derived.Test.YtlceojdnmoekcaaDoorCards
import Derived.Test.YtlceojdnmoekcaaDoorTie
namespace Go.Proofs.YtlceojdnmoekcaaDoor.namesTells
open ExM NmM Kit ExL ExN ExV NmO NmT NmA NmI NmH
open Go.ChangeShapes Go.WideShapes Go.ChangeAt Go.RowKit
open Go.ChangeMaps (open_string shut_string)
set_option linter.unusedVariables false

theorem own : ownKnob Tryd.prog.godebug = none := by kernel_rfl
theorem laidOut : laidOutB Tryd.prog = true := by kernel_rfl


/-! ### The walk -/
set_option maxHeartbeats 2000000 in
theorem walk (x0 : ExM.Ex) (e0 : ExM.Nd) (A0 : Option Addr) (n0 : Nat) (c0 : Nat) (a1 : ByteArray) (w1 : a1.size ≤ maxLen) (w : World) (his0 : ExL.Is w x0 e0 A0 n0) (hb0 : x0.nodes ≤ 1048576) (ht : ExN.Tab w) (rb1 : a1.size ≤ 140737488351232) :
    Calls Tryd.prog 3 #[.agg #[.int .i64 e0.op, .int .i64 e0.k, .int .i64 e0.n, .string e0.s, .string e0.nm, .slice A0 n0 c0], .string a1] w fun e w' => e = .returned (.bool true) ∧ Below w.heap.size w w' := by
  clear w1 rb1
  have h1 := his0.alloc (.cells #[.int .i64 e0.op, .int .i64 e0.k, .int .i64 e0.n, .string e0.s, .string e0.nm, .slice A0 n0 c0] 26)
  have hT := ht.alloc (.cells #[.int .i64 e0.op, .int .i64 e0.k, .int .i64 e0.n, .string e0.s, .string e0.nm, .slice A0 n0 c0] 26)
  obtain ⟨W, hW⟩ : ∃ W, w.alloc (.cells #[.int .i64 e0.op, .int .i64 e0.k, .int .i64 e0.n, .string e0.s, .string e0.nm, .slice A0 n0 c0] 26) = W := ⟨_, rfl⟩
  rw [hW] at h1 hT
  have k1 : Box W w.heap.size e0 A0 n0 c0 := by rw [← hW]; exact Box.new w e0 A0 n0 c0
  have hbW : Below w.heap.size w W := by rw [← hW]; exact b_new _ _
  obtain ⟨r, hr⟩ : ∃ r, x0.checkE = r := ⟨_, rfl⟩
  obtain ⟨q, hq⟩ : ∃ q, hasB (Ex.refs x0) a1 = q := ⟨_, rfl⟩
  obtain ⟨M, hM⟩ : ∃ M, ofL x0 = M := ⟨_, rfl⟩
  have c1 := fun V (hb : Below W.heap.size W V) => of_any x0 e0 A0 n0 c0 V (h1.below hb) (hT.below hb)
  have c2 := fun V (hb : Below W.heap.size W V) => has_any x0 a1 e0 A0 n0 c0 V (h1.below hb)
  have c3 := fun V (hb : Below W.heap.size W V) => refOf_any x0 e0 A0 n0 c0 V hb0 (h1.below hb)
  have c4 := fun V (hb : Below W.heap.size W V) => refHas_any x0 a1 e0 A0 n0 c0 V hb0 (h1.below hb)
  have hMl : M.length ≤ 1048576 := by
    rw [← hM]
    unfold ofL
    split
    · have h5 := rise_len (bytesL (Ex.refs x0))
      have h6 := refs_len x0
      have h7 : (bytesL (Ex.refs x0)).length = (Ex.refs x0).length := List.length_map _
      omega
    · simp
  rw [hr, hM] at c1 c3
  rw [hq] at c2 c4
  have C1 := Lib.hid c1
  have C2 := Lib.hid c2
  have C3 := Lib.hid c3
  have C4 := Lib.hid c4
  have HW := Lib.hid hW
  have K1 := Lib.hid k1
  have HB := Lib.hid hbW
  clear c1 c2 c3 c4 hW k1 hbW h1 hT hr hq hM his0 ht
  go_enter Tryd.func3, Tryd.ntmps3
  go_wp2_with fail
  rw [HW.out]
  refine (C1.out _ (Below.refl _ _)).mono ?_; rintro e w1 ⟨v1, rfl, hown1, hb1⟩
  obtain ⟨A1, d1, rfl, hr1⟩ := toSRow hown1
  obtain ⟨m0, m1, m2, m3, m4, m5⟩ := (K1.out.below hb1).cells
  have HR1 := Lib.hid hr1
  clear hown1 hr1
  go_wp2_with fail
  refine (C2.out _ hb1).mono ?_; rintro e w2 ⟨rfl, hb2⟩
  have hb12 := b_trans hb1 hb2
  have hr2 := NmT.SRow.below HR1.out hb2
  clear m0 m1 m2 m3 m4 m5 hb2 hb1 HR1
  obtain ⟨m0, m1, m2, m3, m4, m5⟩ := (K1.out.below hb12).cells
  have HR2 := Lib.hid hr2
  clear hr2
  go_wp2_with fail
  refine (C3.out _ hb12).mono ?_; rintro e w3 ⟨v3, rfl, hown3, hb3⟩
  obtain ⟨A3, d3, rfl, hr3⟩ := toSRow hown3
  have hb13 := b_trans hb12 hb3
  have hr2 := NmT.SRow.below HR2.out hb3
  clear m0 m1 m2 m3 m4 m5 hb3 hb12 hown3 HR2
  obtain ⟨m0, m1, m2, m3, m4, m5⟩ := (K1.out.below hb13).cells
  have HR2 := Lib.hid hr2
  have HR3 := Lib.hid hr3
  clear hr2 hr3
  go_wp2_with fail
  refine (C4.out _ hb13).mono ?_; rintro e w4 ⟨rfl, hb4⟩
  have hb14 := b_trans hb13 hb4
  have hs := same_any w4 (mkL M) A1 A3 d1 d3 (by rw [mkL_len]; exact hMl) (NmT.SRow.below HR2.out hb4) (NmT.SRow.below HR3.out hb4)
  rw [mkL_len] at hs
  have H5 := Lib.hid hs
  have HB14 := Lib.hid hb14
  clear m0 m1 m2 m3 m4 m5 hb4 hb13 hb14 HR2 HR3 hs
  go_wp2_with fail
  refine H5.out.mono ?_; rintro e w5 ⟨rfl, k, rfl⟩
  go_wp2_with fail
  go_ret
  exact ⟨by simp, HB.out.trans ((b_drewN HB14.out k).mono HB.out.size)⟩

theorem not_of {W : World} (h : laidMetH Tryd.prog Rows.namesTellsUptoRow.laid W) : ExN.Tab W := by
  have h0 : laidMet Tryd.prog Rows.namesTellsUptoRow.laid W := by rw [MakeChecks.laidMetH_plain _ _ _ (by kernel_rfl)] at h; exact h
  have h1 := h0
  exact NotTab.is_of_head (g := 0) (t := 88) (e := 87) (n := 19) (by kernel_rfl) (by kernel_rfl) Tryd.underlying88 (by kernel_rfl) Tryd.underlying87 (by kernel_rfl) rfl rfl rfl Tryd.underlying9 Tryd.underlying3 Tryd.underlying3 (by kernel_rfl) (by kernel_rfl) (by kernel_rfl) h1

/-! ### The row's step -/
set_option maxRecDepth 100000 in
theorem reads (os : Os) {H : Type} (enc : TypeId × Value → H) : ∃ places, DataW.whole enc Tryd.prog ((World.laidAll Tryd.prog os Rows.namesTellsUptoRow.laid).forCall (fun _ _ => 0) ⟨#[], #[.agg #[.int .i64 0, .int .i64 0, .int .i64 0, .string ⟨#[]⟩, .string ⟨#[]⟩, .slice none 0 0], .string ⟨#[]⟩], []⟩).memory Tryd.f3.params.toList Rows.namesTellsSpec.vars false #[.agg #[.int .i64 0, .int .i64 0, .int .i64 0, .string ⟨#[]⟩, .string ⟨#[]⟩, .slice none 0 0], .string ⟨#[]⟩].toList 8 = some ([.agg [.lit (.int .i64 0), .agg [.lit (.int .i64 0), .lit (.int .i64 0), .lit (.string [])], .lit (.string []), .nil], .lit (.string [])], [], places) := ⟨[], by kernel_rfl⟩
set_option maxRecDepth 100000 in
theorem lifted (os : Os) (started : os.Started) (H : Type) (enc : TypeId × Value → H) (F : Stop.Interp) :
    ReturnsInHanded {} Tryd.checked os 3 .any ((Rows.OpenSpec.upto Rows.namesTellsSpec).preRow enc Tryd.prog Tryd.f3 Rows.namesTellsUptoRow.domain false Rows.namesTellsUptoRow.laid) (((Rows.OpenSpec.upto Rows.namesTellsSpec).at F).post enc Tryd.prog Tryd.f3 false true false false) := by
  obtain ⟨places, hx⟩ := reads os enc
  refine returnsInHanded_of_row (C := Tryd.checked) (s := Rows.OpenSpec.upto Rows.namesTellsSpec) own started (by kernel_rfl) Tryd.func3
    (witness_row_at (enc := enc) (C := Tryd.checked) false (World.laidAll Tryd.prog os Rows.namesTellsUptoRow.laid) #[.agg #[.int .i64 0, .int .i64 0, .int .i64 0, .string ⟨#[]⟩, .string ⟨#[]⟩, .slice none 0 0], .string ⟨#[]⟩] (World.laidAll_os _ _ _) (by kernel_rfl) (by kernel_rfl) (by kernel_rfl)
      (OpenSpec.preRow_of_cond 8 hx (by kernel_rfl) (fun k hk => by cases hk; kernel_rfl) (by kernel_rfl) (by rw [MakeChecks.laidMetH_plain _ _ _ (by kernel_rfl)]; exact laidMet_laidAll _ (by kernel_rfl) (by kernel_rfl)))) ?_
  intro W base args ds gs before hval0 hW hcnd hcond hsz hL _ _
  have hval : ∀ (j : Nat) t v, Tryd.f3.params[j]? = some t → args[j]? = some v → Value.okWide Tryd.prog W .any base t v := hval0
  have hW' := hW
  obtain ⟨p, q, hA0, hV, rfl, hfz, hnd⟩ := hW
  have hA : DataW.TrodAll enc Tryd.prog W 0 (fun _ => true) true Tryd.f3.params.toList args.toList ds p := hA0
  rw [Tryd.params3] at hA hval
  obtain ⟨v0, vs0, d0, ds0, p0, q0, hargs, rfl, rfl, h0, r0⟩ := trodAll_cons hA
  obtain ⟨v1, vs1, d1, ds1, p1, q1, rfl, rfl, rfl, h1, r1⟩ := trodAll_cons r0
  obtain ⟨rfl, rfl, rfl⟩ := trodAll_nil r1
  obtain rfl : args = #[v0, v1] := by cases args; simp_all
  obtain ⟨rfl, rfl⟩ := trodVars_none hV
  have k0 := h0
  have lt0 : ∀ x ∈ p0, x.block < W.heap.size := by obtain ⟨m, hm⟩ := k0; exact DataW.trod_lt m _ _ _ hm
  obtain ⟨x0, e0, A0, n0, c0, rfl, his0, hb0⟩ := ExO.open_ex (hval 0 26 v0 rfl rfl) h0
  have k1 := h1
  have lt1 : ∀ x ∈ p1, x.block < W.heap.size := by obtain ⟨m, hm⟩ := k1; exact DataW.trod_lt m _ _ _ hm
  obtain ⟨a1, rfl, rfl, rfl, w1⟩ := open_string Tryd.underlying9 (hval 1 9 v1 rfl rfl) h1
  have hk := hcond _ rfl
  have hbk := of_decide_eq_true hk
  simp only [List.append_nil, Rows.uptoBulkAll] at hbk
  rw [Tryd.params3] at hsz
  have rb1 : a1.size ≤ 140737488351232 := by
    have h1 := sized_string hsz (j := 1) (t := 9) rfl rfl
    have h2 : reachBytes = 140737488351232 := by decide
    have e1 : a1.size = a1.data.size := rfl
    have e2 : a1.data.toList.length = a1.data.size := Array.length_toList
    omega
  clear hA0 hval0
  refine (walk x0 e0 A0 n0 c0 a1 w1 W his0 (by omega) (not_of hL) rb1).mono fun e W' ⟨he, bel⟩ => ?_
  subst he
  exact ⟨_, rfl, _, _, _, [], _, [], hW', trodAll_mk1 (shut_bool Tryd.underlying4 _), (trodAll_cons_mk (Below.trod laidOut (by kernel_rfl) (of_decide_eq_true (by kernel_rfl)) k0 bel lt0) (trodAll_cons_mk (Below.trod laidOut (by kernel_rfl) (of_decide_eq_true (by kernel_rfl)) k1 bel lt1) trodAll_mk0)), rfl, bel.frame _, fun h => by cases h⟩

theorem over : Rows.NamesTellsUptoSaid :=
  OpenClaim.holds_of_cond 3 Tryd.f3 rfl rfl rfl rfl rfl rfl rfl ⟨rfl, rfl, rfl, rfl, rfl⟩ rfl rfl rfl rfl rfl (by kernel_rfl) Tryd.func3 (by kernel_rfl)
    (of_decide_eq_true (by kernel_rfl)) (by unfold Func.isWrapper; first | (rw [if_pos (by decide +kernel)]; kernel_rfl) | (rw [if_neg (by decide +kernel)]; exact ⟨rfl, rfl⟩))
    (fun os started H enc _ F => by rw [OpenClaim.pre_eq_preRow]; exact lifted os started H enc F)

/-- The tied card. -/
theorem proved : Rows.NamesTellsUptoCardSaid :=
  Claim7.holds_tied_plain_at .later [] [.data] true (true, "887a223315835e23b5a2630090f113ffe25d5ccc31492941d6ecbc9d83265101") false
    over (fun _ h => by cases h) (by kernel_rfl) (fun _ h => by cases h) namesTellsUpto_row_tie rfl ⟨rfl, rfl⟩ (by kernel_rfl) rfl
    (fun f fn hf hfn => by
      obtain rfl : f = 3 := Option.some.inj ((show Tryd.prog.funcNamed "lychway/lychwaylaw.NamesTells" = some 3 by kernel_rfl).symm.trans hf) |>.symm
      obtain rfl : fn = Tryd.f3 := (Option.some.inj (Tryd.func3.symm.trans hfn)).symm
      exact ⟨by kernel_rfl, fun j t ht => by
        rw [Tryd.params3] at ht
        have hm : t ∈ [26, 9] := by simpa using Array.mem_of_getElem? ht
        have hall : ([26, 9].all fun u => !Tryd.prog.wantsStandIn u) = true := by kernel_rfl
        exact (show Tryd.prog.wantsStandIn t = false by simpa using List.all_eq_true.1 hall t hm)⟩)
    (by kernel_rfl)
#print axioms proved
end Go.Proofs.YtlceojdnmoekcaaDoor.namesTells
