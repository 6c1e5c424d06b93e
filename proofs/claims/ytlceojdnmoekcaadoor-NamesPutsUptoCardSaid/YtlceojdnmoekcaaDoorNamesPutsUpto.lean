/- What is proved: the Go law lychwaylaw.NamesPuts returns true for all its arguments of bulk at most 1048576 (the second form), and leaves them as they were.  -/
import Derived.Test.YtlceojdnmoekcaaDoorRows
import Derived.Test.YtlceojdnmoekcaaDoorNmRefPut
import Derived.Test.YtlceojdnmoekcaaDoorExOpen
import Derived.Test.YtlceojdnmoekcaaDoorKit
import Derived.WalkKit
import Derived.ProofKit
import Derived.OpenShut
import Derived.Deep.RegionHeld3
import Derived.Deep.DrawnRows
import Derived.Deep.DeepCutAuto
import Derived.Deep.QuietTactic
import Derived.BigQuiet
import Derived.WalkSpells
import Derived.WalkLawsBesides
import Derived.Lib.Hide
import Derived.Outline
import Derived.ShutString
import Derived.ChangeOld
import Derived.Below
import Derived.LaidMore
import Derived.SizedLaws
import Derived.Stop.Joined
import Derived.Stop.LaidErr
import Derived.Lib.LaidTab
import Derived.SevenTiedAt
import Derived.Lay
import Derived.LaidOnce
import Derived.Deep.DeepHandedRow
import Derived.Test.YtlceojdnmoekcaaDoorCards
import Derived.Test.YtlceojdnmoekcaaDoorTie
namespace Go.Proofs.YtlceojdnmoekcaaDoor.namesPuts
open ExM NmM Kit ExL ExP ExN ExV NmC NmP NmR NmS NmU
open Go.ChangeShapes Go.WideShapes Go.ChangeAt Go.RowKit
open Go.ChangeMaps (open_string shut_string)
set_option linter.unusedVariables false

theorem own : ownKnob Tryd.prog.godebug = none := by kernel_rfl
theorem laidOut : laidOutB Tryd.prog = true := by kernel_rfl


/-! ### The walk -/
set_option maxRecDepth 100000 in
set_option maxHeartbeats 4000000 in
theorem walk (x0 : ExM.Ex) (e0 : ExM.Nd) (A0 : Option Addr) (n0 : Nat) (c0 : Nat) (a1 : ByteArray) (x2 : ExM.Ex) (e2 : ExM.Nd) (A2 : Option Addr) (n2 : Nat) (c2 : Nat) (w1 : a1.size ≤ maxLen) (w : World) (his0 : ExL.Is w x0 e0 A0 n0) (hb0 : x0.nodes ≤ 1048576) (his2 : ExL.Is w x2 e2 A2 n2) (hb2 : x2.nodes ≤ 1048576) (ht : ExN.Tab w) (rb1 : a1.size ≤ 140737488351232) :
    Calls Tryd.prog 4 #[.agg #[.int .i64 e0.op, .int .i64 e0.k, .int .i64 e0.n, .string e0.s, .string e0.nm, .slice A0 n0 c0], .string a1, .agg #[.int .i64 e2.op, .int .i64 e2.k, .int .i64 e2.n, .string e2.s, .string e2.nm, .slice A2 n2 c2]] w fun e w' => e = .returned (.bool true) ∧ Below w.heap.size w w' := by
  have hnm : a1.size ≤ maxLen := w1
  clear w1 rb1
  have q0 := World.alloc_heap_new w (.cells #[.int .i64 e0.op, .int .i64 e0.k, .int .i64 e0.n, .string e0.s, .string e0.nm, .slice A0 n0 c0] 26)
  have q1 := World.alloc_heap_new (w.alloc (.cells #[.int .i64 e0.op, .int .i64 e0.k, .int .i64 e0.n, .string e0.s, .string e0.nm, .slice A0 n0 c0] 26)) (.cells #[.int .i64 e2.op, .int .i64 e2.k, .int .i64 e2.n, .string e2.s, .string e2.nm, .slice A2 n2 c2] 26)
  simp only [World.size_alloc] at q1
  have hbW : Below w.heap.size w ((w.alloc (.cells #[.int .i64 e0.op, .int .i64 e0.k, .int .i64 e0.n, .string e0.s, .string e0.nm, .slice A0 n0 c0] 26)).alloc (.cells #[.int .i64 e2.op, .int .i64 e2.k, .int .i64 e2.n, .string e2.s, .string e2.nm, .slice A2 n2 c2] 26)) := b_more (b_new _ _) _
  obtain ⟨W, hW⟩ : ∃ W, ((w.alloc (.cells #[.int .i64 e0.op, .int .i64 e0.k, .int .i64 e0.n, .string e0.s, .string e0.nm, .slice A0 n0 c0] 26)).alloc (.cells #[.int .i64 e2.op, .int .i64 e2.k, .int .i64 e2.n, .string e2.s, .string e2.nm, .slice A2 n2 c2] 26)) = W := ⟨_, rfl⟩
  have k0 : Box W w.heap.size e0 A0 n0 c0 := by rw [← hW]; exact Box.below (show Box _ _ e0 A0 n0 c0 from q0) (b_new _ _)
  have k1 : Box W (w.heap.size + 1) e2 A2 n2 c2 := by rw [← hW]; exact q1
  rw [hW] at hbW
  have hx := his0.below hbW
  have hy := his2.below hbW
  have hT := ht.below hbW
  have f1 := fun V (hb : Below W.heap.size W V) => Put_any a1 hnm x0 x2 hb0 hb2 e0 e2 A0 A2 n0 c0 n2 c2 V (hx.below hb) (hy.below hb) (hT.below hb)
  have f2 := fun V (hb : Below W.heap.size W V) => copy_any x0 e0 A0 n0 c0 V hb0 (hx.below hb)
  have f3 := fun V (hb : Below W.heap.size W V) => refPut_any a1 hnm x0 x2 hb0 hb2 e0 e2 A0 A2 n0 c0 n2 c2 V (hx.below hb) (hy.below hb)
  have f4 := fun V (hb : Below W.heap.size W V) => (refCopy_any x0 e0 A0 n0 c0 V hb0 (hx.below hb)).mono (R' := Made x0 V) fun e w' h => made_of hx h
  obtain ⟨r, hr⟩ : ∃ r, putR a1 x0 x2 = r := ⟨_, rfl⟩
  obtain ⟨z, hz⟩ : ∃ z, putZ a1 x0 x2 = z := ⟨_, rfl⟩
  unfold PutOut at f1 f3
  simp only [hr, hz] at f1 f3
  have C1 := Lib.hid f1
  have C2 := Lib.hid f2
  have C3 := Lib.hid f3
  have C4 := Lib.hid f4
  have HW := Lib.hid hW
  have K0 := Lib.hid k0
  have K1 := Lib.hid k1
  have HB := Lib.hid hbW
  clear f1 f2 f3 f4 hW k0 k1 hbW hx hy hT hr hz his0 his2 ht q0 q1 hb0 hb2 hnm
  go_enter Tryd.func4, Tryd.ntmps4
  go_wp2_with fail
  rw [HW.out]
  refine (C1.out _ (Below.refl _ _)).mono ?_; rintro e w1 ⟨d1, B1, m1, p1, rfl, hi1, hb1⟩
  have l1 := hb1.size
  have z1 := Box.new w1 d1 B1 m1 p1
  have j1 := (hi1.is).below (b_new w1 (.cells #[.int .i64 d1.op, .int .i64 d1.k, .int .i64 d1.n, .string d1.s, .string d1.nm, .slice B1 m1 p1] 26))
  have hbA : Below W.heap.size W (w1.alloc (.cells #[.int .i64 d1.op, .int .i64 d1.k, .int .i64 d1.n, .string d1.s, .string d1.nm, .slice B1 m1 p1] 26)) := b_more hb1 _
  obtain ⟨m0, m1', m2, m3, m4, m5⟩ := (K0.out.below hbA).cells
  have Z1 := Lib.hid z1
  have J1 := Lib.hid j1
  have HBA := Lib.hid hbA
  clear hi1 hb1 z1 j1 hbA l1
  go_wp2_with fail
  refine (C2.out _ HBA.out).mono ?_; rintro e w2 ⟨d2, B2, m2', p2, rfl, hi2, hb2⟩
  have z2 := Box.new w2 d2 B2 m2' p2
  have j2 := (hi2.is).below (b_new w2 (.cells #[.int .i64 d2.op, .int .i64 d2.k, .int .i64 d2.n, .string d2.s, .string d2.nm, .slice B2 m2' p2] 26))
  have hb2n : Below (w1.alloc (.cells #[.int .i64 d1.op, .int .i64 d1.k, .int .i64 d1.n, .string d1.s, .string d1.nm, .slice B1 m1 p1] 26)).heap.size (w1.alloc (.cells #[.int .i64 d1.op, .int .i64 d1.k, .int .i64 d1.n, .string d1.s, .string d1.nm, .slice B1 m1 p1] 26)) (w2.alloc (.cells #[.int .i64 d2.op, .int .i64 d2.k, .int .i64 d2.n, .string d2.s, .string d2.nm, .slice B2 m2' p2] 26)) := b_more hb2 _
  have hbB := b_trans HBA.out hb2n
  have z1 := Z1.out.below hb2n
  have j1 := J1.out.below hb2n
  clear m0 m1' m2 m3 m4 m5
  obtain ⟨m0, m1', m2, m3, m4, m5⟩ := (K0.out.below hbB).cells
  obtain ⟨y0, y1, y2, y3, y4, y5⟩ := (K1.out.below hbB).cells
  have Z2 := Lib.hid z2
  have J2 := Lib.hid j2
  have HBB := Lib.hid hbB
  clear Z1 J1 HBA
  have Z1 := Lib.hid z1
  have J1 := Lib.hid j1
  clear hi2 hb2 hb2n z1 z2 j1 j2 hbB
  go_wp2_with fail
  refine (C3.out _ HBB.out).mono ?_; rintro e w3 ⟨d3, B3, m3', p3, rfl, hi3, hb3⟩
  have z3 := Box.new w3 d3 B3 m3' p3
  have j3 := (hi3.is).below (b_new w3 (.cells #[.int .i64 d3.op, .int .i64 d3.k, .int .i64 d3.n, .string d3.s, .string d3.nm, .slice B3 m3' p3] 26))
  have hb3n : Below (w2.alloc (.cells #[.int .i64 d2.op, .int .i64 d2.k, .int .i64 d2.n, .string d2.s, .string d2.nm, .slice B2 m2' p2] 26)).heap.size (w2.alloc (.cells #[.int .i64 d2.op, .int .i64 d2.k, .int .i64 d2.n, .string d2.s, .string d2.nm, .slice B2 m2' p2] 26)) (w3.alloc (.cells #[.int .i64 d3.op, .int .i64 d3.k, .int .i64 d3.n, .string d3.s, .string d3.nm, .slice B3 m3' p3] 26)) := b_more hb3 _
  have hbC := b_trans HBB.out hb3n
  have z1 := Z1.out.below hb3n
  have j1 := J1.out.below hb3n
  have z2 := Z2.out.below hb3n
  have j2 := J2.out.below hb3n
  clear m0 m1' m2 m3 m4 m5 y0 y1 y2 y3 y4 y5
  obtain ⟨m0, m1', m2, m3, m4, m5⟩ := (K0.out.below hbC).cells
  clear Z1 J1 Z2 J2 HBB
  have Z1 := Lib.hid z1
  have J1 := Lib.hid j1
  have Z2 := Lib.hid z2
  have J2 := Lib.hid j2
  have Z3 := Lib.hid z3
  have J3 := Lib.hid j3
  have HBC := Lib.hid hbC
  clear hi3 hb3 hb3n z1 z2 z3 j1 j2 j3 hbC
  go_wp2_with fail
  refine (C4.out _ HBC.out).mono ?_; rintro e w4 ⟨d4, B4, m4', p4, rfl, hi4, hb4⟩
  have z4 := Box.new w4 d4 B4 m4' p4
  have j4 := (hi4.is).below (b_new w4 (.cells #[.int .i64 d4.op, .int .i64 d4.k, .int .i64 d4.n, .string d4.s, .string d4.nm, .slice B4 m4' p4] 26))
  have hb4n : Below (w3.alloc (.cells #[.int .i64 d3.op, .int .i64 d3.k, .int .i64 d3.n, .string d3.s, .string d3.nm, .slice B3 m3' p3] 26)).heap.size (w3.alloc (.cells #[.int .i64 d3.op, .int .i64 d3.k, .int .i64 d3.n, .string d3.s, .string d3.nm, .slice B3 m3' p3] 26)) (w4.alloc (.cells #[.int .i64 d4.op, .int .i64 d4.k, .int .i64 d4.n, .string d4.s, .string d4.nm, .slice B4 m4' p4] 26)) := b_more hb4 _
  have hbD := b_trans HBC.out hb4n
  have z1 := Z1.out.below hb4n
  have j1 := J1.out.below hb4n
  have z2 := Z2.out.below hb4n
  have j2 := J2.out.below hb4n
  have z3 := Z3.out.below hb4n
  have j3 := J3.out.below hb4n
  obtain rfl : d1 = d3 := (ExS.is_d j1).trans (ExS.is_d j3).symm
  obtain rfl : d2 = d4 := (ExS.is_d j2).trans (ExS.is_d j4).symm
  have f5 := fun V (hb : Below (w4.alloc (.cells #[.int .i64 d2.op, .int .i64 d2.k, .int .i64 d2.n, .string d2.s, .string d2.nm, .slice B4 m4' p4] 26)).heap.size (w4.alloc (.cells #[.int .i64 d2.op, .int .i64 d2.k, .int .i64 d2.n, .string d2.s, .string d2.nm, .slice B4 m4' p4] 26)) V) => ExS.lawSame_any z d1 B1 B3 m1 m3' p1 p3 V (j1.below hb) (j3.below hb)
  have f6 := fun V (hb : Below (w4.alloc (.cells #[.int .i64 d2.op, .int .i64 d2.k, .int .i64 d2.n, .string d2.s, .string d2.nm, .slice B4 m4' p4] 26)).heap.size (w4.alloc (.cells #[.int .i64 d2.op, .int .i64 d2.k, .int .i64 d2.n, .string d2.s, .string d2.nm, .slice B4 m4' p4] 26)) V) => ExS.lawSame_any x0 d2 B2 B4 m2' m4' p2 p4 V (j2.below hb) (j4.below hb)
  have C5 := Lib.hid f5
  have C6 := Lib.hid f6
  clear m0 m1' m2 m3 m4 m5
  obtain ⟨a0, a1', a2, a3, a4, a5⟩ := z1.cells
  obtain ⟨b0, b1, b2, b3, b4, b5⟩ := z3.cells
  have Z2 := Lib.hid z2
  have Z4 := Lib.hid z4
  have HBD := Lib.hid hbD
  clear f5 f6 Z1 Z3 J1 J2 J3 HBC hi4 hb4 hb4n z1 z2 z3 z4 j1 j2 j3 j4 hbD
  go_wp2_with fail
  refine (C5.out _ (Below.refl _ _)).mono ?_; rintro e w5 ⟨rfl, hb5⟩
  obtain ⟨a0', a1'', a2', a3', a4', a5'⟩ := (Z2.out.below hb5).cells
  obtain ⟨b0', b1', b2', b3', b4', b5'⟩ := (Z4.out.below hb5).cells
  have HB5 := Lib.hid hb5
  clear hb5 a0 a1' a2 a3 a4 a5 b0 b1 b2 b3 b4 b5
  go_wp2_with fail
  refine (C6.out _ HB5.out).mono ?_; rintro e w6 ⟨rfl, hb6⟩
  have HB6 := Lib.hid hb6
  clear hb6 a0' a1'' a2' a3' a4' a5' b0' b1' b2' b3' b4' b5'
  go_wp2_with fail
  go_ret
  exact ⟨by simp, HB.out.trans ((b_trans (b_trans HBD.out HB5.out) HB6.out).mono HB.out.size)⟩

theorem not_of {W : World} (h : laidMetH Tryd.prog Rows.namesPutsUptoRow.laid W) : ExN.Tab W := by
  have h0 : laidMet Tryd.prog Rows.namesPutsUptoRow.laid W := by rw [MakeChecks.laidMetH_plain _ _ _ (by kernel_rfl)] at h; exact h
  have h1 := h0
  exact NotTab.is_of_head (g := 0) (t := 88) (e := 87) (n := 19) (by kernel_rfl) (by kernel_rfl) Tryd.underlying88 (by kernel_rfl) Tryd.underlying87 (by kernel_rfl) rfl rfl rfl Tryd.underlying9 Tryd.underlying3 Tryd.underlying3 (by kernel_rfl) (by kernel_rfl) (by kernel_rfl) h1

/-! ### The row's step -/
set_option maxRecDepth 100000 in
theorem reads (os : Os) {H : Type} (enc : TypeId × Value → H) : ∃ places, DataW.whole enc Tryd.prog ((World.laidAll Tryd.prog os Rows.namesPutsUptoRow.laid).forCall (fun _ _ => 0) ⟨#[], #[.agg #[.int .i64 0, .int .i64 0, .int .i64 0, .string ⟨#[]⟩, .string ⟨#[]⟩, .slice none 0 0], .string ⟨#[]⟩, .agg #[.int .i64 0, .int .i64 0, .int .i64 0, .string ⟨#[]⟩, .string ⟨#[]⟩, .slice none 0 0]], []⟩).memory Tryd.f4.params.toList Rows.namesPutsSpec.vars false #[.agg #[.int .i64 0, .int .i64 0, .int .i64 0, .string ⟨#[]⟩, .string ⟨#[]⟩, .slice none 0 0], .string ⟨#[]⟩, .agg #[.int .i64 0, .int .i64 0, .int .i64 0, .string ⟨#[]⟩, .string ⟨#[]⟩, .slice none 0 0]].toList 8 = some ([.agg [.lit (.int .i64 0), .agg [.lit (.int .i64 0), .lit (.int .i64 0), .lit (.string [])], .lit (.string []), .nil], .lit (.string []), .agg [.lit (.int .i64 0), .agg [.lit (.int .i64 0), .lit (.int .i64 0), .lit (.string [])], .lit (.string []), .nil]], [], places) := ⟨[], by kernel_rfl⟩
set_option maxRecDepth 100000 in
theorem lifted (os : Os) (started : os.Started) (H : Type) (enc : TypeId × Value → H) (F : Stop.Interp) :
    ReturnsInHanded {} Tryd.checked os 4 .any ((Rows.OpenSpec.upto Rows.namesPutsSpec).preRow enc Tryd.prog Tryd.f4 Rows.namesPutsUptoRow.domain false Rows.namesPutsUptoRow.laid) (((Rows.OpenSpec.upto Rows.namesPutsSpec).at F).post enc Tryd.prog Tryd.f4 false true false false) := by
  obtain ⟨places, hx⟩ := reads os enc
  refine returnsInHanded_of_row (C := Tryd.checked) (s := Rows.OpenSpec.upto Rows.namesPutsSpec) own started (by kernel_rfl) Tryd.func4
    (witness_row_at (enc := enc) (C := Tryd.checked) false (World.laidAll Tryd.prog os Rows.namesPutsUptoRow.laid) #[.agg #[.int .i64 0, .int .i64 0, .int .i64 0, .string ⟨#[]⟩, .string ⟨#[]⟩, .slice none 0 0], .string ⟨#[]⟩, .agg #[.int .i64 0, .int .i64 0, .int .i64 0, .string ⟨#[]⟩, .string ⟨#[]⟩, .slice none 0 0]] (World.laidAll_os _ _ _) (by kernel_rfl) (by kernel_rfl) (by kernel_rfl)
      (OpenSpec.preRow_of_cond 8 hx (by kernel_rfl) (fun k hk => by cases hk; kernel_rfl) (by kernel_rfl) (by rw [MakeChecks.laidMetH_plain _ _ _ (by kernel_rfl)]; exact laidMet_laidAll _ (by kernel_rfl) (by kernel_rfl)))) ?_
  intro W base args ds gs before hval0 hW hcnd hcond hsz hL _ _
  have hval : ∀ (j : Nat) t v, Tryd.f4.params[j]? = some t → args[j]? = some v → Value.okWide Tryd.prog W .any base t v := hval0
  have hW' := hW
  obtain ⟨p, q, hA0, hV, rfl, hfz, hnd⟩ := hW
  have hA : DataW.TrodAll enc Tryd.prog W 0 (fun _ => true) true Tryd.f4.params.toList args.toList ds p := hA0
  rw [Tryd.params4] at hA hval
  obtain ⟨v0, vs0, d0, ds0, p0, q0, hargs, rfl, rfl, h0, r0⟩ := trodAll_cons hA
  obtain ⟨v1, vs1, d1, ds1, p1, q1, rfl, rfl, rfl, h1, r1⟩ := trodAll_cons r0
  obtain ⟨v2, vs2, d2, ds2, p2, q2, rfl, rfl, rfl, h2, r2⟩ := trodAll_cons r1
  obtain ⟨rfl, rfl, rfl⟩ := trodAll_nil r2
  obtain rfl : args = #[v0, v1, v2] := by cases args; simp_all
  obtain ⟨rfl, rfl⟩ := trodVars_none hV
  have k0 := h0
  have lt0 : ∀ x ∈ p0, x.block < W.heap.size := by obtain ⟨m, hm⟩ := k0; exact DataW.trod_lt m _ _ _ hm
  obtain ⟨x0, e0, A0, n0, c0, rfl, his0, hb0⟩ := ExO.open_ex (hval 0 26 v0 rfl rfl) h0
  have k1 := h1
  have lt1 : ∀ x ∈ p1, x.block < W.heap.size := by obtain ⟨m, hm⟩ := k1; exact DataW.trod_lt m _ _ _ hm
  obtain ⟨a1, rfl, rfl, rfl, w1⟩ := open_string Tryd.underlying9 (hval 1 9 v1 rfl rfl) h1
  have k2 := h2
  have lt2 : ∀ x ∈ p2, x.block < W.heap.size := by obtain ⟨m, hm⟩ := k2; exact DataW.trod_lt m _ _ _ hm
  obtain ⟨x2, e2, A2, n2, c2, rfl, his2, hb2⟩ := ExO.open_ex (hval 2 26 v2 rfl rfl) h2
  have hk := hcond _ rfl
  have hbk := of_decide_eq_true hk
  simp only [List.append_nil, Rows.uptoBulkAll] at hbk
  rw [Tryd.params4] at hsz
  have rb1 : a1.size ≤ 140737488351232 := by
    have h1 := sized_string hsz (j := 1) (t := 9) rfl rfl
    have h2 : reachBytes = 140737488351232 := by decide
    have e1 : a1.size = a1.data.size := rfl
    have e2 : a1.data.toList.length = a1.data.size := Array.length_toList
    omega
  clear hA0 hval0
  refine (walk x0 e0 A0 n0 c0 a1 x2 e2 A2 n2 c2 w1 W his0 (by omega) his2 (by omega) (not_of hL) rb1).mono fun e W' ⟨he, bel⟩ => ?_
  subst he
  exact ⟨_, rfl, _, _, _, [], _, [], hW', trodAll_mk1 (shut_bool Tryd.underlying4 _), (trodAll_cons_mk (Below.trod laidOut (by kernel_rfl) (of_decide_eq_true (by kernel_rfl)) k0 bel lt0) (trodAll_cons_mk (Below.trod laidOut (by kernel_rfl) (of_decide_eq_true (by kernel_rfl)) k1 bel lt1) (trodAll_cons_mk (Below.trod laidOut (by kernel_rfl) (of_decide_eq_true (by kernel_rfl)) k2 bel lt2) trodAll_mk0))), rfl, bel.frame _, fun h => by cases h⟩

theorem over : Rows.NamesPutsUptoSaid :=
  OpenClaim.holds_of_cond 4 Tryd.f4 rfl rfl rfl rfl rfl rfl rfl ⟨rfl, rfl, rfl, rfl, rfl⟩ rfl rfl rfl rfl rfl (by kernel_rfl) Tryd.func4 (by kernel_rfl)
    (of_decide_eq_true (by kernel_rfl)) (by unfold Func.isWrapper; first | (rw [if_pos (by decide +kernel)]; kernel_rfl) | (rw [if_neg (by decide +kernel)]; exact ⟨rfl, rfl⟩))
    (fun os started H enc _ F => by rw [OpenClaim.pre_eq_preRow]; exact lifted os started H enc F)

/-- The tied card. -/
theorem proved : Rows.NamesPutsUptoCardSaid :=
  Claim7.holds_tied_plain_at .later [] [.data] true (true, "887a223315835e23b5a2630090f113ffe25d5ccc31492941d6ecbc9d83265101") false
    over (fun _ h => by cases h) (by kernel_rfl) (fun _ h => by cases h) namesPutsUpto_row_tie rfl ⟨rfl, rfl⟩ (by kernel_rfl) rfl
    (fun f fn hf hfn => by
      obtain rfl : f = 4 := Option.some.inj ((show Tryd.prog.funcNamed "lychway/lychwaylaw.NamesPuts" = some 4 by kernel_rfl).symm.trans hf) |>.symm
      obtain rfl : fn = Tryd.f4 := (Option.some.inj (Tryd.func4.symm.trans hfn)).symm
      exact ⟨by kernel_rfl, fun j t ht => by
        rw [Tryd.params4] at ht
        have hm : t ∈ [26, 9, 26] := by simpa using Array.mem_of_getElem? ht
        have hall : ([26, 9, 26].all fun u => !Tryd.prog.wantsStandIn u) = true := by kernel_rfl
        exact (show Tryd.prog.wantsStandIn t = false by simpa using List.all_eq_true.1 hall t hm)⟩)
    (by kernel_rfl)
#print axioms proved
end Go.Proofs.YtlceojdnmoekcaaDoor.namesPuts
