/- What is proved: the Go law lychwaykeep.ExprSized returns true for all its arguments, and leaves them as they were. No condition. -/
import Derived.Test.YtmcggbloangpaaaDoorRows
import Derived.Test.YtmcggbloangpaaaDoorExCheck
import Derived.Test.YtmcggbloangpaaaDoorGenTop
import Derived.Test.YtmcggbloangpaaaDoorRawOpen
import Derived.Test.YtmcggbloangpaaaDoorKit
import Derived.WalkKit
import Derived.ProofKit
import Derived.OpenShut
import Derived.Deep.RegionHeld3
import Derived.Deep.DrawnRows
import Derived.Deep.DeepCutAuto
import Derived.Deep.QuietTactic
import Derived.BigQuiet
import Derived.WalkSpells
import Derived.WalkLawsBesides
import Derived.Lib.Hide
import Derived.Outline
import Derived.ShutString
import Derived.ChangeOld
import Derived.Below
import Derived.LaidMore
import Derived.SizedLaws
import Derived.Stop.Joined
import Derived.Stop.LaidErr
import Derived.Lib.LaidTab
import Derived.SevenTiedAt
import Derived.Lay
import Derived.LaidOnce
import Derived.Deep.DeepHandedRow
import Derived.Test.YtmcggbloangpaaaDoorCards
import Derived.Test.YtmcggbloangpaaaDoorTie
namespace Go.Proofs.YtmcggbloangpaaaDoor.exprSized
open ExM Kit ExL ExP ExN ExV RawL RawV Within GenL Gen GenE GenT
open Go.ChangeShapes Go.WideShapes Go.ChangeAt Go.RowKit
open Go.ChangeMaps (open_string shut_string)
set_option linter.unusedVariables false

theorem own : ownKnob Tryd.prog.godebug = none := by kernel_rfl
theorem laidOut : laidOutB Tryd.prog = true := by kernel_rfl


/-! ### The walk -/
set_option maxHeartbeats 2000000 in
set_option maxRecDepth 100000 in
theorem walk (A0 : Option Addr) (n0 : Nat) (c0 : Nat) (a1 : Int) (w1 : (Lit.int .i64 a1).wf = true) (w : World) (hraw0 : RawL.Raws w A0 n0 c0) (ht : ExN.Tab w) :
    Calls Tryd.prog 5 #[.slice A0 n0 c0, .int .i64 a1] w fun e w' => e = .returned (.bool true) ∧ Below w.heap.size w w' := by
  obtain ⟨pk, hpk⟩ : ∃ p, pick a1 3 = p := ⟨_, rfl⟩
  have hpb := pick_bd a1 3 (by decide)
  have hp := fun W => picked_any a1 3 W w1 (by decide) (by decide)
  rw [hpk] at hp hpb
  obtain ⟨pb0, pb1⟩ := hpb
  have HP := Lib.hid hp
  have HT := Lib.hid ht
  have HR := Lib.hid hraw0
  clear hp hpk ht hraw0 w1
  have hmk : ∀ W FA fc, Raws W A0 n0 c0 → Flds W FA someF → Calls Tryd.prog 12 #[.slice A0 n0 c0, .int .i64 (1 + pk), .slice FA 5 fc] W (ExprOut someF (1 + pk) W) := fun W FA fc hr hf => make_any n0 c0 fc A0 FA someF (1 + pk) W hr hf (by decide) someF_sz
  have HMk := Lib.hid hmk
  clear hmk
  go_enter Tryd.func5, Tryd.ntmps5
  go_wp2_with fail
  refine (HP.out _).mono ?_; rintro e w9 ⟨rfl, rfl⟩
  go_wp2_with fail
  refine (some_any _).mono ?_; rintro e w1 ⟨⟨FA, fc, rfl, hfl⟩, hb1⟩
  have hr1 : Raws w1 A0 n0 c0 := HR.out.keep fun p v0 v1 v2 h0 h2 => hb1.block _ (cell_lt' h0)
  have HC := Lib.hid (HMk.out w1 FA fc hr1 hfl)
  have HB1 := Lib.hid hb1
  clear hr1 hfl hb1
  go_wp2_with fail
  refine HC.out.mono ?_; rintro e w2 ⟨x, d, B, m, cp, rfl, hx, hisx, hb2⟩
  obtain ⟨hck, hx40, hxd, hxo⟩ := gn_check someF_nm hx
  have his := hisx.is
  clear hx hisx HC hxo
  obtain ⟨dx, l⟩ := x
  have his0 := his
  rw [is_mk] at his
  obtain ⟨rfl, rfl, ⟨hm, _⟩, his⟩ := his
  have hlen := len_nodesL l
  rw [nodes_mk] at hx40
  have hdn := depth_le_nodes (Ex.mk d l)
  rw [depth_mk, nodes_mk] at hdn
  obtain ⟨N, hN⟩ : ∃ N, nodesL l = N := ⟨_, rfl⟩
  obtain ⟨D, hD⟩ : ∃ D, depthL l = D := ⟨_, rfl⟩
  rw [hN] at hlen hx40 hdn
  rw [hD] at hdn
  obtain ⟨W, hW⟩ : ∃ W, w2.alloc (.cells #[.int .i64 d.op, .int .i64 d.k, .int .i64 d.n, .string d.s, .string d.nm, .slice B l.length cp] 26) = W := ⟨_, rfl⟩
  have hbw2 : Below w.heap.size w w2 := HB1.out.trans (hb2.mono HB1.out.size)
  have hbW : Below w.heap.size w W := by rw [← hW]; exact hbw2.trans ((b_new w2 _).mono hbw2.size)
  have hisW : Is W (.mk d l) d B l.length := by rw [← hW]; exact his0.alloc _
  have hTW : Tab W := HT.out.below hbW
  have k1 : Box W w2.heap.size d B l.length cp := by rw [← hW]; exact Box.new w2 d B l.length cp
  have c1 := fun V (hb : Below W.heap.size W V) => size_any (.mk d l) d B l.length cp V (by rw [nodes_mk, hN]; omega) (hisW.below hb)
  have c2 := fun V (hb : Below W.heap.size W V) => ExC.check_any (.mk d l) d B l.length cp V (hisW.below hb) (hTW.below hb)
  have c3 := fun V (hb : Below W.heap.size W V) => ExC.check_any (.mk ⟨0, 0, 0, ⟨#[]⟩, ⟨#[]⟩⟩ []) ⟨0, 0, 0, ⟨#[]⟩, ⟨#[]⟩⟩ none 0 0 V (is_mk.2 ⟨rfl, rfl, ⟨Nat.zero_le _, Nat.zero_le _, Nat.zero_le _⟩, fun j hj => absurd hj (by simp)⟩) (hTW.below hb)
  have e3 : (Ex.mk ⟨0, 0, 0, ⟨#[]⟩, ⟨#[]⟩⟩ []).checkE = 2 := by
    unfold Ex.checkE
    rw [nodes_mk, depth_mk, nodesL_nil, depthL_nil, if_neg (by decide), if_neg (by decide), firstE_mk]; rfl
  rw [e3] at c3
  rw [hck] at c2
  have e1 : ((Ex.mk d l).nodes : Int) = ((1 + N : Nat) : Int) := by rw [nodes_mk, hN]
  have e2 : ((Ex.mk d l).depth : Int) = ((D + 1 : Nat) : Int) := by rw [depth_mk, hD]
  rw [e1, e2] at c1
  have hargs : ∀ V, Below W.heap.size W V → ∀ (j : Nat) (h : j < l.length), ∃ a d B n c, B = B ∧ (some a : Option Addr) = some a ∧ At V (a.add (j * 6)) d B n c ∧ Is V l[j] d B n := fun V hb j hj => by
    rw [is_mk] at hisW
    obtain ⟨a, d2, B2, m2, c2, _, hat, hi⟩ := (hisW.2.2.2 j hj)
    exact ⟨a, d2, B2, m2, c2, rfl, rfl, hat.below hb, hi.below hb⟩
  rw [is_mk] at hisW
  have C1 := Lib.hid c1
  have C2 := Lib.hid c2
  have C3 := Lib.hid c3
  have HN := Lib.hid hN
  have HD := Lib.hid hD
  have HW := Lib.hid hW
  have HBW := Lib.hid hbW
  have HS := Lib.hid hisW.2.2.2
  have K1 := Lib.hid k1
  clear c1 c2 c3 e1 e2 e3 hN hD hW hbW hisW hTW k1 his his0 hck hb2 hbw2 hargs hxd
  unfold maxLen at hm
  go_wp2_with fail
  rw [HW.out]
  refine (C1.out _ (Below.refl _ _)).mono ?_; rintro e w3 ⟨rfl, hb3⟩
  obtain ⟨m0, m1, m2, m3, m4, m5⟩ := (K1.out.below hb3).cells
  have HB3 := Lib.hid hb3
  clear hb3
  go_wp2_with fail
  go_loopw [8, 9, 28] (fun cnt dp i wr => ∃ (k p q : Nat), i = .int .i64 k ∧ k ≤ l.length ∧ Below W.heap.size W wr ∧ cnt = .int .i64 (p : Int) ∧ dp = .int .i64 (q : Int) ∧ p = 1 + nodesL (l.take k) ∧ q = depthL (l.take k)) (fun _ _ i _ => l.length - (intOf i).toNat)
  case atStart => exact ⟨0, 1, 0, rfl, Nat.zero_le _, HB3.out, rfl, rfl, by simp [nodesL_nil], by simp [depthL_nil]⟩
  case round =>
    obtain ⟨k, p, q, rfl, hk, hb, rfl, rfl, hp, hq⟩ := hrel
    have hpb : p ≤ 1 + N := by rw [hp, ← HN.out]; have := nodesL_take l k; omega
    have hqb : q ≤ D := by rw [hq, ← HD.out]; exact depthL_take l k
    have HPp := Lib.hid hp
    have HQ := Lib.hid hq
    clear hp hq m0 m1 m2 m3 m4 m5
    by_cases hlt : k < l.length
    · obtain ⟨a, d2, B2, m2, c2, rfl, hat, hi⟩ := HS.out k hlt
      obtain ⟨h0, h1, h2, h3, h4, h5⟩ := hat.below hb
      have hi2 := (hi.below hb).alloc (.cells #[.int .i64 d2.op, .int .i64 d2.k, .int .i64 d2.n, .string d2.s, .string d2.nm, .slice B2 m2 c2] 26)
      have hxn : l[k].nodes ≤ N := by rw [← HN.out]; exact nodes_mem (List.getElem_mem _)
      obtain ⟨s, hs⟩ : ∃ s, l[k].nodes = s := ⟨_, rfl⟩
      obtain ⟨t, ht⟩ : ∃ t, l[k].depth = t := ⟨_, rfl⟩
      have hp2 : p + s = 1 + nodesL (l.take (k + 1)) := by rw [nodesL_at l k hlt, HPp.out, hs]; omega
      have hq2 : max q t = depthL (l.take (k + 1)) := by rw [depthL_at l k hlt, HQ.out, ht]
      have hpb2 : p + s ≤ 1 + N := by rw [hp2, ← HN.out]; have := nodesL_take l (k + 1); omega
      have hc := size_any l[k] d2 B2 m2 c2 _ (by omega) hi2
      rw [hs, ht] at hc
      rw [hs] at hxn
      have HC := Lib.hid hc
      have HP2 := Lib.hid hp2
      have HQ2 := Lib.hid hq2
      have HB := Lib.hid hb
      clear hc hp2 hq2 hs ht hi hi2 hat hb
      go_wp2_with fail
      refine HC.out.mono ?_; rintro e w4 ⟨rfl, hb2⟩
      have hb3 : Below W.heap.size W w4 := HB.out.trans ((b_then hb2).mono HB.out.size)
      have HB3 := Lib.hid hb3
      clear hb2 hb3
      go_wp2_with fail
      go_roundw
      case rel => exact ⟨k + 1, p + s, max q t, by go_num, by omega, HB3.out, by go_num, int_max q t, HP2.out, HQ2.out⟩
      case measure => simp [intOf]; omega
    · have hkl : k = l.length := by omega
      have hp2 : p = 1 + N := by rw [HPp.out, hkl, List.take_length, HN.out]
      have hq2 : q = D := by rw [HQ.out, hkl, List.take_length, HD.out]
      clear HPp HQ hkl
      subst hp2 hq2
      obtain ⟨m0, m1, m2, m3, m4, m5⟩ := (K1.out.below hb).cells
      have HB := Lib.hid hb
      clear hb
      go_wp2_with fail
      refine (C2.out _ HB.out).mono ?_; rintro e w4 ⟨rfl, hb4⟩
      have hb5 := HB.out.trans (hb4.mono HB.out.size)
      have HB5 := Lib.hid hb5
      clear hb4 hb5
      go_wp2_with fail
      refine (C3.out _ HB5.out).mono ?_; rintro e w5 ⟨rfl, hb6⟩
      go_wp2_with fail
      go_ret
      exact ⟨by simp, HBW.out.trans ((HB5.out.trans (hb6.mono HB5.out.size)).mono HBW.out.size)⟩

theorem not_of {W : World} (h : laidMetH Tryd.prog Rows.exprSizedRow.laid W) : ExN.Tab W := by
  have h0 : laidMet Tryd.prog Rows.exprSizedRow.laid W := by rw [MakeChecks.laidMetH_plain _ _ _ (by kernel_rfl)] at h; exact h
  have h1 := h0
  exact NotTab.is_of_head (g := 0) (t := 53) (e := 52) (n := 19) (by kernel_rfl) (by kernel_rfl) Tryd.underlying53 (by kernel_rfl) Tryd.underlying52 (by kernel_rfl) rfl rfl rfl Tryd.underlying9 Tryd.underlying3 Tryd.underlying3 (by kernel_rfl) (by kernel_rfl) (by kernel_rfl) h1

/-! ### The row's step -/
set_option maxRecDepth 100000 in
theorem lifted (os : Os) (started : os.Started) (H : Type) (enc : TypeId × Value → H) :
    ReturnsInHanded {} Tryd.checked os 5 .any (fun w args => (Rows.exprSizedSpec.pre enc Tryd.prog Tryd.f5 [] false w args ∧ laidMetH Tryd.prog Rows.exprSizedRow.laid w) ∧ sizedMet enc Tryd.prog Tryd.f5 (OpenSpec.ofChange Rows.exprSizedSpec) false w args) (Rows.exprSizedSpec.post enc Tryd.prog Tryd.f5 false true false false) := by
  refine returnsInHanded_of_change_and (C := Tryd.checked) (X := fun w _ => laidMetH Tryd.prog Rows.exprSizedRow.laid w) (fun _ _ _ hh h => h.of_heap hh) own started (by kernel_rfl) Tryd.func5
    (ChangeSpec.witness_shaped (enc := enc) (C := Tryd.checked) (os := os) (X := fun w _ => laidMetH Tryd.prog Rows.exprSizedRow.laid w) false (World.laidAll Tryd.prog os Rows.exprSizedRow.laid) #[.slice none 0 0, .int .i64 0] 8 (World.laidAll_os _ _ _) (World.shaped_of_ZipB (by kernel_rfl) (by kernel_rfl)) (by kernel_rfl) (by kernel_rfl) (by kernel_rfl) (by rw [MakeChecks.laidMetH_plain _ _ _ (by kernel_rfl)]; exact laidMet_laidAll _ (by kernel_rfl) (by kernel_rfl))) ?_
  intro W base args ds gs before hval0 hW hcnd hsz hL _
  have hval : ∀ (j : Nat) t v, Tryd.f5.params[j]? = some t → args[j]? = some v → Value.okWide Tryd.prog W .any base t v := hval0
  have hW' := hW
  obtain ⟨p, q, hA0, hV, rfl, hfz, hnd⟩ := hW
  have hA : DataW.TrodAll enc Tryd.prog W 0 (fun _ => true) true Tryd.f5.params.toList args.toList ds p := hA0
  rw [Tryd.params5] at hA hval
  obtain ⟨v0, vs0, d0, ds0, p0, q0, hargs, rfl, rfl, h0, r0⟩ := trodAll_cons hA
  obtain ⟨v1, vs1, d1, ds1, p1, q1, rfl, rfl, rfl, h1, r1⟩ := trodAll_cons r0
  obtain ⟨rfl, rfl, rfl⟩ := trodAll_nil r1
  obtain rfl : args = #[v0, v1] := by cases args; simp_all
  obtain ⟨rfl, rfl⟩ := trodVars_none hV
  have k0 := h0
  have lt0 : ∀ x ∈ p0, x.block < W.heap.size := by obtain ⟨m, hm⟩ := k0; exact DataW.trod_lt m _ _ _ hm
  obtain ⟨A0, n0, c0, rfl, hraw0⟩ := RawO.open_raws (hval 0 34 v0 rfl rfl) h0
  have k1 := h1
  have lt1 : ∀ x ∈ p1, x.block < W.heap.size := by obtain ⟨m, hm⟩ := k1; exact DataW.trod_lt m _ _ _ hm
  obtain ⟨a1, rfl, rfl, rfl, w1⟩ := open_int Tryd.underlying3 (hval 1 3 v1 rfl rfl) h1
  clear hA0 hval0
  refine (walk A0 n0 c0 a1 w1 W hraw0 (not_of hL)).mono fun e W' ⟨he, bel⟩ => ?_
  subst he
  exact ⟨_, rfl, _, _, _, [], _, [], hW', trodAll_mk1 (shut_bool Tryd.underlying4 _), (trodAll_cons_mk (Below.trod laidOut (by kernel_rfl) (of_decide_eq_true (by kernel_rfl)) k0 bel lt0) (trodAll_cons_mk (Below.trod laidOut (by kernel_rfl) (of_decide_eq_true (by kernel_rfl)) k1 bel lt1) trodAll_mk0)), rfl, bel.frame _, fun h => by cases h⟩

theorem over : Rows.exprSizedRow.holds Tryd.pinned (OpenSpec.ofChange Rows.exprSizedSpec) :=
  OpenClaim.holds_of_wide 5 Tryd.f5 rfl rfl rfl rfl rfl rfl rfl ⟨rfl, rfl, rfl, rfl, rfl⟩ rfl rfl rfl rfl rfl (by kernel_rfl) Tryd.func5 (by kernel_rfl)
    (of_decide_eq_true (by kernel_rfl)) (by unfold Func.isWrapper; first | (rw [if_pos (by decide +kernel)]; kernel_rfl) | (rw [if_neg (by decide +kernel)]; exact ⟨rfl, rfl⟩))
    (fun os started H enc _ => lifted os started H enc)

/-- The tied card. -/
theorem proved : Rows.ExprSizedCardSaid :=
  Claim7.holds_tied_plain_at .later [] [.data] true (true, "455443f2290804957c317fc423d910334d6ae5c113b5fd06c029889d9dfaeceb") false
    over (fun _ h => by cases h) (by kernel_rfl) (fun _ h => by cases h) exprSized_row_tie rfl ⟨rfl, rfl⟩ (by kernel_rfl) rfl
    (fun f fn hf hfn => by
      obtain rfl : f = 5 := Option.some.inj ((show Tryd.prog.funcNamed "lychway/lychwaykeep.ExprSized" = some 5 by kernel_rfl).symm.trans hf) |>.symm
      obtain rfl : fn = Tryd.f5 := (Option.some.inj (Tryd.func5.symm.trans hfn)).symm
      exact ⟨by kernel_rfl, fun j t ht => by
        rw [Tryd.params5] at ht
        have hm : t ∈ [34, 3] := by simpa using Array.mem_of_getElem? ht
        have hall : ([34, 3].all fun u => !Tryd.prog.wantsStandIn u) = true := by kernel_rfl
        exact (show Tryd.prog.wantsStandIn t = false by simpa using List.all_eq_true.1 hall t hm)⟩)
    (by kernel_rfl)
#print axioms proved
end Go.Proofs.YtmcggbloangpaaaDoor.exprSized
