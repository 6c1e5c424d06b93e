/- What is proved: the Go law lychwaykeep.ExprBrackets returns true for all its arguments, and leaves them as they were. No condition. -/
import Derived.Test.YtbkbhkgkfolalaaGreatDoorRows
import Derived.Test.YtbkbhkgkfolalaaGreatDoorPbRead
import Derived.Test.YtbkbhkgkfolalaaGreatDoorPrintTop
import Derived.Test.YtbkbhkgkfolalaaGreatDoorNmGen
import Derived.Test.YtbkbhkgkfolalaaGreatDoorGenTop
import Derived.Test.YtbkbhkgkfolalaaGreatDoorRawOpen
import Derived.Test.YtbkbhkgkfolalaaGreatDoorKit
import Derived.WalkKit
import Derived.ProofKit
import Derived.OpenShut
import Derived.Deep.RegionHeld3
import Derived.Deep.DrawnRows
import Derived.Deep.DeepCutAuto
import Derived.Deep.QuietTactic
import Derived.BigQuiet
import Derived.WalkSpells
import Derived.WalkLawsBesides
import Derived.Lib.Hide
import Derived.Outline
import Derived.ShutString
import Derived.ChangeOld
import Derived.Below
import Derived.LaidMore
import Derived.SizedLaws
import Derived.Stop.Joined
import Derived.Stop.LaidErr
import Derived.Lib.LaidTab
import Derived.SevenTiedAt
import Derived.Lay
import Derived.LaidOnce
import Derived.Deep.DeepHandedRow
import Derived.Test.YtbkbhkgkfolalaaGreatDoorCards
import Derived.Test.YtbkbhkgkfolalaaGreatDoorTie
namespace Go.Proofs.YtbkbhkgkfolalaaGreatDoor.exprBrackets
open ExM PrM Kit ExL ExP ExN ExV RawL RawV Within GenL Gen GenE GenT PbR
open Go.ChangeShapes Go.WideShapes Go.ChangeAt Go.RowKit
open Go.ChangeMaps (open_string shut_string)
set_option linter.unusedVariables false

theorem own : ownKnob Tryz.prog.godebug = none := by kernel_rfl
theorem laidOut : laidOutB Tryz.prog = true := by kernel_rfl


/-! ### The walk -/
set_option maxHeartbeats 4000000 in
set_option maxRecDepth 100000 in
theorem walk (A0 : Option Addr) (n0 : Nat) (c0 : Nat) (a1 : Int) (w1 : (Lit.int .i64 a1).wf = true) (w : World) (hraw0 : RawL.Raws w A0 n0 c0) (ht : ExN.Tab w) (hp : Show.Pow w) (hErrRange : ∃ p, w.var? Tryz.prog "strconv.ErrRange" = some #[.iface 166 p]) (hErrSyntax : ∃ p, w.var? Tryz.prog "strconv.ErrSyntax" = some #[.iface 166 p]) (t_signs : StrTab.Is Tryz.prog w "lychway/lex.signs" [[60, 61], [33, 61], [60], [61], [43], [45], [42], [47], [37], [38], [40], [41], [44]]) :
    Calls Tryz.prog 5 #[.slice A0 n0 c0, .int .i64 a1] w fun e w' => e = .returned (.bool true) ∧ Below w.heap.size w w' := by
  obtain ⟨pk, hpk⟩ : ∃ p, pick a1 3 = p := ⟨_, rfl⟩
  have hpb := pick_bd a1 3 (by decide)
  have hpi := fun W => picked_any a1 3 W w1 (by decide) (by decide)
  rw [hpk] at hpi hpb
  obtain ⟨pb0, pb1⟩ := hpb
  have HP := Lib.hid hpi
  have hvp : Parse.Vars w := ⟨hp, hErrSyntax, hErrRange⟩
  have hvl : LexT.Vars w := ⟨hErrSyntax, hErrRange, t_signs⟩
  have hvr : Prn.Vars w := ⟨ht, hp⟩
  have HV := Lib.hid (And.intro hvr (And.intro hvl (And.intro hvp ht)))
  have HR := Lib.hid hraw0
  clear hpi hpk ht hraw0 w1 hp hErrSyntax hErrRange t_signs hvp hvl hvr
  have hmk : ∀ W FA fc, Raws W A0 n0 c0 → Flds W FA someF → Calls Tryz.prog 6 #[.slice A0 n0 c0, .int .i64 (1 + pk), .slice FA 5 fc] W (ExprOut someF (1 + pk) W) := fun W FA fc hr hf => make_any n0 c0 fc A0 FA someF (1 + pk) W hr hf (by decide) someF_sz
  have HMk := Lib.hid hmk
  clear hmk
  go_enter Tryz.func5, Tryz.ntmps5
  go_wp2_with fail
  refine (HP.out _).mono ?_; rintro e w9 ⟨rfl, rfl⟩
  go_wp2_with fail
  refine (some_any _).mono ?_; rintro e w1 ⟨⟨FA, fc, rfl, hfl⟩, hb1⟩
  have hr1 : Raws w1 A0 n0 c0 := HR.out.keep fun p v0 v1 v2 h0 h2 => hb1.block _ (cell_lt' h0)
  have HC := Lib.hid (HMk.out w1 FA fc hr1 hfl)
  have HB1 := Lib.hid hb1
  clear hr1 hfl hb1
  go_wp2_with fail
  refine HC.out.mono ?_; rintro e w2 ⟨x, d, B, m, cp, rfl, hx, hisx, hb2⟩
  obtain ⟨hck, hx40, hxd, hxo⟩ := gn_check someF_nm hx
  have his := hisx.is
  obtain ⟨W, hW⟩ : ∃ W, w2.alloc (.cells #[.int .i64 d.op, .int .i64 d.k, .int .i64 d.n, .string d.s, .string d.nm, .slice B m cp] 27) = W := ⟨_, rfl⟩
  have hbw2 : Below w.heap.size w w2 := HB1.out.trans (hb2.mono HB1.out.size)
  have hbW : Below w.heap.size w W := by rw [← hW]; exact hbw2.trans ((b_new w2 _).mono hbw2.size)
  have hisW : Is W x d B m := by rw [← hW]; exact his.alloc _
  have k1 : Box W w2.heap.size d B m cp := by rw [← hW]; exact Box.new w2 d B m cp
  have okx := (checkE_zero hck).2.2
  have hne := txt_ne okx
  have hln := txt_len x okx
  have hnx := (checkE_zero hck).1
  obtain ⟨T, hTT⟩ : ∃ T : ByteArray, (⟨(Ex.txt x).toArray⟩ : ByteArray) = T := ⟨_, rfl⟩
  have hTl : T.data.toList = Ex.txt x := by rw [← hTT]
  have hTz : T.size = (Ex.txt x).length := by rw [← ValM.len_size, hTl]
  have c1 := PrT.print_any x d B m cp W hisW (HV.out.1.below hbW)
  rw [hck, if_pos rfl, hTT] at c1
  have s1 := Prn.adds ⟨#[32, 40, 32]⟩ T (by decide) (by omega)
  have s2 := Prn.adds (⟨#[32, 40, 32]⟩ ++ T) ⟨#[32, 41, 32]⟩ (by rw [ByteArray.size_append]; show 3 + T.size ≤ _; omega) (by decide)
  obtain ⟨U, hU⟩ : ∃ U : ByteArray, ⟨#[32, 40, 32]⟩ ++ T ++ ⟨#[32, 41, 32]⟩ = U := ⟨_, rfl⟩
  have hUl : U.data.toList = [32, 40, 32] ++ Ex.txt x ++ [32, 41, 32] := by rw [← hU]; simp [ByteArray.data_append, hTl]
  have hUz : U.size ≤ 140737488351232 := by rw [← hU, ByteArray.size_append, ByteArray.size_append]; show 3 + T.size + 3 ≤ _; omega
  rw [hU] at s2
  have c2 := fun V (hb : Below W.heap.size W V) => PsE.Parse_any U V hUz (HV.out.2.1.below (hbW.trans (hb.mono hbW.size))) (HV.out.2.2.1.below (hbW.trans (hb.mono hbW.size))) (HV.out.2.2.2.below (hbW.trans (hb.mono hbW.size)))
  rw [hUl] at c2
  have hTe : T.toList.isEmpty = false := by rw [ByteArray.toList_eq, hTl]; cases h : Ex.txt x <;> simp_all
  have C1 := Lib.hid c1
  have C2 := Lib.hid c2
  have HW := Lib.hid hW
  have HBW := Lib.hid hbW
  have K1 := Lib.hid k1
  have HI := Lib.hid hisW
  have HF := Lib.hid (And.intro hck hTz)
  clear hx hisx HC hxo hx40 hxd his hbw2 hb2 hW hbW hisW k1 okx hne hln hnx hTT hTl hTz c1 c2 hck hU hUl hUz HP HMk HR HV HB1
  go_wp2_with fail
  rw [HW.out]
  refine C1.out.mono ?_; rintro e w3 ⟨rfl, hb3⟩
  have HB3 := Lib.hid hb3
  clear hb3
  go_wp2_with fail
  refine (C2.out _ HB3.out).mono ?_; rintro e w4 ⟨y, dy, By, my, cy, a, er, rfl, hisy, hpr, hb4⟩
  have hbb := b_trans HB3.out hb4
  have k4 := K1.out.below hbb
  have hx4 := HI.out.below hbb
  have hy4 := hisy.is
  have hpp := pr_brackets HF.out.1 hpr
  rw [← HF.out.2] at hpp
  clear hpr hisy hb4
  obtain ⟨W5, hW5⟩ : ∃ W, w4.alloc (.cells #[.int .i64 dy.op, .int .i64 dy.k, .int .i64 dy.n, .string dy.s, .string dy.nm, .slice By my cy] 27) = W := ⟨_, rfl⟩
  have hb5 : Below w4.heap.size w4 W5 := by rw [← hW5]; exact b_new _ _
  have k5 : Box W5 w4.heap.size dy By my cy := by rw [← hW5]; exact Box.new w4 dy By my cy
  have k45 := k4.below hb5
  have hx5 := hx4.below hb5
  have hy5 := hy4.below hb5
  have hbb5 := Lib.hid (HBW.out.trans ((b_trans hbb hb5).mono HBW.out.size))
  have HW5 := Lib.hid hW5
  have HK4 := Lib.hid k45
  have HK5 := Lib.hid k5
  clear hW5 hb5 k5 k4 k45 hx4 hy4 hbb
  rcases hpp with ⟨hl, rfl⟩ | ⟨hl, rfl, rfl⟩
  · have hl' : (154 : Int) < (T.size : Int) := by omega
    clear hl hx5 hy5
    go_upto_region 4 with fail
    rw [HW5.out]
    obtain ⟨m0, m1, m2, m3, m4, m5⟩ := HK4.out.cells
    obtain ⟨j0, j1, j2, j3, j4, j5⟩ := HK5.out.cells
    go_wp2_with fail
    go_ret
    exact ⟨rfl, hbb5.out⟩
  · have hl' : ¬ (154 : Int) < (T.size : Int) := by omega
    have hd : dy = d := by rw [← Prn.is_d hx5, ← Prn.is_d hy5]
    subst hd
    have hcc := ExS.keepSame_any y dy B By m my cp cy W5 hx5 hy5
    have HCC := Lib.hid hcc
    clear hl hx5 hy5 hcc
    go_upto_region 4 with fail
    rw [HW5.out]
    obtain ⟨m0, m1, m2, m3, m4, m5⟩ := HK4.out.cells
    obtain ⟨j0, j1, j2, j3, j4, j5⟩ := HK5.out.cells
    go_wp2_with fail
    refine HCC.out.mono ?_; rintro e w6 ⟨rfl, hb6⟩
    go_wp2_with fail
    go_ret
    exact ⟨rfl, hbb5.out.trans (hb6.mono hbb5.out.size)⟩

theorem star : "*" ++ "errors.errorString" = "*errors.errorString" := by decide
theorem row_es (u : TypeId) (h : Tryz.prog.typeName? 3 u = some "*errors.errorString") : u = 166 :=
  typeName_ptr_named (nm := "errors.errorString") (by rw [star]; kernel_rfl) (by kernel_rfl) (by decide) u (by rw [star]; exact h)
theorem ErrRange_of {W : World} (h : laidMetH Tryz.prog Rows.exprBracketsRow.laid W) : ∃ p, W.var? Tryz.prog "strconv.ErrRange" = some #[.iface 166 p] := by
  have h0 : laidMet Tryz.prog Rows.exprBracketsRow.laid W := by rw [MakeChecks.laidMetH_plain _ _ _ (by kernel_rfl)] at h; exact h
  obtain ⟨a0, s0, hv0, hc0, hs0, hz0⟩ := laid_sentinel (g := 7) (ti := 90) h0.tail.tail.tail (by kernel_rfl) (by kernel_rfl) Tryz.underlying90 (row_es) Tryz.underlying166 Tryz.underlying168 rfl rfl Tryz.underlying9 (by kernel_rfl) (by kernel_rfl)
  exact ⟨_, hv0⟩

theorem ErrSyntax_of {W : World} (h : laidMetH Tryz.prog Rows.exprBracketsRow.laid W) : ∃ p, W.var? Tryz.prog "strconv.ErrSyntax" = some #[.iface 166 p] := by
  have h0 : laidMet Tryz.prog Rows.exprBracketsRow.laid W := by rw [MakeChecks.laidMetH_plain _ _ _ (by kernel_rfl)] at h; exact h
  obtain ⟨a0, s0, hv0, hc0, hs0, hz0⟩ := laid_sentinel (g := 6) (ti := 90) h0.tail.tail.tail.tail (by kernel_rfl) (by kernel_rfl) Tryz.underlying90 (row_es) Tryz.underlying166 Tryz.underlying168 rfl rfl Tryz.underlying9 (by kernel_rfl) (by kernel_rfl)
  exact ⟨_, hv0⟩

theorem signs_of {W : World} (h : laidMetH Tryz.prog Rows.exprBracketsRow.laid W) : StrTab.Is Tryz.prog W "lychway/lex.signs" [[60, 61], [33, 61], [60], [61], [43], [45], [42], [47], [37], [38], [40], [41], [44]] := by
  have h0 : laidMet Tryz.prog Rows.exprBracketsRow.laid W := by rw [MakeChecks.laidMetH_plain _ _ _ (by kernel_rfl)] at h; exact h
  have h1 := h0.tail.tail.tail.tail.tail
  exact StrTab.is_of_head (g := 1) (t := 118) (e := 9) (n := 13) (by kernel_rfl) (by kernel_rfl) Tryz.underlying118 Tryz.underlying9 (by kernel_rfl) (by kernel_rfl) h1

theorem not_of {W : World} (h : laidMetH Tryz.prog Rows.exprBracketsRow.laid W) : ExN.Tab W := by
  have h0 : laidMet Tryz.prog Rows.exprBracketsRow.laid W := by rw [MakeChecks.laidMetH_plain _ _ _ (by kernel_rfl)] at h; exact h
  have h1 := h0.tail.tail.tail.tail.tail.tail
  exact NotTab.is_of_head (g := 0) (t := 68) (e := 67) (n := 19) (by kernel_rfl) (by kernel_rfl) Tryz.underlying68 (by kernel_rfl) Tryz.underlying67 (by kernel_rfl) rfl rfl rfl Tryz.underlying9 Tryz.underlying3 Tryz.underlying3 (by kernel_rfl) (by kernel_rfl) (by kernel_rfl) h1

theorem pow_of {W : World} (h : laidMetH Tryz.prog Rows.exprBracketsRow.laid W) : Show.Pow W := by
  have h0 : laidMet Tryz.prog Rows.exprBracketsRow.laid W := by rw [MakeChecks.laidMetH_plain _ _ _ (by kernel_rfl)] at h; exact h
  have h1 := h0.tail.tail
  exact Lib.tabIs_of_head (k := .u64) (zs := Lib.pow10Tab) (g := 5) (t := 154) (e := 139) (n := 20) (by kernel_rfl) (by kernel_rfl) Tryz.underlying154 Tryz.underlying139 (by kernel_rfl) (by kernel_rfl) h1

/-! ### The row's step -/
set_option maxRecDepth 100000 in
theorem lifted (os : Os) (started : os.Started) (H : Type) (enc : TypeId × Value → H) :
    ReturnsInHanded {} Tryz.checked os 5 .any (fun w args => (Rows.exprBracketsSpec.pre enc Tryz.prog Tryz.f5 [] false w args ∧ laidMetH Tryz.prog Rows.exprBracketsRow.laid w) ∧ sizedMet enc Tryz.prog Tryz.f5 (OpenSpec.ofChange Rows.exprBracketsSpec) false w args) (Rows.exprBracketsSpec.post enc Tryz.prog Tryz.f5 false true false false) := by
  refine returnsInHanded_of_change_and (C := Tryz.checked) (X := fun w _ => laidMetH Tryz.prog Rows.exprBracketsRow.laid w) (fun _ _ _ hh h => h.of_heap hh) own started (by kernel_rfl) Tryz.func5
    (ChangeSpec.witness_shaped (enc := enc) (C := Tryz.checked) (os := os) (X := fun w _ => laidMetH Tryz.prog Rows.exprBracketsRow.laid w) false (World.laidAll Tryz.prog os Rows.exprBracketsRow.laid) #[.slice none 0 0, .int .i64 0] 8 (World.laidAll_os _ _ _) (World.shaped_of_ZipB (by kernel_rfl) (by kernel_rfl)) (by kernel_rfl) (by kernel_rfl) (by kernel_rfl) (by rw [MakeChecks.laidMetH_plain _ _ _ (by kernel_rfl)]; exact laidMet_laidAll _ (by kernel_rfl) (by kernel_rfl))) ?_
  intro W base args ds gs before hval0 hW hcnd hsz hL _
  have hval : ∀ (j : Nat) t v, Tryz.f5.params[j]? = some t → args[j]? = some v → Value.okWide Tryz.prog W .any base t v := hval0
  have hW' := hW
  obtain ⟨p, q, hA0, hV, rfl, hfz, hnd⟩ := hW
  have hA : DataW.TrodAll enc Tryz.prog W 0 (fun _ => true) true Tryz.f5.params.toList args.toList ds p := hA0
  rw [Tryz.params5] at hA hval
  obtain ⟨v0, vs0, d0, ds0, p0, q0, hargs, rfl, rfl, h0, r0⟩ := trodAll_cons hA
  obtain ⟨v1, vs1, d1, ds1, p1, q1, rfl, rfl, rfl, h1, r1⟩ := trodAll_cons r0
  obtain ⟨rfl, rfl, rfl⟩ := trodAll_nil r1
  obtain rfl : args = #[v0, v1] := by cases args; simp_all
  obtain ⟨rfl, rfl⟩ := trodVars_none hV
  have k0 := h0
  have lt0 : ∀ x ∈ p0, x.block < W.heap.size := by obtain ⟨m, hm⟩ := k0; exact DataW.trod_lt m _ _ _ hm
  obtain ⟨A0, n0, c0, rfl, hraw0⟩ := RawO.open_raws (hval 0 22 v0 rfl rfl) h0
  have k1 := h1
  have lt1 : ∀ x ∈ p1, x.block < W.heap.size := by obtain ⟨m, hm⟩ := k1; exact DataW.trod_lt m _ _ _ hm
  obtain ⟨a1, rfl, rfl, rfl, w1⟩ := open_int Tryz.underlying3 (hval 1 3 v1 rfl rfl) h1
  clear hA0 hval0
  refine (walk A0 n0 c0 a1 w1 W hraw0 (not_of hL) (pow_of hL) (ErrRange_of hL) (ErrSyntax_of hL) (signs_of hL)).mono fun e W' ⟨he, bel⟩ => ?_
  subst he
  exact ⟨_, rfl, _, _, _, [], _, [], hW', trodAll_mk1 (shut_bool Tryz.underlying4 _), (trodAll_cons_mk (Below.trod laidOut (by kernel_rfl) (of_decide_eq_true (by kernel_rfl)) k0 bel lt0) (trodAll_cons_mk (Below.trod laidOut (by kernel_rfl) (of_decide_eq_true (by kernel_rfl)) k1 bel lt1) trodAll_mk0)), rfl, bel.frame _, fun h => by cases h⟩

theorem over : Rows.exprBracketsRow.holds Tryz.pinned (OpenSpec.ofChange Rows.exprBracketsSpec) :=
  OpenClaim.holds_of_wide 5 Tryz.f5 rfl rfl rfl rfl rfl rfl rfl ⟨rfl, rfl, rfl, rfl, rfl⟩ rfl rfl rfl rfl rfl (by kernel_rfl) Tryz.func5 (by kernel_rfl)
    (of_decide_eq_true (by kernel_rfl)) (by unfold Func.isWrapper; first | (rw [if_pos (by decide +kernel)]; kernel_rfl) | (rw [if_neg (by decide +kernel)]; exact ⟨rfl, rfl⟩))
    (fun os started H enc _ => lifted os started H enc)

/-- The tied card. -/
theorem proved : Rows.ExprBracketsCardSaid :=
  Claim7.holds_tied_plain_at .later [] [.data, .data, .data, .sentinel, .sentinel, .data, .data] true (true, "ec79bf73c7c499c3fbfb50bfc1d5989ddb727e82e1cbe13275d2f5b5ac6f74a6") true
    over (fun _ h => by cases h) (by kernel_rfl) (fun _ h => by cases h) exprBrackets_row_tie rfl ⟨rfl, rfl⟩ (by kernel_rfl) rfl
    (fun f fn hf hfn => by
      obtain rfl : f = 5 := Option.some.inj ((show Tryz.prog.funcNamed "lychway/lychwaykeep.ExprBrackets" = some 5 by kernel_rfl).symm.trans hf) |>.symm
      obtain rfl : fn = Tryz.f5 := (Option.some.inj (Tryz.func5.symm.trans hfn)).symm
      exact ⟨by kernel_rfl, fun j t ht => by
        rw [Tryz.params5] at ht
        have hm : t ∈ [22, 3] := by simpa using Array.mem_of_getElem? ht
        have hall : ([22, 3].all fun u => !Tryz.prog.wantsStandIn u) = true := by kernel_rfl
        exact (show Tryz.prog.wantsStandIn t = false by simpa using List.all_eq_true.1 hall t hm)⟩)
    (by kernel_rfl)
#print axioms proved
end Go.Proofs.YtbkbhkgkfolalaaGreatDoor.exprBrackets
