/- What is proved: the Go law lychwaykeep.ExprTurns returns true for all its arguments, and leaves them as they were. No condition. -/
import Derived.Test.YtbkbhkgkfolalaaGreatDoorRows
import Derived.Test.YtbkbhkgkfolalaaGreatDoorShapedAnd
import Derived.Test.YtbkbhkgkfolalaaGreatDoorPbTurn
import Derived.Test.YtbkbhkgkfolalaaGreatDoorPrintTop
import Derived.Test.YtbkbhkgkfolalaaGreatDoorKit
import Derived.WalkKit
import Derived.ProofKit
import Derived.OpenShut
import Derived.Deep.RegionHeld3
import Derived.Deep.DrawnRows
import Derived.Deep.DeepCutAuto
import Derived.Deep.QuietTactic
import Derived.BigQuiet
import Derived.WalkSpells
import Derived.WalkLawsBesides
import Derived.Lib.Hide
import Derived.Outline
import Derived.ShutString
import Derived.ChangeOld
import Derived.Below
import Derived.LaidMore
import Derived.SizedLaws
import Derived.Stop.Joined
import Derived.Stop.LaidErr
import Derived.Lib.LaidTab
import Derived.SevenTiedAt
import Derived.Lay
import Derived.LaidOnce
import Derived.Deep.DeepHandedRow
import Derived.Test.YtbkbhkgkfolalaaGreatDoorCards
import Derived.Test.YtbkbhkgkfolalaaGreatDoorTie
namespace Go.Proofs.YtbkbhkgkfolalaaGreatDoor.exprTurns
open ExM PrM Kit ExL ExP ExN ExV PbR PbN PbU
open Go.ChangeShapes Go.WideShapes Go.ChangeAt Go.RowKit
open Go.ChangeMaps (open_string shut_string)
set_option linter.unusedVariables false

theorem own : ownKnob Tryz.prog.godebug = none := by kernel_rfl
theorem laidOut : laidOutB Tryz.prog = true := by kernel_rfl


/-! ### The walk -/
set_option maxHeartbeats 4000000 in
set_option maxRecDepth 100000 in
theorem walk (a0 : ByteArray) (w0 : a0.size ≤ maxLen) (w : World) (ht : ExN.Tab w) (hp : Show.Pow w) (hErrRange : ∃ p, w.var? Tryz.prog "strconv.ErrRange" = some #[.iface 166 p]) (hErrSyntax : ∃ p, w.var? Tryz.prog "strconv.ErrSyntax" = some #[.iface 166 p]) (rb0 : a0.size ≤ 140737488351232) (t_signs : StrTab.Is Tryz.prog w "lychway/lex.signs" [[60, 61], [33, 61], [60], [61], [43], [45], [42], [47], [37], [38], [40], [41], [44]]) (hmax : ∃ m, w.cell? ⟨2, 0, none⟩ = some (.int .i64 m)) :
    Calls Tryz.prog 4 #[.string a0] w fun e w' => e = .returned (.bool true) ∧ Below w.heap.size w w' := by
  have hvp : Parse.Vars w := ⟨hp, hErrSyntax, hErrRange⟩
  have hvl : LexT.Vars w := ⟨hErrSyntax, hErrRange, t_signs⟩
  have hvr : Prn.Vars w := ⟨ht, hp⟩
  have HV := Lib.hid (And.intro hvr (And.intro hvl (And.intro hvp ht)))
  have c1 := PsE.Parse_any a0 w rb0 hvl hvp ht
  have C1 := Lib.hid c1
  have HM := Lib.hid hmax
  have hz0 : a0.data.toList.length = a0.size := ValM.len_size a0
  have HZ := Lib.hid hz0
  clear hp ht hErrSyntax hErrRange t_signs hvp hvl hvr c1 hmax hz0
  go_enter Tryz.func4, Tryz.ntmps4
  go_wp2_with fail
  refine C1.out.mono ?_; rintro e w1 ⟨x, d, B, m, cp, a, er, rfl, hisx, hpr, hb1⟩
  have his := hisx.is
  have hcase := pr_any hpr
  rw [HZ.out] at hcase
  obtain ⟨W, hW⟩ : ∃ W, w1.alloc (.cells #[.int .i64 d.op, .int .i64 d.k, .int .i64 d.n, .string d.s, .string d.nm, .slice B m cp] 27) = W := ⟨_, rfl⟩
  have hbW : Below w.heap.size w W := by rw [← hW]; exact hb1.trans ((b_new w1 _).mono hb1.size)
  have hisW : Is W x d B m := by rw [← hW]; exact his.alloc _
  have k1 : Box W w1.heap.size d B m cp := by rw [← hW]; exact Box.new w1 d B m cp
  have c2 := PrT.print_any xa ⟨2, 0, 0, ⟨#[]⟩, ⟨#[97]⟩⟩ none 0 0 W (is_mk.2 ⟨rfl, rfl, ⟨Nat.zero_le _, by decide, by decide⟩, fun j hj => absurd hj (by simp)⟩) (HV.out.1.below hbW)
  rw [xa_ok.1, if_pos rfl, xa_ok.2] at c2
  have C2 := Lib.hid c2
  have HW := Lib.hid hW
  have HBW := Lib.hid hbW
  have K1 := Lib.hid k1
  have HI := Lib.hid hisW
  clear hisx hpr hb1 his hW hbW hisW k1 c2 C1
  go_upto_region 2 with fail
  rw [HW.out]
  go_wp2_with fail
  refine C2.out.mono ?_; rintro e w3 ⟨rfl, hb3⟩
  have k3 := K1.out.below hb3
  have hx3 := HI.out.below hb3
  have hbb3 := HBW.out.trans (hb3.mono HBW.out.size)
  have HB3 := Lib.hid hbb3
  clear hb3 hbb3 K1 HI HBW C2
  obtain ⟨m0, m1, m2, m3, m4, m5⟩ := k3.cells
  rcases hcase with ⟨her, rfl⟩ | ⟨rfl, hck, hle⟩
  · have hd : d = ⟨0, 0, 0, ⟨#[]⟩, ⟨#[]⟩⟩ := by rw [← Prn.is_d hx3]; rfl
    have hm0 : m = 0 := by
      have := hx3
      unfold PsE.x0 at this
      rw [is_mk] at this
      exact this.2.1
    subst hd hm0
    have hcc := ExS.keepSame_any PsE.x0 ⟨0, 0, 0, ⟨#[]⟩, ⟨#[]⟩⟩ B none 0 0 cp 0 w3 hx3 (is_mk.2 ⟨rfl, rfl, ⟨Nat.zero_le _, by decide, by decide⟩, fun j hj => absurd hj (by simp)⟩)
    have HCC := Lib.hid hcc
    clear hx3 hcc k3
    go_wp2_with fail
    refine HCC.out.mono ?_; rintro e w6 ⟨rfl, hb6⟩
    go_wp2_with fail
    go_ret
    exact ⟨rfl, HB3.out.trans (hb6.mono HB3.out.size)⟩
  · have okx := (checkE_zero hck).2.2
    have hln := txt_len x okx
    have hnx := (checkE_zero hck).1
    obtain ⟨T, hTT⟩ : ∃ T : ByteArray, (⟨(Ex.txt x).toArray⟩ : ByteArray) = T := ⟨_, rfl⟩
    have hTl : T.data.toList = Ex.txt x := by rw [← hTT]
    have hTz : T.size = (Ex.txt x).length := by rw [← ValM.len_size, hTl]
    have c3 := PrT.print_any x d B m cp w3 hx3 (HV.out.1.below HB3.out)
    rw [hck, if_pos rfl, hTT] at c3
    have c4 := fun V (hb : Below w3.heap.size w3 V) => PsE.Parse_any T V (by omega) (HV.out.2.1.below (HB3.out.trans (hb.mono HB3.out.size))) (HV.out.2.2.1.below (HB3.out.trans (hb.mono HB3.out.size))) (HV.out.2.2.2.below (HB3.out.trans (hb.mono HB3.out.size)))
    rw [hTl] at c4
    obtain ⟨mm, hmm⟩ := HM.out
    have hglt : 2 < w.heap.size := ExL.cell_lt' hmm
    have hgl : ∀ V, Below w.heap.size w V → V.cell? ⟨2, 0, none⟩ = some (.int .i64 mm) := fun V hV => (hV.cell (p := ⟨2, 0, none⟩) hglt).trans hmm
    have hcnt := Lib.count_le T.data.toList (⟨#[32]⟩ : ByteArray).data.toList
    have c5 := fun V (hV : Below w.heap.size w V) => Tryz.strings_ReplaceAll T ⟨#[32]⟩ ⟨#[]⟩ mm V (by omega) (hgl V hV) (by decide) (by
      show T.size + _ * 0 ≤ _
      omega)
    obtain ⟨R, hR⟩ : ∃ R : ByteArray, (⟨(Lib.replaceAll T.data.toList (⟨#[32]⟩ : ByteArray).data.toList (⟨#[]⟩ : ByteArray).data.toList).toArray⟩ : ByteArray) = R := ⟨_, rfl⟩
    have hRz : R.size = nsp (Ex.txt x) := by
      rw [← ValM.len_size, ← hR, hTl]
      exact replaceAll_blank (Ex.txt x)
    rw [hR] at c5
    have hRle : (R.size : Int) ≤ (a0.size : Int) := by omega
    have hRm : R.size ≤ 6000 := by have := nsp_le (Ex.txt x); omega
    have C3 := Lib.hid c3
    have C4 := Lib.hid c4
    have C5 := Lib.hid c5
    have K3 := Lib.hid k3
    have HI := Lib.hid hx3
    have HF := Lib.hid (And.intro hck hTz)
    clear c3 c4 c5 okx hln hnx hTT hTl hTz hmm hgl hglt hR hRz hx3 k3 HM hle hck hcnt
    go_wp2_with fail
    refine C3.out.mono ?_; rintro e w4 ⟨rfl, hb4⟩
    have HB4 := Lib.hid hb4
    clear hb4
    go_wp2_with fail
    refine (C4.out _ HB4.out).mono ?_; rintro e w5 ⟨y, dy, By, my, cy, a2, er2, rfl, hisy, hpr, hb5⟩
    have hbb := b_trans HB4.out hb5
    have k5 := K3.out.below hbb
    have hx5 := HI.out.below hbb
    have hy5 := hisy.is
    have hpp := pr_txt HF.out.1 hpr
    rw [← HF.out.2] at hpp
    obtain ⟨W6, hW6⟩ : ∃ W, w5.alloc (.cells #[.int .i64 dy.op, .int .i64 dy.k, .int .i64 dy.n, .string dy.s, .string dy.nm, .slice By my cy] 27) = W := ⟨_, rfl⟩
    have hb6 : Below w5.heap.size w5 W6 := by rw [← hW6]; exact b_new _ _
    have k6 : Box W6 w5.heap.size dy By my cy := by rw [← hW6]; exact Box.new w5 dy By my cy
    have k56 := k5.below hb6
    have hx6 := hx5.below hb6
    have hy6 := hy5.below hb6
    have hbb6 := Lib.hid (HB3.out.trans ((b_trans hbb hb6).mono HB3.out.size))
    have HW6 := Lib.hid hW6
    have K56 := Lib.hid k56
    have K6 := Lib.hid k6
    clear hpr hisy hb5 hW6 hb6 k6 k5 k56 hx5 hy5 hbb m0 m1 m2 m3 m4 m5
    rcases hpp with ⟨hl, rfl⟩ | ⟨hl, rfl, rfl⟩
    · have hl' : (160 : Int) < (T.size : Int) := by omega
      clear hl hx6 hy6
      go_upto_region 9 with fail
      rw [HW6.out]
      obtain ⟨m0, m1, m2, m3, m4, m5⟩ := K56.out.cells
      obtain ⟨j0, j1, j2, j3, j4, j5⟩ := K6.out.cells
      go_wp2_with fail
      go_ret
      exact ⟨rfl, hbb6.out⟩
    · have hl' : ¬ (160 : Int) < (T.size : Int) := by omega
      have hd : dy = d := by rw [← Prn.is_d hx6, ← Prn.is_d hy6]
      subst hd
      have hcc := ExS.keepSame_any y dy B By m my cp cy W6 hx6 hy6
      have HCC := Lib.hid hcc
      clear hl hx6 hy6 hcc
      go_upto_region 9 with fail
      rw [HW6.out]
      obtain ⟨m0, m1, m2, m3, m4, m5⟩ := K56.out.cells
      obtain ⟨j0, j1, j2, j3, j4, j5⟩ := K6.out.cells
      go_wp2_with fail
      refine HCC.out.mono ?_; rintro e w7 ⟨rfl, hb7⟩
      have hbb7 := Lib.hid (hbb6.out.trans (hb7.mono hbb6.out.size))
      go_wp2_with fail
      refine (C5.out _ hbb7.out).mono ?_; rintro e w8 ⟨rfl, hb8⟩
      go_wp2_with fail
      go_ret
      exact ⟨rfl, hbb7.out.trans (hb8.mono hbb7.out.size)⟩

theorem star : "*" ++ "errors.errorString" = "*errors.errorString" := by decide
theorem row_es (u : TypeId) (h : Tryz.prog.typeName? 3 u = some "*errors.errorString") : u = 166 :=
  typeName_ptr_named (nm := "errors.errorString") (by rw [star]; kernel_rfl) (by kernel_rfl) (by decide) u (by rw [star]; exact h)
theorem ErrRange_of {W : World} (h : laidMetH Tryz.prog Rows.exprTurnsRow.laid W) : ∃ p, W.var? Tryz.prog "strconv.ErrRange" = some #[.iface 166 p] := by
  have h0 : laidMet Tryz.prog Rows.exprTurnsRow.laid W := by rw [MakeChecks.laidMetH_plain _ _ _ (by kernel_rfl)] at h; exact h
  obtain ⟨a0, s0, hv0, hc0, hs0, hz0⟩ := laid_sentinel (g := 7) (ti := 90) h0.tail.tail.tail.tail (by kernel_rfl) (by kernel_rfl) Tryz.underlying90 (row_es) Tryz.underlying166 Tryz.underlying168 rfl rfl Tryz.underlying9 (by kernel_rfl) (by kernel_rfl)
  exact ⟨_, hv0⟩

theorem ErrSyntax_of {W : World} (h : laidMetH Tryz.prog Rows.exprTurnsRow.laid W) : ∃ p, W.var? Tryz.prog "strconv.ErrSyntax" = some #[.iface 166 p] := by
  have h0 : laidMet Tryz.prog Rows.exprTurnsRow.laid W := by rw [MakeChecks.laidMetH_plain _ _ _ (by kernel_rfl)] at h; exact h
  obtain ⟨a0, s0, hv0, hc0, hs0, hz0⟩ := laid_sentinel (g := 6) (ti := 90) h0.tail.tail.tail.tail.tail (by kernel_rfl) (by kernel_rfl) Tryz.underlying90 (row_es) Tryz.underlying166 Tryz.underlying168 rfl rfl Tryz.underlying9 (by kernel_rfl) (by kernel_rfl)
  exact ⟨_, hv0⟩

theorem signs_of {W : World} (h : laidMetH Tryz.prog Rows.exprTurnsRow.laid W) : StrTab.Is Tryz.prog W "lychway/lex.signs" [[60, 61], [33, 61], [60], [61], [43], [45], [42], [47], [37], [38], [40], [41], [44]] := by
  have h0 : laidMet Tryz.prog Rows.exprTurnsRow.laid W := by rw [MakeChecks.laidMetH_plain _ _ _ (by kernel_rfl)] at h; exact h
  have h1 := h0.tail.tail.tail.tail.tail.tail
  exact StrTab.is_of_head (g := 1) (t := 118) (e := 9) (n := 13) (by kernel_rfl) (by kernel_rfl) Tryz.underlying118 Tryz.underlying9 (by kernel_rfl) (by kernel_rfl) h1

theorem not_of {W : World} (h : laidMetH Tryz.prog Rows.exprTurnsRow.laid W) : ExN.Tab W := by
  have h0 : laidMet Tryz.prog Rows.exprTurnsRow.laid W := by rw [MakeChecks.laidMetH_plain _ _ _ (by kernel_rfl)] at h; exact h
  have h1 := h0.tail.tail.tail.tail.tail.tail.tail
  exact NotTab.is_of_head (g := 0) (t := 68) (e := 67) (n := 19) (by kernel_rfl) (by kernel_rfl) Tryz.underlying68 (by kernel_rfl) Tryz.underlying67 (by kernel_rfl) rfl rfl rfl Tryz.underlying9 Tryz.underlying3 Tryz.underlying3 (by kernel_rfl) (by kernel_rfl) (by kernel_rfl) h1

theorem pow_of {W : World} (h : laidMetH Tryz.prog Rows.exprTurnsRow.laid W) : Show.Pow W := by
  have h0 : laidMet Tryz.prog Rows.exprTurnsRow.laid W := by rw [MakeChecks.laidMetH_plain _ _ _ (by kernel_rfl)] at h; exact h
  have h1 := h0.tail.tail
  exact Lib.tabIs_of_head (k := .u64) (zs := Lib.pow10Tab) (g := 5) (t := 154) (e := 139) (n := 20) (by kernel_rfl) (by kernel_rfl) Tryz.underlying154 Tryz.underlying139 (by kernel_rfl) (by kernel_rfl) h1

/-! ### The row's step -/
set_option maxRecDepth 100000 in
theorem lifted (os : Os) (started : os.Started) (H : Type) (enc : TypeId × Value → H) :
    ReturnsInHanded {} Tryz.checked os 4 .any (fun w args => (Rows.exprTurnsSpec.pre enc Tryz.prog Tryz.f4 [] false w args ∧ laidMetH Tryz.prog Rows.exprTurnsRow.laid w) ∧ sizedMet enc Tryz.prog Tryz.f4 (OpenSpec.ofChange Rows.exprTurnsSpec) false w args) (Rows.exprTurnsSpec.post enc Tryz.prog Tryz.f4 false true false false) := by
  refine ShA.and_shaped (C := Tryz.checked) (X := fun w _ => laidMetH Tryz.prog Rows.exprTurnsRow.laid w) (fun _ _ _ hh h => h.of_heap hh) own started (by kernel_rfl) Tryz.func4
    (ChangeSpec.witness_shaped (enc := enc) (C := Tryz.checked) (os := os) (X := fun w _ => laidMetH Tryz.prog Rows.exprTurnsRow.laid w) false (World.laidAll Tryz.prog os Rows.exprTurnsRow.laid) #[.string ⟨#[]⟩] 8 (World.laidAll_os _ _ _) (World.shaped_of_ZipB (by kernel_rfl) (by kernel_rfl)) (by kernel_rfl) (by kernel_rfl) (by kernel_rfl) (by rw [MakeChecks.laidMetH_plain _ _ _ (by kernel_rfl)]; exact laidMet_laidAll _ (by kernel_rfl) (by kernel_rfl))) ?_
  intro W base args ds gs before hval0 hW hcnd hsz hL hsh _
  have hval : ∀ (j : Nat) t v, Tryz.f4.params[j]? = some t → args[j]? = some v → Value.okWide Tryz.prog W .any base t v := hval0
  have hW' := hW
  obtain ⟨p, q, hA0, hV, rfl, hfz, hnd⟩ := hW
  have hA : DataW.TrodAll enc Tryz.prog W 0 (fun _ => true) true Tryz.f4.params.toList args.toList ds p := hA0
  rw [Tryz.params4] at hA hval
  obtain ⟨v0, vs0, d0, ds0, p0, q0, hargs, rfl, rfl, h0, r0⟩ := trodAll_cons hA
  obtain ⟨rfl, rfl, rfl⟩ := trodAll_nil r0
  obtain rfl : args = #[v0] := by cases args; simp_all
  obtain ⟨rfl, rfl⟩ := trodVars_none hV
  have k0 := h0
  have lt0 : ∀ x ∈ p0, x.block < W.heap.size := by obtain ⟨m, hm⟩ := k0; exact DataW.trod_lt m _ _ _ hm
  obtain ⟨a0, rfl, rfl, rfl, w0⟩ := open_string Tryz.underlying9 (hval 0 9 v0 rfl rfl) h0
  rw [Tryz.params4] at hsz
  have rb0 : a0.size ≤ 140737488351232 := by
    have h1 := sized_string hsz (j := 0) (t := 9) rfl rfl
    have h2 : reachBytes = 140737488351232 := by decide
    have e1 : a0.size = a0.data.size := rfl
    have e2 : a0.data.toList.length = a0.data.size := Array.length_toList
    omega
  clear hA0 hval0
  refine (walk a0 w0 W (not_of hL) (pow_of hL) (ErrRange_of hL) (ErrSyntax_of hL) rb0 (signs_of hL) (Go.Proofs.cell_of_shapedOpen_int (zero := #[.int .i64 0]) (t := 3) hsh (of_decide_eq_true (by kernel_rfl)) (by kernel_rfl) rfl (by kernel_rfl) (by kernel_rfl) Tryz.underlying3)).mono fun e W' ⟨he, bel⟩ => ?_
  subst he
  exact ⟨_, rfl, _, _, _, [], _, [], hW', trodAll_mk1 (shut_bool Tryz.underlying4 _), (trodAll_cons_mk (Below.trod laidOut (by kernel_rfl) (of_decide_eq_true (by kernel_rfl)) k0 bel lt0) trodAll_mk0), rfl, bel.frame _, fun h => by cases h⟩

theorem over : Rows.exprTurnsRow.holds Tryz.pinned (OpenSpec.ofChange Rows.exprTurnsSpec) :=
  OpenClaim.holds_of_wide 4 Tryz.f4 rfl rfl rfl rfl rfl rfl rfl ⟨rfl, rfl, rfl, rfl, rfl⟩ rfl rfl rfl rfl rfl (by kernel_rfl) Tryz.func4 (by kernel_rfl)
    (of_decide_eq_true (by kernel_rfl)) (by unfold Func.isWrapper; first | (rw [if_pos (by decide +kernel)]; kernel_rfl) | (rw [if_neg (by decide +kernel)]; exact ⟨rfl, rfl⟩))
    (fun os started H enc _ => lifted os started H enc)

/-- The tied card. -/
theorem proved : Rows.ExprTurnsCardSaid :=
  Claim7.holds_tied_plain_at .later [] [.data, .data, .data, .data, .sentinel, .sentinel, .data, .data, .pinned] true (true, "ec79bf73c7c499c3fbfb50bfc1d5989ddb727e82e1cbe13275d2f5b5ac6f74a6") true
    over (fun _ h => by cases h) (by kernel_rfl) (fun _ h => by cases h) exprTurns_row_tie rfl ⟨rfl, rfl⟩ (by kernel_rfl) rfl
    (fun f fn hf hfn => by
      obtain rfl : f = 4 := Option.some.inj ((show Tryz.prog.funcNamed "lychway/lychwaykeep.ExprTurns" = some 4 by kernel_rfl).symm.trans hf) |>.symm
      obtain rfl : fn = Tryz.f4 := (Option.some.inj (Tryz.func4.symm.trans hfn)).symm
      exact ⟨by kernel_rfl, fun j t ht => by
        rw [Tryz.params4] at ht
        have hm : t ∈ [9] := by simpa using Array.mem_of_getElem? ht
        have hall : ([9].all fun u => !Tryz.prog.wantsStandIn u) = true := by kernel_rfl
        exact (show Tryz.prog.wantsStandIn t = false by simpa using List.all_eq_true.1 hall t hm)⟩)
    (by kernel_rfl)
#print axioms proved
end Go.Proofs.YtbkbhkgkfolalaaGreatDoor.exprTurns
