/- What is proved: the Go law lychwaylaw.ExprParses returns true for all its arguments, and leaves them as they were. No condition. -/
import Derived.Test.YtjjchbafobcofaaGreatDoorRows
import Derived.Test.YtjjchbafobcofaaGreatDoorClOf
import Derived.Test.YtjjchbafobcofaaGreatDoorPsParse
import Derived.Test.YtjjchbafobcofaaGreatDoorEx
import Derived.Test.YtjjchbafobcofaaGreatDoorKit
import Derived.WalkKit
import Derived.ProofKit
import Derived.OpenShut
import Derived.Deep.RegionHeld3
import Derived.Deep.DrawnRows
import Derived.Deep.DeepCutAuto
import Derived.Deep.QuietTactic
import Derived.BigQuiet
import Derived.WalkSpells
import Derived.WalkLawsBesides
import Derived.Lib.Hide
import Derived.Outline
import Derived.ShutString
import Derived.ChangeOld
import Derived.Below
import Derived.LaidMore
import Derived.SizedLaws
import Derived.Stop.Joined
import Derived.Stop.LaidErr
import Derived.Lib.LaidTab
import Derived.SevenTiedAt
import Derived.Lay
import Derived.LaidOnce
import Derived.Deep.DeepHandedRow
import Derived.Test.YtjjchbafobcofaaGreatDoorCards
import Derived.Test.YtjjchbafobcofaaGreatDoorTie
namespace Go.Proofs.YtjjchbafobcofaaGreatDoor.exprParses
open ExM Kit ExL ExP ExN ExV PsE PsD PsM
open Go.ChangeShapes Go.WideShapes Go.ChangeAt Go.RowKit
open Go.ChangeMaps (open_string shut_string)
set_option linter.unusedVariables false

theorem own : ownKnob Tryz.prog.godebug = none := by kernel_rfl
theorem laidOut : laidOutB Tryz.prog = true := by kernel_rfl


/-! ### The walk -/
set_option maxHeartbeats 4000000 in
set_option maxRecDepth 100000 in
theorem walk (a0 : ByteArray) (w0 : a0.size ≤ maxLen) (w : World) (ht : ExN.Tab w) (hp : Show.Pow w) (hErrRange : ∃ p, w.var? Tryz.prog "strconv.ErrRange" = some #[.iface 112 p]) (hErrSyntax : ∃ p, w.var? Tryz.prog "strconv.ErrSyntax" = some #[.iface 112 p]) (rb0 : a0.size ≤ 140737488351232) (t_signs : StrTab.Is Tryz.prog w "lychway/lex.signs" [[60, 61], [33, 61], [60], [61], [43], [45], [42], [47], [37], [38], [40], [41], [44]]) :
    Calls Tryz.prog 3 #[.string a0] w fun e w' => e = .returned (.bool true) ∧ Below w.heap.size w w' := by
  have hvp : Parse.Vars w := ⟨hp, hErrSyntax, hErrRange⟩
  have hvl : LexT.Vars w := ⟨hErrSyntax, hErrRange, t_signs⟩
  have c1 := Parse_any a0 w rb0 hvl hvp ht
  have c2 := fun V (hb : Below w.heap.size w V) => ClO.exprOf_any a0 V rb0 (hvl.below hb)
  obtain ⟨R, hR⟩ : ∃ R, PR a0.data.toList = R := ⟨_, rfl⟩
  have hU : ∀ x y a b p q, R x a p → R y b q → x = y ∧ a = b ∧ p = q := by rw [← hR]; exact fun x y a b p q h1 h2 => ClO.pr_unique h1 h2
  rw [hR] at c1 c2
  have C1 := Lib.hid c1
  have C2 := Lib.hid c2
  have HU := Lib.hid hU
  clear c1 c2 hR hU hvp hvl ht hp hErrSyntax hErrRange t_signs
  go_enter Tryz.func3, Tryz.ntmps3
  go_wp2_with fail
  refine C1.out.mono ?_; rintro e w1 ⟨x, d, B, m, cp, a, er, rfl, hisx, hpr, hb1⟩
  have his := hisx.is
  obtain ⟨W, hW⟩ : ∃ W, w1.alloc (.cells #[.int .i64 d.op, .int .i64 d.k, .int .i64 d.n, .string d.s, .string d.nm, .slice B m cp] 26) = W := ⟨_, rfl⟩
  have hbW : Below w.heap.size w W := by rw [← hW]; exact hb1.trans ((b_new w1 _).mono hb1.size)
  have hisW : Is W x d B m := by rw [← hW]; exact his.alloc _
  have k1 : Box W w1.heap.size d B m cp := by rw [← hW]; exact Box.new w1 d B m cp
  have c2 := C2.out W hbW
  have HC2 := Lib.hid c2
  have HW := Lib.hid hW
  have HBW := Lib.hid hbW
  have K1 := Lib.hid k1
  have HI := Lib.hid hisW
  have HP := Lib.hid hpr
  clear hisx hb1 his hW hbW hisW k1 C1 C2 hpr c2
  go_upto_region 2 with fail
  rw [HW.out]
  go_wp2_with fail
  refine HC2.out.mono ?_; rintro e w2 ⟨y, dy, By, my, cy, b, eq, rfl, hisy, hpr2, hb2⟩
  obtain ⟨rfl, rfl, rfl⟩ := HU.out _ _ _ _ _ _ HP.out hpr2
  have k2 := K1.out.below hb2
  have hx2 := HI.out.below hb2
  have hy2 := hisy.is
  obtain ⟨W3, hW3⟩ : ∃ W, w2.alloc (.cells #[.int .i64 dy.op, .int .i64 dy.k, .int .i64 dy.n, .string dy.s, .string dy.nm, .slice By my cy] 26) = W := ⟨_, rfl⟩
  have hb3 : Below w2.heap.size w2 W3 := by rw [← hW3]; exact b_new _ _
  have k3 : Box W3 w2.heap.size dy By my cy := by rw [← hW3]; exact Box.new w2 dy By my cy
  have k23 := k2.below hb3
  have hx3 := hx2.below hb3
  have hy3 := hy2.below hb3
  have hbb3 := Lib.hid (HBW.out.trans ((b_trans hb2 hb3).mono HBW.out.size))
  have hd : dy = d := by
    obtain ⟨dx, l⟩ := x
    rw [is_mk] at hx3 hy3
    rw [hx3.1, hy3.1]
  subst hd
  have hcc := ExS.lawSame_any x dy B By m my cp cy W3 hx3 hy3
  have HCC := Lib.hid hcc
  have HW3 := Lib.hid hW3
  have K23 := Lib.hid k23
  have K3 := Lib.hid k3
  clear hpr2 hisy hb2 hW3 hb3 k3 k2 k23 hx2 hy2 hx3 hy3 hcc
  go_upto_region 3 with fail
  rw [HW3.out]
  obtain ⟨m0, m1, m2, m3, m4, m5⟩ := K23.out.cells
  obtain ⟨j0, j1, j2, j3, j4, j5⟩ := K3.out.cells
  go_wp2_with fail
  refine HCC.out.mono ?_; rintro e w4 ⟨rfl, hb4⟩
  go_wp2_with fail
  go_ret
  exact ⟨by simp, hbb3.out.trans (hb4.mono hbb3.out.size)⟩

theorem star : "*" ++ "errors.errorString" = "*errors.errorString" := by decide
theorem row_es (u : TypeId) (h : Tryz.prog.typeName? 3 u = some "*errors.errorString") : u = 112 :=
  typeName_ptr_named (nm := "errors.errorString") (by rw [star]; kernel_rfl) (by kernel_rfl) (by decide) u (by rw [star]; exact h)
theorem ErrRange_of {W : World} (h : laidMetH Tryz.prog Rows.exprParsesRow.laid W) : ∃ p, W.var? Tryz.prog "strconv.ErrRange" = some #[.iface 112 p] := by
  have h0 : laidMet Tryz.prog Rows.exprParsesRow.laid W := by rw [MakeChecks.laidMetH_plain _ _ _ (by kernel_rfl)] at h; exact h
  obtain ⟨a0, s0, hv0, hc0, hs0, hz0⟩ := laid_sentinel (g := 3) (ti := 58) h0.tail.tail.tail (by kernel_rfl) (by kernel_rfl) Tryz.underlying58 (row_es) Tryz.underlying112 Tryz.underlying114 rfl rfl Tryz.underlying9 (by kernel_rfl) (by kernel_rfl)
  exact ⟨_, hv0⟩

theorem ErrSyntax_of {W : World} (h : laidMetH Tryz.prog Rows.exprParsesRow.laid W) : ∃ p, W.var? Tryz.prog "strconv.ErrSyntax" = some #[.iface 112 p] := by
  have h0 : laidMet Tryz.prog Rows.exprParsesRow.laid W := by rw [MakeChecks.laidMetH_plain _ _ _ (by kernel_rfl)] at h; exact h
  obtain ⟨a0, s0, hv0, hc0, hs0, hz0⟩ := laid_sentinel (g := 2) (ti := 58) h0.tail.tail.tail.tail (by kernel_rfl) (by kernel_rfl) Tryz.underlying58 (row_es) Tryz.underlying112 Tryz.underlying114 rfl rfl Tryz.underlying9 (by kernel_rfl) (by kernel_rfl)
  exact ⟨_, hv0⟩

theorem signs_of {W : World} (h : laidMetH Tryz.prog Rows.exprParsesRow.laid W) : StrTab.Is Tryz.prog W "lychway/lex.signs" [[60, 61], [33, 61], [60], [61], [43], [45], [42], [47], [37], [38], [40], [41], [44]] := by
  have h0 : laidMet Tryz.prog Rows.exprParsesRow.laid W := by rw [MakeChecks.laidMetH_plain _ _ _ (by kernel_rfl)] at h; exact h
  have h1 := h0.tail.tail.tail.tail.tail
  exact StrTab.is_of_head (g := 1) (t := 84) (e := 9) (n := 13) (by kernel_rfl) (by kernel_rfl) Tryz.underlying84 Tryz.underlying9 (by kernel_rfl) (by kernel_rfl) h1

theorem not_of {W : World} (h : laidMetH Tryz.prog Rows.exprParsesRow.laid W) : ExN.Tab W := by
  have h0 : laidMet Tryz.prog Rows.exprParsesRow.laid W := by rw [MakeChecks.laidMetH_plain _ _ _ (by kernel_rfl)] at h; exact h
  have h1 := h0.tail.tail.tail.tail.tail.tail
  exact NotTab.is_of_head (g := 0) (t := 72) (e := 71) (n := 19) (by kernel_rfl) (by kernel_rfl) Tryz.underlying72 (by kernel_rfl) Tryz.underlying71 (by kernel_rfl) rfl rfl rfl Tryz.underlying9 Tryz.underlying3 Tryz.underlying3 (by kernel_rfl) (by kernel_rfl) (by kernel_rfl) h1

theorem pow_of {W : World} (h : laidMetH Tryz.prog Rows.exprParsesRow.laid W) : Show.Pow W := by
  have h0 : laidMet Tryz.prog Rows.exprParsesRow.laid W := by rw [MakeChecks.laidMetH_plain _ _ _ (by kernel_rfl)] at h; exact h
  have h1 := h0.tail.tail
  exact Lib.tabIs_of_head (k := .u64) (zs := Lib.pow10Tab) (g := 4) (t := 129) (e := 97) (n := 20) (by kernel_rfl) (by kernel_rfl) Tryz.underlying129 Tryz.underlying97 (by kernel_rfl) (by kernel_rfl) h1

/-! ### The row's step -/
set_option maxRecDepth 100000 in
theorem lifted (os : Os) (started : os.Started) (H : Type) (enc : TypeId × Value → H) :
    ReturnsInHanded {} Tryz.checked os 3 .any (fun w args => (Rows.exprParsesSpec.pre enc Tryz.prog Tryz.f3 [] false w args ∧ laidMetH Tryz.prog Rows.exprParsesRow.laid w) ∧ sizedMet enc Tryz.prog Tryz.f3 (OpenSpec.ofChange Rows.exprParsesSpec) false w args) (Rows.exprParsesSpec.post enc Tryz.prog Tryz.f3 false true false false) := by
  refine returnsInHanded_of_change_and (C := Tryz.checked) (X := fun w _ => laidMetH Tryz.prog Rows.exprParsesRow.laid w) (fun _ _ _ hh h => h.of_heap hh) own started (by kernel_rfl) Tryz.func3
    (ChangeSpec.witness_shaped (enc := enc) (C := Tryz.checked) (os := os) (X := fun w _ => laidMetH Tryz.prog Rows.exprParsesRow.laid w) false (World.laidAll Tryz.prog os Rows.exprParsesRow.laid) #[.string ⟨#[]⟩] 8 (World.laidAll_os _ _ _) (World.shaped_of_ZipB (by kernel_rfl) (by kernel_rfl)) (by kernel_rfl) (by kernel_rfl) (by kernel_rfl) (by rw [MakeChecks.laidMetH_plain _ _ _ (by kernel_rfl)]; exact laidMet_laidAll _ (by kernel_rfl) (by kernel_rfl))) ?_
  intro W base args ds gs before hval0 hW hcnd hsz hL _
  have hval : ∀ (j : Nat) t v, Tryz.f3.params[j]? = some t → args[j]? = some v → Value.okWide Tryz.prog W .any base t v := hval0
  have hW' := hW
  obtain ⟨p, q, hA0, hV, rfl, hfz, hnd⟩ := hW
  have hA : DataW.TrodAll enc Tryz.prog W 0 (fun _ => true) true Tryz.f3.params.toList args.toList ds p := hA0
  rw [Tryz.params3] at hA hval
  obtain ⟨v0, vs0, d0, ds0, p0, q0, hargs, rfl, rfl, h0, r0⟩ := trodAll_cons hA
  obtain ⟨rfl, rfl, rfl⟩ := trodAll_nil r0
  obtain rfl : args = #[v0] := by cases args; simp_all
  obtain ⟨rfl, rfl⟩ := trodVars_none hV
  have k0 := h0
  have lt0 : ∀ x ∈ p0, x.block < W.heap.size := by obtain ⟨m, hm⟩ := k0; exact DataW.trod_lt m _ _ _ hm
  obtain ⟨a0, rfl, rfl, rfl, w0⟩ := open_string Tryz.underlying9 (hval 0 9 v0 rfl rfl) h0
  rw [Tryz.params3] at hsz
  have rb0 : a0.size ≤ 140737488351232 := by
    have h1 := sized_string hsz (j := 0) (t := 9) rfl rfl
    have h2 : reachBytes = 140737488351232 := by decide
    have e1 : a0.size = a0.data.size := rfl
    have e2 : a0.data.toList.length = a0.data.size := Array.length_toList
    omega
  clear hA0 hval0
  refine (walk a0 w0 W (not_of hL) (pow_of hL) (ErrRange_of hL) (ErrSyntax_of hL) rb0 (signs_of hL)).mono fun e W' ⟨he, bel⟩ => ?_
  subst he
  exact ⟨_, rfl, _, _, _, [], _, [], hW', trodAll_mk1 (shut_bool Tryz.underlying4 _), (trodAll_cons_mk (Below.trod laidOut (by kernel_rfl) (of_decide_eq_true (by kernel_rfl)) k0 bel lt0) trodAll_mk0), rfl, bel.frame _, fun h => by cases h⟩

theorem over : Rows.exprParsesRow.holds Tryz.pinned (OpenSpec.ofChange Rows.exprParsesSpec) :=
  OpenClaim.holds_of_wide 3 Tryz.f3 rfl rfl rfl rfl rfl rfl rfl ⟨rfl, rfl, rfl, rfl, rfl⟩ rfl rfl rfl rfl rfl (by kernel_rfl) Tryz.func3 (by kernel_rfl)
    (of_decide_eq_true (by kernel_rfl)) (by unfold Func.isWrapper; first | (rw [if_pos (by decide +kernel)]; kernel_rfl) | (rw [if_neg (by decide +kernel)]; exact ⟨rfl, rfl⟩))
    (fun os started H enc _ => lifted os started H enc)

/-- The tied card. -/
theorem proved : Rows.ExprParsesCardSaid :=
  Claim7.holds_tied_plain_at .later [] [.data, .data, .data, .sentinel, .sentinel, .data, .data] true (true, "10d150e520f9dc73c8a80302cee35bc3be35fd8baa80bec1b29d29bda3811b5a") true
    over (fun _ h => by cases h) (by kernel_rfl) (fun _ h => by cases h) exprParses_row_tie rfl ⟨rfl, rfl⟩ (by kernel_rfl) rfl
    (fun f fn hf hfn => by
      obtain rfl : f = 3 := Option.some.inj ((show Tryz.prog.funcNamed "lychway/lychwaylaw.ExprParses" = some 3 by kernel_rfl).symm.trans hf) |>.symm
      obtain rfl : fn = Tryz.f3 := (Option.some.inj (Tryz.func3.symm.trans hfn)).symm
      exact ⟨by kernel_rfl, fun j t ht => by
        rw [Tryz.params3] at ht
        have hm : t ∈ [9] := by simpa using Array.mem_of_getElem? ht
        have hall : ([9].all fun u => !Tryz.prog.wantsStandIn u) = true := by kernel_rfl
        exact (show Tryz.prog.wantsStandIn t = false by simpa using List.all_eq_true.1 hall t hm)⟩)
    (by kernel_rfl)
#print axioms proved
end Go.Proofs.YtjjchbafobcofaaGreatDoor.exprParses
