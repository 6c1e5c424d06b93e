/- What is proved: the Go law lychwaykeep.ExprOfLine returns true for all its arguments, and leaves them as they were. No condition. -/
import Derived.Test.YtdefaeieiaegaaaGreatDoorRows
import Derived.Test.YtdefaeieiaegaaaGreatDoorKtE01
import Derived.Test.YtdefaeieiaegaaaGreatDoorKtE21
import Derived.Test.YtdefaeieiaegaaaGreatDoorKtE22
import Derived.Test.YtdefaeieiaegaaaGreatDoorKtE23
import Derived.WalkKit
import Derived.ProofKit
import Derived.OpenShut
import Derived.Deep.RegionHeld3
import Derived.Deep.DrawnRows
import Derived.Deep.DeepCutAuto
import Derived.Deep.QuietTactic
import Derived.BigQuiet
import Derived.WalkSpells
import Derived.WalkLawsBesides
import Derived.Lib.Hide
import Derived.Outline
import Derived.ShutString
import Derived.ChangeOld
import Derived.Below
import Derived.LaidMore
import Derived.SizedLaws
import Derived.Stop.Joined
import Derived.Stop.LaidErr
import Derived.Lib.LaidTab
import Derived.SevenTiedAt
import Derived.Lay
import Derived.LaidOnce
import Derived.Deep.DeepHandedRow
import Derived.Test.YtdefaeieiaegaaaGreatDoorCards
import Derived.Test.YtdefaeieiaegaaaGreatDoorTie
namespace Go.Proofs.YtdefaeieiaegaaaGreatDoor.exprOfLine
open ValM LexM NumM ExM PrM ParseM Kit ExL ExP ExN ExV RawV Within RawL GenL Gen GenE GenT PbR TxM TxR TxP TxT TxQ TxN TxF TxU TxO1
open Go.ChangeShapes Go.WideShapes Go.ChangeAt Go.RowKit
open Go.ChangeMaps (open_string shut_string)
set_option linter.unusedVariables false

theorem own : ownKnob Tryz.prog.godebug = none := by kernel_rfl
theorem laidOut : laidOutB Tryz.prog = true := by kernel_rfl


/-! ### The walk -/
set_option maxRecDepth 100000 in
set_option maxHeartbeats 8000000 in
theorem walk (A0 : Option Addr) (n0 : Nat) (c0 : Nat) (a1 : Int) (w1 : (Lit.int .i64 a1).wf = true) (w : World) (hraw0 : RawL.Raws w A0 n0 c0) (ht : ExN.Tab w) (hp : Show.Pow w) (hErrRange : ∃ p, w.var? Tryz.prog "strconv.ErrRange" = some #[.iface 279 p]) (hErrSyntax : ∃ p, w.var? Tryz.prog "strconv.ErrSyntax" = some #[.iface 279 p]) (t_signs : StrTab.Is Tryz.prog w "lychway/lex.signs" [[60, 61], [33, 61], [60], [61], [43], [45], [42], [47], [37], [38], [40], [41], [44]]) (t_kinds : StrTab.Is Tryz.prog w "lychway/text.kinds" [[], [105, 110, 112, 117, 116], [102, 111, 114, 109, 117, 108, 97], [108, 111, 111, 107, 117, 112]]) (t_types : StrTab.Is Tryz.prog w "lychway/text.types" [[], [105, 110, 116], [98, 111, 111, 108], [116, 101, 120, 116]]) (hmax : ∃ m, w.cell? ⟨3, 0, none⟩ = some (.int .i64 m)) :
    Calls Tryz.prog 7 #[.slice A0 n0 c0, .int .i64 a1] w fun e w' => e = .returned (.bool true) ∧ Below w.heap.size w w' := by
  obtain ⟨pk, hpk⟩ : ∃ p, pick a1 3 = p := ⟨_, rfl⟩
  have hpb := pick_bd a1 3 (by decide)
  have hpi := fun W => picked_any a1 3 W w1 (by decide) (by decide)
  rw [hpk] at hpi hpb
  obtain ⟨pb0, pb1⟩ := hpb
  have HP := Lib.hid hpi
  have hvr : RVars w := ⟨⟨⟨ht, hp⟩, t_kinds, t_types⟩, ⟨hErrSyntax, hErrRange, t_signs⟩, ⟨hp, hErrSyntax, hErrRange⟩, hmax⟩
  have hvp : Prn.Vars w := ⟨ht, hp⟩
  have HV := Lib.hid hvr
  have HVp := Lib.hid hvp
  have HR := Lib.hid hraw0
  clear hpi hpk ht hraw0 w1 hp hErrSyntax hErrRange t_signs t_kinds t_types hmax hvr hvp
  have hmk : ∀ W, Raws W A0 n0 c0 → Calls Tryz.prog 22 #[.slice A0 n0 c0, .int .i64 (1 + pk), .slice none 0 0] W (ExprOut [] (1 + pk) W) := fun W hr => make_any n0 c0 0 A0 none [] (1 + pk) W hr (fun i hi => absurd hi (Nat.not_lt_zero _)) (by decide) (fun f hf => by cases hf)
  have HMk := Lib.hid hmk
  clear hmk
  go_enter Tryz.func7, Tryz.ntmps7
  go_wp2_with fail
  refine (HP.out _).mono ?_; rintro e w9 ⟨rfl, rfl⟩
  go_wp2_with fail
  refine (HMk.out _ HR.out).mono ?_; rintro e w2 ⟨x, d, B, m, cp, rfl, hx, hisx, hb2⟩
  obtain ⟨hck, hx40, hxd, hxo⟩ := gn_check (fs := []) (fun f hf => by cases hf) hx
  have his := hisx.is
  obtain ⟨W, hW⟩ : ∃ W, w2.alloc (.cells #[.int .i64 d.op, .int .i64 d.k, .int .i64 d.n, .string d.s, .string d.nm, .slice B m cp] 50) = W := ⟨_, rfl⟩
  have hbW : Below w.heap.size w W := by rw [← hW]; exact hb2.trans ((b_new w2 _).mono hb2.size)
  have hisW : Is W x d B m := by rw [← hW]; exact his.alloc _
  have k1 : Box W w2.heap.size d B m cp := by rw [← hW]; exact Box.new w2 d B m cp
  have okx := (checkE_zero hck).2.2
  have hne := txt_ne okx
  have hln := txt_len x okx
  have hnx := (checkE_zero hck).1
  obtain ⟨T, hTT⟩ : ∃ T : ByteArray, (⟨(Ex.txt x).toArray⟩ : ByteArray) = T := ⟨_, rfl⟩
  have hTl : T.data.toList = Ex.txt x := by rw [← hTT]
  have hTz : T.size = (Ex.txt x).length := by rw [← ValM.len_size, hTl]
  have hTs : T.size ≤ 900000 := by omega
  have c1 := PrT.print_any x d B m cp W hisW (HVp.out.below hbW)
  rw [hck, if_pos rfl, hTT] at c1
  have hread : ∀ (U : ByteArray) (V : World), U.data.toList = oneL (1 + pk) (Ex.txt x) → Below W.heap.size W V → Calls Tryz.prog 10 #[.string U] V fun e w' =>
      ∃ (GA QA : Option Addr) (gn gc qn qc : Nat) (kl er : Int), e = .returned (.tuple #[.agg #[.slice GA gn gc, .slice QA qn qc], .int .i64 kl, .int .i64 er]) ∧ Below V.heap.size V w' ∧
      (((Ex.txt x).length ≤ 160 ∧ er = 0 ∧ gn = 1 ∧ ∃ f : GenL.Fd, Flds w' GA [f] ∧ Is w' x f.d f.A f.n) ∨ (160 < (Ex.txt x).length ∧ er = 1)) := fun U V hU hV => by
    have hUs : U.size ≤ 1000000 := by
      rw [← ValM.len_size, hU]
      unfold oneL
      have := ty_len (1 + pk)
      simp only [List.length_append, List.length_cons, List.length_nil]
      omega
    refine (read_any U V hUs (HV.out.below (hbW.trans (hV.mono hbW.size)))).mono fun e w' h => ?_
    rw [hU] at h
    exact one_read hx (hisW.below hV) (by omega) (by omega) h
  have hTe : T.toList.isEmpty = false := by rw [ByteArray.toList_eq, hTl]; cases h : Ex.txt x <;> simp_all
  rw [← hTl] at hread
  simp only [ValM.len_size] at hread
  have C1 := Lib.hid c1
  have HRead := Lib.hid hread
  have HW := Lib.hid hW
  have HBW := Lib.hid hbW
  have K1 := Lib.hid k1
  have HI := Lib.hid hisW
  clear hx hisx hxo hx40 hxd his hb2 hW hbW hisW k1 okx hne hln hnx hTT hTl hTz c1 hread hck HP HMk HR HV HVp
  go_wp2_with fail
  rw [HW.out]
  refine C1.out.mono ?_; rintro e w3 ⟨rfl, hb3⟩
  have HB3 := Lib.hid hb3
  clear hb3
  obtain rfl | rfl | rfl : pk = 0 ∨ pk = 1 ∨ pk = 2 := by omega
  all_goals
    go_wp2_with fail
    refine (HRead.out _ _ (by simp [ByteArray.data_append, oneL, tyW]) (b_more HB3.out _)).mono ?_
    rintro e w4 ⟨GA, QA, gn, gc, qn, qc, kl, er, rfl, hb4, hcase⟩
    have hbb := b_trans (b_more HB3.out _) hb4
    obtain ⟨W5, hW5⟩ : ∃ V, w4.alloc (.cells #[.slice GA gn gc, .slice QA qn qc] 25) = V := ⟨_, rfl⟩
    have hb5 : Below w4.heap.size w4 W5 := by rw [← hW5]; exact b_new _ _
    have k5 : W5.heap[w4.heap.size]? = some (.cells #[.slice GA gn gc, .slice QA qn qc] 25 (0, 0)) := by rw [← hW5]; exact World.alloc_heap_new w4 _
    obtain ⟨B5, hB5⟩ : ∃ b, w4.heap.size = b := ⟨_, rfl⟩
    rw [hB5] at k5
    have k45 := (K1.out.below hbb).below hb5
    have hx5 := (HI.out.below hbb).below hb5
    have HBB := Lib.hid (HBW.out.trans ((b_trans hbb hb5).mono HBW.out.size))
    obtain ⟨B1, hB1⟩ : ∃ b, w2.heap.size = b := ⟨_, rfl⟩
    rw [hB1] at k45
    have HW5 := Lib.hid hW5
    have HB5 := Lib.hid hB5
    have HB1 := Lib.hid hB1
    have K5 := Lib.hid k5
    have K45 := Lib.hid k45
    clear hW5 hB5 hB1 hbb hb4
    rcases hcase with ⟨hl, rfl, rfl, f, hfl, hisf⟩ | ⟨hl, rfl⟩
    · have hl' : ¬ (160 : Int) < (T.size : Int) := by omega
      obtain ⟨ga, rfl, hfd⟩ := hfl 0 (by simp)
      have hfd5 : FdAt W5 (ga.add (0 * 9)) f := FdAt.of_block hfd (hb5.block _ hfd.lt)
      have hf5 := hisf.below hb5
      obtain ⟨fnm, fkd, fty, fd, fA, fn, fc⟩ := f
      have hd : fd = d := (Prn.is_d hf5).symm.trans (Prn.is_d hx5)
      subst hd
      have hC : ∀ V, Below W5.heap.size W5 V → Calls Tryz.prog 24 #[.agg #[.int .i64 fd.op, .int .i64 fd.k, .int .i64 fd.n, .string fd.s, .string fd.nm, .slice fA fn fc], .agg #[.int .i64 fd.op, .int .i64 fd.k, .int .i64 fd.n, .string fd.s, .string fd.nm, .slice B m cp]] V fun e w' => e = .returned (.bool true) ∧ Below V.heap.size V w' := fun V hV => ExS.keepSame_any x fd fA B fn m fc cp V (hf5.below hV) (hx5.below hV)
      have hS : ∀ V, Below W5.heap.size W5 V → FdAt V (ga.add (0 * 9)) ⟨fnm, fkd, fty, fd, fA, fn, fc⟩ ∧ V.heap[B5]? = some (.cells #[.slice (some ga) 1 gc, .slice QA qn qc] 25 (0, 0)) ∧ Box V B1 fd B m cp := fun V hV => ⟨hfd5.of_block (hV.block _ hfd5.lt), (hV.block _ (Array.getElem?_eq_some_iff.1 k5).1).trans k5, k45.below hV⟩
      have HC := Lib.hid hC
      have HS := Lib.hid hS
      clear hC hS hf5 hx5 hfd5 hfd hfl hisf hb5 k5 k45 hl
      go_upto_region 4 with fail
      rw [HW5.out, HB5.out, HB1.out]
      go_upto_region 9 with fail
      have hbl := Below.refl W5.heap.size W5
      obtain ⟨⟨f0, f1, f2, f3, f4, f5, f6, f7, f8⟩, q1, q2⟩ := HS.out W5 hbl
      obtain ⟨m0, m1⟩ := row_cells q1
      obtain ⟨j0, j1, j2, j3, j4, j5⟩ := q2.cells
      have hS2 : ∀ V, Below W5.heap.size W5 V → (V.cell? ⟨B5, 0, none⟩ = some (.slice (some ga) 1 gc) ∧ V.cell? ⟨ga.block, ga.off + 3, none⟩ = some (.int .i64 fd.op) ∧ V.cell? ⟨ga.block, ga.off + 3 + 1, none⟩ = some (.int .i64 fd.k) ∧ V.cell? ⟨ga.block, ga.off + 3 + 2, none⟩ = some (.int .i64 fd.n) ∧ V.cell? ⟨ga.block, ga.off + 3 + 3, none⟩ = some (.string fd.s) ∧ V.cell? ⟨ga.block, ga.off + 3 + 4, none⟩ = some (.string fd.nm) ∧ V.cell? ⟨ga.block, ga.off + 3 + 5, none⟩ = some (.slice fA fn fc) ∧ V.cell? ⟨B1, 0, none⟩ = some (.int .i64 fd.op) ∧ V.cell? ⟨B1, 1, none⟩ = some (.int .i64 fd.k) ∧ V.cell? ⟨B1, 2, none⟩ = some (.int .i64 fd.n) ∧ V.cell? ⟨B1, 3, none⟩ = some (.string fd.s) ∧ V.cell? ⟨B1, 4, none⟩ = some (.string fd.nm) ∧ V.cell? ⟨B1, 5, none⟩ = some (.slice B m cp)) := fun V hV => by
        obtain ⟨⟨_, _, _, f3, f4, f5, f6, f7, f8⟩, q1, q2⟩ := HS.out V hV
        obtain ⟨m0, m1⟩ := row_cells q1
        obtain ⟨j0, j1, j2, j3, j4, j5⟩ := q2.cells
        exact ⟨m0 0, f3, f4, f5, f6, f7, f8, j0, j1, j2, j3, j4, j5⟩
      have HS2 := Lib.hid hS2
      clear hS2 f0 f1 f2
      go_region_held3 (fun V => (V.cell? ⟨B5, 0, none⟩ = some (.slice (some ga) 1 gc) ∧ V.cell? ⟨ga.block, ga.off + 3, none⟩ = some (.int .i64 fd.op) ∧ V.cell? ⟨ga.block, ga.off + 3 + 1, none⟩ = some (.int .i64 fd.k) ∧ V.cell? ⟨ga.block, ga.off + 3 + 2, none⟩ = some (.int .i64 fd.n) ∧ V.cell? ⟨ga.block, ga.off + 3 + 3, none⟩ = some (.string fd.s) ∧ V.cell? ⟨ga.block, ga.off + 3 + 4, none⟩ = some (.string fd.nm) ∧ V.cell? ⟨ga.block, ga.off + 3 + 5, none⟩ = some (.slice fA fn fc) ∧ V.cell? ⟨B1, 0, none⟩ = some (.int .i64 fd.op) ∧ V.cell? ⟨B1, 1, none⟩ = some (.int .i64 fd.k) ∧ V.cell? ⟨B1, 2, none⟩ = some (.int .i64 fd.n) ∧ V.cell? ⟨B1, 3, none⟩ = some (.string fd.s) ∧ V.cell? ⟨B1, 4, none⟩ = some (.string fd.nm) ∧ V.cell? ⟨B1, 5, none⟩ = some (.slice B m cp))) (first | (with_reducible exact HS2.out _ hbl) | (with_reducible exact HS2.out _ (b_drew hbl))) (first | (go_at_call 24; (with_reducible refine (HC.out _ ?_).mono ?_); (first | exact hbl | exact b_drew hbl); rintro e w6 ⟨rfl, hb6⟩; have hbl : Below W5.heap.size W5 w6 := (by first | exact hbl.trans (hb6.mono hbl.size) | exact (b_drew hbl).trans (hb6.mono hbl.size))) | (fail))
      all_goals
        go_wp2_with fail
        go_ret
        exact ⟨rfl, HBB.out.trans ((by first | exact hbl | exact b_drew hbl | exact b_drew (b_drew hbl) : Below W5.heap.size W5 _).mono HBB.out.size)⟩
    · have hl' : (160 : Int) < (T.size : Int) := by omega
      clear hl hx5 hb5 k5 k45
      go_upto_region 4 with fail
      rw [HW5.out]
      go_wp2_with fail
      go_ret
      exact ⟨rfl, HBB.out⟩

theorem star : "*" ++ "errors.errorString" = "*errors.errorString" := by decide
theorem row_es (u : TypeId) (h : Tryz.prog.typeName? 3 u = some "*errors.errorString") : u = 279 :=
  typeName_ptr_named (nm := "errors.errorString") (by rw [star]; kernel_rfl) (by kernel_rfl) (by decide) u (by rw [star]; exact h)
theorem ErrRange_of {W : World} (h : laidMetH Tryz.prog Rows.exprOfLineRow.laid W) : ∃ p, W.var? Tryz.prog "strconv.ErrRange" = some #[.iface 279 p] := by
  have h0 : laidMet Tryz.prog Rows.exprOfLineRow.laid W := by rw [MakeChecks.laidMetH_plain _ _ _ (by kernel_rfl)] at h; exact h
  obtain ⟨a0, s0, hv0, hc0, hs0, hz0⟩ := laid_sentinel (g := 9) (ti := 92) h0.tail.tail.tail.tail (by kernel_rfl) (by kernel_rfl) Tryz.underlying92 (row_es) Tryz.underlying279 Tryz.underlying281 rfl rfl Tryz.underlying9 (by kernel_rfl) (by kernel_rfl)
  exact ⟨_, hv0⟩

theorem ErrSyntax_of {W : World} (h : laidMetH Tryz.prog Rows.exprOfLineRow.laid W) : ∃ p, W.var? Tryz.prog "strconv.ErrSyntax" = some #[.iface 279 p] := by
  have h0 : laidMet Tryz.prog Rows.exprOfLineRow.laid W := by rw [MakeChecks.laidMetH_plain _ _ _ (by kernel_rfl)] at h; exact h
  obtain ⟨a0, s0, hv0, hc0, hs0, hz0⟩ := laid_sentinel (g := 8) (ti := 92) h0.tail.tail.tail.tail.tail (by kernel_rfl) (by kernel_rfl) Tryz.underlying92 (row_es) Tryz.underlying279 Tryz.underlying281 rfl rfl Tryz.underlying9 (by kernel_rfl) (by kernel_rfl)
  exact ⟨_, hv0⟩

theorem signs_of {W : World} (h : laidMetH Tryz.prog Rows.exprOfLineRow.laid W) : StrTab.Is Tryz.prog W "lychway/lex.signs" [[60, 61], [33, 61], [60], [61], [43], [45], [42], [47], [37], [38], [40], [41], [44]] := by
  have h0 : laidMet Tryz.prog Rows.exprOfLineRow.laid W := by rw [MakeChecks.laidMetH_plain _ _ _ (by kernel_rfl)] at h; exact h
  have h1 := h0.tail.tail.tail.tail.tail.tail
  exact StrTab.is_of_head (g := 7) (t := 263) (e := 9) (n := 13) (by kernel_rfl) (by kernel_rfl) Tryz.underlying263 Tryz.underlying9 (by kernel_rfl) (by kernel_rfl) h1

theorem kinds_of {W : World} (h : laidMetH Tryz.prog Rows.exprOfLineRow.laid W) : StrTab.Is Tryz.prog W "lychway/text.kinds" [[], [105, 110, 112, 117, 116], [102, 111, 114, 109, 117, 108, 97], [108, 111, 111, 107, 117, 112]] := by
  have h0 : laidMet Tryz.prog Rows.exprOfLineRow.laid W := by rw [MakeChecks.laidMetH_plain _ _ _ (by kernel_rfl)] at h; exact h
  have h1 := h0.tail.tail.tail.tail.tail.tail.tail.tail
  exact StrTab.is_of_head (g := 0) (t := 103) (e := 9) (n := 4) (by kernel_rfl) (by kernel_rfl) Tryz.underlying103 Tryz.underlying9 (by kernel_rfl) (by kernel_rfl) h1

theorem types_of {W : World} (h : laidMetH Tryz.prog Rows.exprOfLineRow.laid W) : StrTab.Is Tryz.prog W "lychway/text.types" [[], [105, 110, 116], [98, 111, 111, 108], [116, 101, 120, 116]] := by
  have h0 : laidMet Tryz.prog Rows.exprOfLineRow.laid W := by rw [MakeChecks.laidMetH_plain _ _ _ (by kernel_rfl)] at h; exact h
  have h1 := h0.tail.tail.tail.tail.tail.tail.tail.tail.tail
  exact StrTab.is_of_head (g := 1) (t := 103) (e := 9) (n := 4) (by kernel_rfl) (by kernel_rfl) Tryz.underlying103 Tryz.underlying9 (by kernel_rfl) (by kernel_rfl) h1

theorem not_of {W : World} (h : laidMetH Tryz.prog Rows.exprOfLineRow.laid W) : ExN.Tab W := by
  have h0 : laidMet Tryz.prog Rows.exprOfLineRow.laid W := by rw [MakeChecks.laidMetH_plain _ _ _ (by kernel_rfl)] at h; exact h
  have h1 := h0.tail.tail.tail.tail.tail.tail.tail
  exact NotTab.is_of_head (g := 2) (t := 131) (e := 130) (n := 19) (by kernel_rfl) (by kernel_rfl) Tryz.underlying131 (by kernel_rfl) Tryz.underlying130 (by kernel_rfl) rfl rfl rfl Tryz.underlying9 Tryz.underlying3 Tryz.underlying3 (by kernel_rfl) (by kernel_rfl) (by kernel_rfl) h1

theorem pow_of {W : World} (h : laidMetH Tryz.prog Rows.exprOfLineRow.laid W) : Show.Pow W := by
  have h0 : laidMet Tryz.prog Rows.exprOfLineRow.laid W := by rw [MakeChecks.laidMetH_plain _ _ _ (by kernel_rfl)] at h; exact h
  have h1 := h0.tail.tail
  exact Lib.tabIs_of_head (k := .u64) (zs := Lib.pow10Tab) (g := 6) (t := 260) (e := 237) (n := 20) (by kernel_rfl) (by kernel_rfl) Tryz.underlying260 Tryz.underlying237 (by kernel_rfl) (by kernel_rfl) h1

/-! ### The row's step -/
set_option maxRecDepth 100000 in
theorem lifted (os : Os) (started : os.Started) (H : Type) (enc : TypeId × Value → H) :
    ReturnsInHanded {} Tryz.checked os 7 .any (fun w args => (Rows.exprOfLineSpec.pre enc Tryz.prog Tryz.f7 [] false w args ∧ laidMetH Tryz.prog Rows.exprOfLineRow.laid w) ∧ sizedMet enc Tryz.prog Tryz.f7 (OpenSpec.ofChange Rows.exprOfLineSpec) false w args) (Rows.exprOfLineSpec.post enc Tryz.prog Tryz.f7 false true false false) := by
  refine ShA.and_shaped (C := Tryz.checked) (X := fun w _ => laidMetH Tryz.prog Rows.exprOfLineRow.laid w) (fun _ _ _ hh h => h.of_heap hh) own started (by kernel_rfl) Tryz.func7
    (ChangeSpec.witness_shaped (enc := enc) (C := Tryz.checked) (os := os) (X := fun w _ => laidMetH Tryz.prog Rows.exprOfLineRow.laid w) false (World.laidAll Tryz.prog os Rows.exprOfLineRow.laid) #[.slice none 0 0, .int .i64 0] 8 (World.laidAll_os _ _ _) (World.shaped_of_ZipB (by kernel_rfl) (by kernel_rfl)) (by kernel_rfl) (by kernel_rfl) (by kernel_rfl) (by rw [MakeChecks.laidMetH_plain _ _ _ (by kernel_rfl)]; exact laidMet_laidAll _ (by kernel_rfl) (by kernel_rfl))) ?_
  intro W base args ds gs before hval0 hW hcnd hsz hL hsh _
  have hval : ∀ (j : Nat) t v, Tryz.f7.params[j]? = some t → args[j]? = some v → Value.okWide Tryz.prog W .any base t v := hval0
  have hW' := hW
  obtain ⟨p, q, hA0, hV, rfl, hfz, hnd⟩ := hW
  have hA : DataW.TrodAll enc Tryz.prog W 0 (fun _ => true) true Tryz.f7.params.toList args.toList ds p := hA0
  rw [Tryz.params7] at hA hval
  obtain ⟨v0, vs0, d0, ds0, p0, q0, hargs, rfl, rfl, h0, r0⟩ := trodAll_cons hA
  obtain ⟨v1, vs1, d1, ds1, p1, q1, rfl, rfl, rfl, h1, r1⟩ := trodAll_cons r0
  obtain ⟨rfl, rfl, rfl⟩ := trodAll_nil r1
  obtain rfl : args = #[v0, v1] := by cases args; simp_all
  obtain ⟨rfl, rfl⟩ := trodVars_none hV
  have k0 := h0
  have lt0 : ∀ x ∈ p0, x.block < W.heap.size := by obtain ⟨m, hm⟩ := k0; exact DataW.trod_lt m _ _ _ hm
  obtain ⟨A0, n0, c0, rfl, hraw0⟩ := RawO.open_raws (hval 0 34 v0 rfl rfl) h0
  have k1 := h1
  have lt1 : ∀ x ∈ p1, x.block < W.heap.size := by obtain ⟨m, hm⟩ := k1; exact DataW.trod_lt m _ _ _ hm
  obtain ⟨a1, rfl, rfl, rfl, w1⟩ := open_int Tryz.underlying3 (hval 1 3 v1 rfl rfl) h1
  clear hA0 hval0
  refine (walk A0 n0 c0 a1 w1 W hraw0 (not_of hL) (pow_of hL) (ErrRange_of hL) (ErrSyntax_of hL) (signs_of hL) (kinds_of hL) (types_of hL) (Go.Proofs.cell_of_shapedOpen_int (zero := #[.int .i64 0]) (t := 3) hsh (of_decide_eq_true (by kernel_rfl)) (by kernel_rfl) rfl (by kernel_rfl) (by kernel_rfl) Tryz.underlying3)).mono fun e W' ⟨he, bel⟩ => ?_
  subst he
  exact ⟨_, rfl, _, _, _, [], _, [], hW', trodAll_mk1 (shut_bool Tryz.underlying4 _), (trodAll_cons_mk (Below.trod laidOut (by kernel_rfl) (of_decide_eq_true (by kernel_rfl)) k0 bel lt0) (trodAll_cons_mk (Below.trod laidOut (by kernel_rfl) (of_decide_eq_true (by kernel_rfl)) k1 bel lt1) trodAll_mk0)), rfl, bel.frame _, fun h => by cases h⟩

theorem over : Rows.exprOfLineRow.holds Tryz.pinned (OpenSpec.ofChange Rows.exprOfLineSpec) :=
  OpenClaim.holds_of_wide 7 Tryz.f7 rfl rfl rfl rfl rfl rfl rfl ⟨rfl, rfl, rfl, rfl, rfl⟩ rfl rfl rfl rfl rfl (by kernel_rfl) Tryz.func7 (by kernel_rfl)
    (of_decide_eq_true (by kernel_rfl)) (by unfold Func.isWrapper; first | (rw [if_pos (by decide +kernel)]; kernel_rfl) | (rw [if_neg (by decide +kernel)]; exact ⟨rfl, rfl⟩))
    (fun os started H enc _ => lifted os started H enc)

/-- The tied card. -/
theorem proved : Rows.ExprOfLineCardSaid :=
  Claim7.holds_tied_plain_at .later [] [.data, .data, .data, .data, .sentinel, .sentinel, .data, .data, .data, .data, .pinned] true (true, "dcdfce5172450e36f3ccf140f6bd935ce6d963e2e5d0b7dd44de47bb4f661764") true
    over (fun _ h => by cases h) (by kernel_rfl) (fun _ h => by cases h) exprOfLine_row_tie rfl ⟨rfl, rfl⟩ (by kernel_rfl) rfl
    (fun f fn hf hfn => by
      obtain rfl : f = 7 := Option.some.inj ((show Tryz.prog.funcNamed "lychway/lychwaykeep.ExprOfLine" = some 7 by kernel_rfl).symm.trans hf) |>.symm
      obtain rfl : fn = Tryz.f7 := (Option.some.inj (Tryz.func7.symm.trans hfn)).symm
      exact ⟨by kernel_rfl, fun j t ht => by
        rw [Tryz.params7] at ht
        have hm : t ∈ [34, 3] := by simpa using Array.mem_of_getElem? ht
        have hall : ([34, 3].all fun u => !Tryz.prog.wantsStandIn u) = true := by kernel_rfl
        exact (show Tryz.prog.wantsStandIn t = false by simpa using List.all_eq_true.1 hall t hm)⟩)
    (by kernel_rfl)
#print axioms proved
end Go.Proofs.YtdefaeieiaegaaaGreatDoor.exprOfLine
