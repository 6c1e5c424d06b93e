/- What is proved: the Go law lychwaykeep.FoldClosed returns true for all its arguments, and leaves them as they were. No condition. -/
import Derived.Test.YtehkebncdahmcaaGreatDoorRows
import Derived.Test.YtehkebncdahmcaaGreatDoorFoSimp
import Derived.Test.YtehkebncdahmcaaGreatDoorNmGen
import Derived.Test.YtehkebncdahmcaaGreatDoorRawOpen
import Derived.Test.YtehkebncdahmcaaGreatDoorWithin
import Derived.Test.YtehkebncdahmcaaGreatDoorKit
import Derived.WalkKit
import Derived.ProofKit
import Derived.OpenShut
import Derived.Deep.RegionHeld3
import Derived.Deep.DrawnRows
import Derived.Deep.DeepCutAuto
import Derived.Deep.QuietTactic
import Derived.BigQuiet
import Derived.WalkSpells
import Derived.WalkLawsBesides
import Derived.Lib.Hide
import Derived.Outline
import Derived.ShutString
import Derived.ChangeOld
import Derived.Below
import Derived.LaidMore
import Derived.SizedLaws
import Derived.Stop.Joined
import Derived.Stop.LaidErr
import Derived.Lib.LaidTab
import Derived.SevenTiedAt
import Derived.Lay
import Derived.LaidOnce
import Derived.Deep.DeepHandedRow
import Derived.Test.YtehkebncdahmcaaGreatDoorCards
import Derived.Test.YtehkebncdahmcaaGreatDoorTie
namespace Go.Proofs.YtehkebncdahmcaaGreatDoor.foldClosed
open ValM ExM NmM TyM EvM EvP FoM Kit ExL ExP ExN ExV RawL RawV Within GenL Gen GenE GenT NmC NmG EvC EvO EvF EvE Fo FoT FoS
open Go.ChangeShapes Go.WideShapes Go.ChangeAt Go.RowKit
open Go.ChangeMaps (open_string shut_string)
set_option linter.unusedVariables false

theorem own : ownKnob Tryz.prog.godebug = none := by kernel_rfl
theorem laidOut : laidOutB Tryz.prog = true := by kernel_rfl


/-! ### The walk -/
theorem fold_tests {x : ExM.Ex} (h : x.checkE = 0) (hr : NmM.Ex.refs x = []) {v : EvM.Vl} (hv : EvM.Ex.ev [] x = v) {y : ExM.Ex} (hy : FoM.Ex.fold x = y) :
    (v.k = 5 ∧ y.d.op ≠ 1) ∨ (v.k ≠ 5 ∧ v.k = 1 ∧ v.n < 0 ∧ y.nodes = 2 ∧ y.d.op = 3) ∨ (v.k ≠ 5 ∧ ¬ (v.k = 1 ∧ v.n < 0) ∧ y.nodes = 1 ∧ y.d = ⟨1, v.k, v.n, v.s, ⟨#[]⟩⟩) := by
  have hk := (ExM.checkE_zero h).2.2
  by_cases h5 : v.k = 5
  · left; exact ⟨h5, by rw [← hy]; exact FoM.fold_fault hk (by rw [hv]; exact h5)⟩
  · right
    have e := FoM.fold_known hk hr (by rw [hv]; exact h5)
    rw [hv, hy] at e
    by_cases h2 : v.k = 1 ∧ v.n < 0
    · left
      rw [FoM.litE_neg h2] at e
      refine ⟨h5, h2.1, h2.2, ?_, ?_⟩
      · rw [e, ExM.nodes_mk, ExM.nodesL_cons, ExM.nodesL_nil, ExM.nodes_mk, ExM.nodesL_nil]
      · rw [e]; rfl
    · right
      rw [FoM.litE_pos h2] at e
      refine ⟨h5, h2, ?_, ?_⟩
      · rw [e, ExM.nodes_mk, ExM.nodesL_nil]
      · rw [e]; rfl
set_option maxRecDepth 100000 in
set_option maxHeartbeats 4000000 in
theorem walk (A0 : Option Addr) (n0 : Nat) (c0 : Nat) (a1 : Int) (w1 : (Lit.int .i64 a1).wf = true) (w : World) (hraw0 : RawL.Raws w A0 n0 c0) (ht : ExN.Tab w) :
    Calls Tryz.prog 6 #[.slice A0 n0 c0, .int .i64 a1] w fun e w' => e = .returned (.bool true) ∧ Below w.heap.size w w' := by
  obtain ⟨pk, hpk⟩ : ∃ p, pick a1 3 = p := ⟨_, rfl⟩
  have hpb := pick_bd a1 3 (by decide)
  have hp := fun W => picked_any a1 3 W w1 (by decide) (by decide)
  rw [hpk] at hp hpb
  obtain ⟨pb0, pb1⟩ := hpb
  have HP := Lib.hid hp
  have HT := Lib.hid ht
  have HR0 := Lib.hid hraw0
  clear hp hpk ht hraw0 w1
  have hmk : ∀ W, Raws W A0 n0 c0 → Calls Tryz.prog 12 #[.slice A0 n0 c0, .int .i64 (1 + pk), .slice none 0 0] W (ExprOut [] (1 + pk) W) := fun W hr => make_any n0 c0 0 A0 none [] (1 + pk) W hr (fun i hi => absurd hi (by simp)) (by decide) (fun f hf => absurd hf (by simp))
  have HMk := Lib.hid hmk
  clear hmk
  go_enter Tryz.func6, Tryz.ntmps6
  go_wp2_with fail
  refine (HP.out _).mono ?_; rintro e w9 ⟨rfl, rfl⟩
  have HC := Lib.hid (HMk.out w HR0.out)
  go_wp2_with fail
  refine HC.out.mono ?_; rintro e w2 ⟨x, dx, Bx, mx, cx, rfl, hgx, hisx, hb2⟩
  obtain ⟨hckx, hx40, _, hokx⟩ := gn_check (fs := []) (fun f hf => absurd hf (by simp)) hgx
  have hrx : Ex.refs x = [] := by
    match hr : Ex.refs x with
    | [] => rfl
    | s :: r =>
      obtain ⟨f, hf, _⟩ := gn_refs 3 _ x hgx s (by rw [hr]; simp)
      exact absurd hf (by simp)
  have hix := hisx.is
  have hbA := b_more hb2 (.cells #[.int .i64 dx.op, .int .i64 dx.k, .int .i64 dx.n, .string dx.s, .string dx.nm, .slice Bx mx cx] 26)
  have z1 := Box.new w2 dx Bx mx cx
  have j1 := hix.below (b_new w2 (.cells #[.int .i64 dx.op, .int .i64 dx.k, .int .i64 dx.n, .string dx.s, .string dx.nm, .slice Bx mx cx] 26))
  obtain ⟨W, hW⟩ : ∃ W, w2.alloc (.cells #[.int .i64 dx.op, .int .i64 dx.k, .int .i64 dx.n, .string dx.s, .string dx.nm, .slice Bx mx cx] 26) = W := ⟨_, rfl⟩
  rw [hW] at hbA z1 j1
  have hT := HT.out.below hbA
  have hfo := fold_any x dx Bx mx cx W j1 hT
  have hcl := fun V (hb : Below W.heap.size W V) => closed_any x dx Bx mx cx V (j1.below hb) (hT.below hb)
  have hof := fun V (hb : Below W.heap.size W V) => EvE.of_any x [] none 0 dx Bx mx cx V (by simp) (fun f hf => absurd hf (by simp)) (j1.below hb) (fun i hi => absurd hi (by simp)) (hT.below hb)
  have hclb : closedB x = true := closed_nil.2 hrx
  obtain ⟨o1, o2⟩ := ofE_ok (fs := []) hckx (fun f hf => absurd hf (by simp))
  have hf0 : EvF.fcs [] = [] := rfl
  simp only [hf0, o1, o2, List.length_nil] at hof
  rw [hckx, hclb] at hcl
  obtain ⟨V, hV⟩ : ∃ V, Ex.ev [] x = V := ⟨_, rfl⟩
  rw [hV] at hof
  obtain ⟨y, hy⟩ : ∃ y, Ex.fold x = y := ⟨_, rfl⟩
  have hts := fold_tests hckx hrx hV hy
  have hfr : foldR x = y := by unfold foldR; rw [hckx, if_pos rfl]; exact hy
  have hyn : y.nodes ≤ 40 := by rw [← hy]; have := (fold_less x hokx).2.1; omega
  have hfo2 : Calls Tryz.prog 7 #[.agg #[.int .i64 dx.op, .int .i64 dx.k, .int .i64 dx.n, .string dx.s, .string dx.nm, .slice Bx mx cx]] W (fun e W' => ∃ (d : Nd) (B : Option Addr) (m c : Nat), e = .returned (.tuple #[.agg #[.int .i64 d.op, .int .i64 d.k, .int .i64 d.n, .string d.s, .string d.nm, .slice B m c], .int .i64 0]) ∧ IsP (fun b => W.heap.size ≤ b) W' y d B m ∧ Below W.heap.size W W') := by
    unfold FoldOut at hfo; rw [hckx, hfr] at hfo; exact hfo
  obtain ⟨vk, vn, vs⟩ := V
  simp only at hof hts
  have HFo := Lib.hid hfo2
  have HCl := Lib.hid hcl
  have HOf := Lib.hid hof
  have HTs := Lib.hid hts
  have HW := Lib.hid hW
  have HBA := Lib.hid hbA
  have HZ := Lib.hid z1
  obtain ⟨m0, m1, m2, m3, m4, m5⟩ := z1.cells
  clear hfo hfo2 hcl hof hts hW hbA z1 j1 hT hix hisx hckx hrx hgx hb2 HC hV hy hfr hclb o1 o2 hf0 HMk HP HR0 HT
  go_upto_region 2 with fail
  rw [HW.out]
  go_wp2_with fail
  refine HFo.out.mono ?_; rintro e w3 ⟨dy, By, my, cy, rfl, hiy, hb3⟩
  have hdy : y.d = dy := isP_d hiy
  have hiy := hiy.is
  have hbB := b_more hb3 (.cells #[.int .i64 dy.op, .int .i64 dy.k, .int .i64 dy.n, .string dy.s, .string dy.nm, .slice By my cy] 26)
  have zy := Box.new w3 dy By my cy
  have jy := hiy.below (b_new w3 (.cells #[.int .i64 dy.op, .int .i64 dy.k, .int .i64 dy.n, .string dy.s, .string dy.nm, .slice By my cy] 26))
  obtain ⟨X, hX⟩ : ∃ X, w3.alloc (.cells #[.int .i64 dy.op, .int .i64 dy.k, .int .i64 dy.n, .string dy.s, .string dy.nm, .slice By my cy] 26) = X := ⟨_, rfl⟩
  rw [hX] at hbB zy jy
  have zx := HZ.out.below hbB
  obtain ⟨m0, m1, m2, m3, m4, m5⟩ := zx.cells
  have HX := Lib.hid hX
  have HBB := Lib.hid hbB
  have HZY := Lib.hid zy
  have HJY := Lib.hid jy
  have HZX := Lib.hid zx
  have HDY := Lib.hid hdy
  have hc := HCl.out X hbB
  have HC := Lib.hid hc
  clear hX hbB zy jy zx hb3 hiy hc hdy
  go_upto_region 3 with fail
  rw [HX.out]
  go_wp2_with fail
  refine HC.out.mono ?_; rintro e w4 ⟨rfl, hb4⟩
  have zx := HZX.out.below hb4
  obtain ⟨m0, m1, m2, m3, m4, m5⟩ := zx.cells
  have hbw4 := b_trans HBB.out hb4
  have hc := HOf.out w4 hbw4
  have HC := Lib.hid hc
  have HZY4 := Lib.hid (HZY.out.below hb4)
  have HJY4 := Lib.hid (HJY.out.below hb4)
  have HB4 := Lib.hid hbw4
  clear zx hbw4 hc hb4
  go_wp2_with fail
  refine HC.out.mono ?_; rintro e w5 ⟨rfl, hb5⟩
  have hv5 := BV.new w5 vk vn vs
  have zy := (HZY4.out.below hb5).below (b_new w5 (.cells #[.int .i64 vk, .int .i64 vn, .string vs] 23))
  have jy := (HJY4.out.below hb5).alloc (.cells #[.int .i64 vk, .int .i64 vn, .string vs] 23)
  have hbw5 := b_more (b_trans HB4.out hb5) (.cells #[.int .i64 vk, .int .i64 vn, .string vs] 23)
  obtain ⟨Y, hY⟩ : ∃ Y, w5.alloc (.cells #[.int .i64 vk, .int .i64 vn, .string vs] 23) = Y := ⟨_, rfl⟩
  rw [hY] at hv5 zy jy hbw5
  have hsz := size_any y dy By my cy Y (by omega) jy
  obtain ⟨N, hN⟩ : ∃ N, y.nodes = N := ⟨_, rfl⟩
  obtain ⟨D, hD⟩ : ∃ D, y.depth = D := ⟨_, rfl⟩
  rw [hN, hD] at hsz
  have hts := HTs.out
  rw [hN, HDY.out] at hts
  have HTs2 := Lib.hid hts
  obtain ⟨m0, m1, m2, m3, m4, m5⟩ := zy.cells
  have HY := Lib.hid hY
  have HSz := Lib.hid hsz
  have HZY5 := Lib.hid zy
  have HV5 := Lib.hid hv5
  have HBE := Lib.hid (b_trans HBA.out hbw5)
  clear hY hv5 zy jy hbw5 hsz hb5 hN hD hts HTs
  go_upto_region 5 with fail
  rw [HY.out]
  go_wp2_with fail
  refine HSz.out.mono ?_; rintro e w6 ⟨rfl, hb6⟩
  have hbE := b_trans HBE.out hb6
  obtain ⟨u0, u1, u2⟩ := (HV5.out.below hb6).cells
  obtain ⟨m0, m1, m2, m3, m4, m5⟩ := (HZY5.out.below hb6).cells
  have HBF := Lib.hid hbE
  obtain ⟨dop, dk, dn, ds, dnm⟩ := dy
  clear hb6 hbE
  rcases HTs2.out with ⟨h5, hop⟩ | ⟨h5, h1, hn, hnod, hop⟩ | ⟨h5, h2, hnod, hd⟩
  · have hop2 : dop ≠ 1 := hop
    subst h5
    have t1 : (dop != 1) = true := bne_iff_ne.2 hop2
    clear hop hop2 HTs2
    go_wp2_with fail
    go_ret
    exact ⟨by simp, HBF.out⟩
  · have hop2 : dop = 3 := hop
    subst hop2 h1 hnod
    clear hop h5 HTs2
    go_wp2_with fail
    go_ret
    exact ⟨by simp, HBF.out⟩
  · injection hd with d1 d2 d3 d4 d5
    have t5 : (vk == 5) = false := beq_eq_false_iff_ne.2 h5
    subst d1 d2 d3 d4 d5 hnod
    by_cases h1 : dk = 1
    · have t1 : (dk == 1) = true := by simp [h1]
      have t2 : ¬ dn < 0 := fun h => h2 ⟨h1, h⟩
      clear h1 h2 h5 HTs2
      go_wp2_with fail
      go_ret
      exact ⟨by simp, HBF.out⟩
    · have t1 : (dk == 1) = false := beq_eq_false_iff_ne.2 h1
      clear h1 h2 h5 HTs2
      go_wp2_with fail
      go_ret
      exact ⟨by simp, HBF.out⟩

theorem not_of {W : World} (h : laidMetH Tryz.prog Rows.foldClosedRow.laid W) : ExN.Tab W := by
  have h0 : laidMet Tryz.prog Rows.foldClosedRow.laid W := by rw [MakeChecks.laidMetH_plain _ _ _ (by kernel_rfl)] at h; exact h
  have h1 := h0
  exact NotTab.is_of_head (g := 0) (t := 99) (e := 98) (n := 19) (by kernel_rfl) (by kernel_rfl) Tryz.underlying99 (by kernel_rfl) Tryz.underlying98 (by kernel_rfl) rfl rfl rfl Tryz.underlying9 Tryz.underlying3 Tryz.underlying3 (by kernel_rfl) (by kernel_rfl) (by kernel_rfl) h1

/-! ### The row's step -/
set_option maxRecDepth 100000 in
theorem lifted (os : Os) (started : os.Started) (H : Type) (enc : TypeId × Value → H) :
    ReturnsInHanded {} Tryz.checked os 6 .any (fun w args => (Rows.foldClosedSpec.pre enc Tryz.prog Tryz.f6 [] false w args ∧ laidMetH Tryz.prog Rows.foldClosedRow.laid w) ∧ sizedMet enc Tryz.prog Tryz.f6 (OpenSpec.ofChange Rows.foldClosedSpec) false w args) (Rows.foldClosedSpec.post enc Tryz.prog Tryz.f6 false true false false) := by
  refine returnsInHanded_of_change_and (C := Tryz.checked) (X := fun w _ => laidMetH Tryz.prog Rows.foldClosedRow.laid w) (fun _ _ _ hh h => h.of_heap hh) own started (by kernel_rfl) Tryz.func6
    (ChangeSpec.witness_shaped (enc := enc) (C := Tryz.checked) (os := os) (X := fun w _ => laidMetH Tryz.prog Rows.foldClosedRow.laid w) false (World.laidAll Tryz.prog os Rows.foldClosedRow.laid) #[.slice none 0 0, .int .i64 0] 8 (World.laidAll_os _ _ _) (World.shaped_of_ZipB (by kernel_rfl) (by kernel_rfl)) (by kernel_rfl) (by kernel_rfl) (by kernel_rfl) (by rw [MakeChecks.laidMetH_plain _ _ _ (by kernel_rfl)]; exact laidMet_laidAll _ (by kernel_rfl) (by kernel_rfl))) ?_
  intro W base args ds gs before hval0 hW hcnd hsz hL _
  have hval : ∀ (j : Nat) t v, Tryz.f6.params[j]? = some t → args[j]? = some v → Value.okWide Tryz.prog W .any base t v := hval0
  have hW' := hW
  obtain ⟨p, q, hA0, hV, rfl, hfz, hnd⟩ := hW
  have hA : DataW.TrodAll enc Tryz.prog W 0 (fun _ => true) true Tryz.f6.params.toList args.toList ds p := hA0
  rw [Tryz.params6] at hA hval
  obtain ⟨v0, vs0, d0, ds0, p0, q0, hargs, rfl, rfl, h0, r0⟩ := trodAll_cons hA
  obtain ⟨v1, vs1, d1, ds1, p1, q1, rfl, rfl, rfl, h1, r1⟩ := trodAll_cons r0
  obtain ⟨rfl, rfl, rfl⟩ := trodAll_nil r1
  obtain rfl : args = #[v0, v1] := by cases args; simp_all
  obtain ⟨rfl, rfl⟩ := trodVars_none hV
  have k0 := h0
  have lt0 : ∀ x ∈ p0, x.block < W.heap.size := by obtain ⟨m, hm⟩ := k0; exact DataW.trod_lt m _ _ _ hm
  obtain ⟨A0, n0, c0, rfl, hraw0⟩ := RawO.open_raws (hval 0 37 v0 rfl rfl) h0
  have k1 := h1
  have lt1 : ∀ x ∈ p1, x.block < W.heap.size := by obtain ⟨m, hm⟩ := k1; exact DataW.trod_lt m _ _ _ hm
  obtain ⟨a1, rfl, rfl, rfl, w1⟩ := open_int Tryz.underlying3 (hval 1 3 v1 rfl rfl) h1
  clear hA0 hval0
  refine (walk A0 n0 c0 a1 w1 W hraw0 (not_of hL)).mono fun e W' ⟨he, bel⟩ => ?_
  subst he
  exact ⟨_, rfl, _, _, _, [], _, [], hW', trodAll_mk1 (shut_bool Tryz.underlying4 _), (trodAll_cons_mk (Below.trod laidOut (by kernel_rfl) (of_decide_eq_true (by kernel_rfl)) k0 bel lt0) (trodAll_cons_mk (Below.trod laidOut (by kernel_rfl) (of_decide_eq_true (by kernel_rfl)) k1 bel lt1) trodAll_mk0)), rfl, bel.frame _, fun h => by cases h⟩

theorem over : Rows.foldClosedRow.holds Tryz.pinned (OpenSpec.ofChange Rows.foldClosedSpec) :=
  OpenClaim.holds_of_wide 6 Tryz.f6 rfl rfl rfl rfl rfl rfl rfl ⟨rfl, rfl, rfl, rfl, rfl⟩ rfl rfl rfl rfl rfl (by kernel_rfl) Tryz.func6 (by kernel_rfl)
    (of_decide_eq_true (by kernel_rfl)) (by unfold Func.isWrapper; first | (rw [if_pos (by decide +kernel)]; kernel_rfl) | (rw [if_neg (by decide +kernel)]; exact ⟨rfl, rfl⟩))
    (fun os started H enc _ => lifted os started H enc)

/-- The tied card. -/
theorem proved : Rows.FoldClosedCardSaid :=
  Claim7.holds_tied_plain_at .later [] [.data] true (true, "ae40beb460a2ed87241e57f8ebfdcc3168592c69536a1755b1ac59dfa71bbbdb") false
    over (fun _ h => by cases h) (by kernel_rfl) (fun _ h => by cases h) foldClosed_row_tie rfl ⟨rfl, rfl⟩ (by kernel_rfl) rfl
    (fun f fn hf hfn => by
      obtain rfl : f = 6 := Option.some.inj ((show Tryz.prog.funcNamed "lychway/lychwaykeep.FoldClosed" = some 6 by kernel_rfl).symm.trans hf) |>.symm
      obtain rfl : fn = Tryz.f6 := (Option.some.inj (Tryz.func6.symm.trans hfn)).symm
      exact ⟨by kernel_rfl, fun j t ht => by
        rw [Tryz.params6] at ht
        have hm : t ∈ [37, 3] := by simpa using Array.mem_of_getElem? ht
        have hall : ([37, 3].all fun u => !Tryz.prog.wantsStandIn u) = true := by kernel_rfl
        exact (show Tryz.prog.wantsStandIn t = false by simpa using List.all_eq_true.1 hall t hm)⟩)
    (by kernel_rfl)
#print axioms proved
end Go.Proofs.YtehkebncdahmcaaGreatDoor.foldClosed
