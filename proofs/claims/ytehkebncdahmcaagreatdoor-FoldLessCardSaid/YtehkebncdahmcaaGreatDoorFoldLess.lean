/- What is proved: the Go law lychwaykeep.FoldLess returns true for all its arguments, and leaves them as they were. No condition. -/
import Derived.Test.YtehkebncdahmcaaGreatDoorRows
import Derived.Test.YtehkebncdahmcaaGreatDoorFoSimp
import Derived.Test.YtehkebncdahmcaaGreatDoorNmGen
import Derived.Test.YtehkebncdahmcaaGreatDoorNmHas
import Derived.Test.YtehkebncdahmcaaGreatDoorRawOpen
import Derived.Test.YtehkebncdahmcaaGreatDoorWithin
import Derived.Test.YtehkebncdahmcaaGreatDoorKit
import Derived.WalkKit
import Derived.ProofKit
import Derived.OpenShut
import Derived.Deep.RegionHeld3
import Derived.Deep.DrawnRows
import Derived.Deep.DeepCutAuto
import Derived.Deep.QuietTactic
import Derived.BigQuiet
import Derived.WalkSpells
import Derived.WalkLawsBesides
import Derived.Lib.Hide
import Derived.Outline
import Derived.ShutString
import Derived.ChangeOld
import Derived.Below
import Derived.LaidMore
import Derived.SizedLaws
import Derived.Stop.Joined
import Derived.Stop.LaidErr
import Derived.Lib.LaidTab
import Derived.SevenTiedAt
import Derived.Lay
import Derived.LaidOnce
import Derived.Deep.DeepHandedRow
import Derived.Test.YtehkebncdahmcaaGreatDoorCards
import Derived.Test.YtehkebncdahmcaaGreatDoorTie
namespace Go.Proofs.YtehkebncdahmcaaGreatDoor.foldLess
open ValM ExM NmM TyM EvM EvP FoM Kit ExL ExP ExN ExV RawL RawV Within GenL Gen GenE GenT NmC NmG NmH EvC EvO EvF EvE Fo FoT FoS
open Go.ChangeShapes Go.WideShapes Go.ChangeAt Go.RowKit
open Go.ChangeMaps (open_string shut_string)
set_option linter.unusedVariables false

theorem own : ownKnob Tryz.prog.godebug = none := by kernel_rfl
theorem laidOut : laidOutB Tryz.prog = true := by kernel_rfl


/-! ### The walk -/
set_option maxRecDepth 100000 in
set_option maxHeartbeats 4000000 in
theorem walk (A0 : Option Addr) (n0 : Nat) (c0 : Nat) (a1 : Int) (w1 : (Lit.int .i64 a1).wf = true) (w : World) (hraw0 : RawL.Raws w A0 n0 c0) (ht : ExN.Tab w) :
    Calls Tryz.prog 5 #[.slice A0 n0 c0, .int .i64 a1] w fun e w' => e = .returned (.bool true) ∧ Below w.heap.size w w' := by
  obtain ⟨pk, hpk⟩ : ∃ p, pick a1 3 = p := ⟨_, rfl⟩
  have hpb := pick_bd a1 3 (by decide)
  have hp := fun W => picked_any a1 3 W w1 (by decide) (by decide)
  rw [hpk] at hp hpb
  obtain ⟨pb0, pb1⟩ := hpb
  have HP := Lib.hid hp
  have HT := Lib.hid ht
  have HR0 := Lib.hid hraw0
  clear hp hpk ht hraw0 w1
  have hmk : ∀ W FA fc, Raws W A0 n0 c0 → Flds W FA someF → Calls Tryz.prog 12 #[.slice A0 n0 c0, .int .i64 (1 + pk), .slice FA 5 fc] W (ExprOut someF (1 + pk) W) := fun W FA fc hr hf => make_any n0 c0 fc A0 FA someF (1 + pk) W hr hf (by decide) someF_sz
  have HMk := Lib.hid hmk
  clear hmk
  go_enter Tryz.func5, Tryz.ntmps5
  go_wp2_with fail
  refine (HP.out _).mono ?_; rintro e w9 ⟨rfl, rfl⟩
  go_wp2_with fail
  refine (someX_any _).mono ?_; rintro e w1 ⟨⟨rfl, hfl⟩, hb1⟩
  have hr1 : Raws w1 A0 n0 c0 := HR0.out.keep fun p v0 v1 v2 h0 h2 => hb1.block _ (cell_lt' h0)
  have HC := Lib.hid (HMk.out w1 _ 5 hr1 hfl)
  have HB1 := Lib.hid hb1
  clear hr1 hfl hb1
  go_wp2_with fail
  refine HC.out.mono ?_; rintro e w2 ⟨x, dx, Bx, mx, cx, rfl, hgx, hisx, hb2⟩
  obtain ⟨hckx, hx40, _, hokx⟩ := gn_check someF_nm hgx
  have hix := hisx.is
  have hbA : Below w.heap.size w (w2.alloc (.cells #[.int .i64 dx.op, .int .i64 dx.k, .int .i64 dx.n, .string dx.s, .string dx.nm, .slice Bx mx cx] 26)) := b_more (b_trans HB1.out hb2) _
  have z1 := Box.new w2 dx Bx mx cx
  have j1 := hix.below (b_new w2 (.cells #[.int .i64 dx.op, .int .i64 dx.k, .int .i64 dx.n, .string dx.s, .string dx.nm, .slice Bx mx cx] 26))
  obtain ⟨W, hW⟩ : ∃ W, w2.alloc (.cells #[.int .i64 dx.op, .int .i64 dx.k, .int .i64 dx.n, .string dx.s, .string dx.nm, .slice Bx mx cx] 26) = W := ⟨_, rfl⟩
  rw [hW] at hbA z1 j1
  have hT := HT.out.below hbA
  have hfo := fold_any x dx Bx mx cx W j1 hT
  obtain ⟨y, hy⟩ : ∃ y, Ex.fold x = y := ⟨_, rfl⟩
  have hfr : foldR x = y := by unfold foldR; rw [hckx, if_pos rfl]; exact hy
  obtain ⟨hyok, hyn, _, hyr⟩ := fold_less x hokx
  have hyc := fold_check hckx
  rw [hy] at hyok hyn hyr hyc
  have hfo2 : Calls Tryz.prog 7 #[.agg #[.int .i64 dx.op, .int .i64 dx.k, .int .i64 dx.n, .string dx.s, .string dx.nm, .slice Bx mx cx]] W (fun e W' => ∃ (d : Nd) (B : Option Addr) (m c : Nat), e = .returned (.tuple #[.agg #[.int .i64 d.op, .int .i64 d.k, .int .i64 d.n, .string d.s, .string d.nm, .slice B m c], .int .i64 0]) ∧ IsP (fun b => W.heap.size ≤ b) W' y d B m ∧ Below W.heap.size W W') := by
    unfold FoldOut at hfo; rw [hckx, hfr] at hfo; exact hfo
  have hszx := fun V (hb : Below W.heap.size W V) => size_any x dx Bx mx cx V (by omega) (j1.below hb)
  have hnx := nodes_pos x
  have hhx := fun s V (hb : Below W.heap.size W V) => has_any x s dx Bx mx cx V (j1.below hb)
  have hsub : ∀ s, hasB (Ex.refs y) s = true → hasB (Ex.refs x) s = true := fun s h => (hasB_true _ _).2 (hyr s ((hasB_true _ _).1 h))
  obtain ⟨N, hN⟩ : ∃ N, x.nodes = N := ⟨_, rfl⟩
  obtain ⟨D, hD⟩ : ∃ D, x.depth = D := ⟨_, rfl⟩
  rw [hN, hD] at hszx
  rw [hN] at hnx hyn hx40
  have HFo := Lib.hid hfo2
  have HSzx := Lib.hid hszx
  have HHx := Lib.hid hhx
  have HSub := Lib.hid hsub
  have HYc := Lib.hid hyc
  have HW := Lib.hid hW
  have HBA := Lib.hid hbA
  have HZ := Lib.hid z1
  obtain ⟨m0, m1, m2, m3, m4, m5⟩ := z1.cells
  clear hfo hfo2 hszx hhx hsub hyc hW hbA z1 j1 hT hix hisx hckx hgx hb2 HC hy hfr HMk HP HR0 hN hD hyr hyok hokx
  go_upto_region 2 with fail
  rw [HW.out]
  go_wp2_with fail
  refine HFo.out.mono ?_; rintro e w3 ⟨dy, By, my, cy, rfl, hiy, hb3⟩
  have hiy := hiy.is
  have hbB := b_more hb3 (.cells #[.int .i64 dy.op, .int .i64 dy.k, .int .i64 dy.n, .string dy.s, .string dy.nm, .slice By my cy] 26)
  have zy := Box.new w3 dy By my cy
  have jy := hiy.below (b_new w3 (.cells #[.int .i64 dy.op, .int .i64 dy.k, .int .i64 dy.n, .string dy.s, .string dy.nm, .slice By my cy] 26))
  obtain ⟨X, hX⟩ : ∃ X, w3.alloc (.cells #[.int .i64 dy.op, .int .i64 dy.k, .int .i64 dy.n, .string dy.s, .string dy.nm, .slice By my cy] 26) = X := ⟨_, rfl⟩
  rw [hX] at hbB zy jy
  have zx := HZ.out.below hbB
  obtain ⟨m0, m1, m2, m3, m4, m5⟩ := zx.cells
  obtain ⟨M, hM⟩ : ∃ M, y.nodes = M := ⟨_, rfl⟩
  obtain ⟨D2, hD2⟩ : ∃ D, y.depth = D := ⟨_, rfl⟩
  have hszy := fun V (hb : Below X.heap.size X V) => size_any y dy By my cy V (by omega) (jy.below hb)
  have hcky := fun V (hb : Below X.heap.size X V) => ExC.check_any y dy By my cy V (jy.below hb) (HT.out.below (HBA.out.trans ((b_trans hbB hb).mono HBA.out.size)))
  have hhy := fun s V (hb : Below X.heap.size X V) => has_any y s dy By my cy V (jy.below hb)
  rw [hM, hD2] at hszy
  rw [hM] at hyn
  rw [HYc.out] at hcky
  have HX := Lib.hid hX
  have HBB := Lib.hid hbB
  have HZY := Lib.hid zy
  have HZX := Lib.hid zx
  have HSzy := Lib.hid hszy
  have HCky := Lib.hid hcky
  have HHy := Lib.hid hhy
  have hc := HSzx.out X hbB
  have HC := Lib.hid hc
  clear hX hbB zy jy zx hb3 hiy hc hszy hcky hhy hM hD2
  go_upto_region 3 with fail
  rw [HX.out]
  go_wp2_with fail
  refine HC.out.mono ?_; rintro e w4 ⟨rfl, hb4⟩
  have zy := HZY.out.below hb4
  obtain ⟨m0, m1, m2, m3, m4, m5⟩ := zy.cells
  have hc := HSzy.out w4 hb4
  have HC := Lib.hid hc
  have HB4 := Lib.hid hb4
  clear zy hb4 hc
  go_wp2_with fail
  refine HC.out.mono ?_; rintro e w5 ⟨rfl, hb5⟩
  have hb5' := b_trans HB4.out hb5
  have zy := HZY.out.below hb5'
  obtain ⟨m0, m1, m2, m3, m4, m5⟩ := zy.cells
  have t1 : ¬ ((N : Int) < 1) := by omega
  have t2 : ¬ ((N : Int) < (M : Int)) := by omega
  have hc := HCky.out w5 hb5'
  have HC := Lib.hid hc
  have HB5 := Lib.hid hb5'
  clear zy hb5 hb5' hc
  go_wp2_with fail
  refine HC.out.mono ?_; rintro e w6 ⟨rfl, hb6⟩
  have HB6 := Lib.hid (b_trans HB5.out hb6)
  clear hb6
  go_wp2_with fail
  refine (someX_any _).mono ?_; rintro e w7 ⟨⟨rfl, hfl⟩, hb7⟩
  have HB7 := Lib.hid (b_trans HB6.out hb7)
  have hgl : w6.heap.size < w7.heap.size := by
    obtain ⟨a, ha, hat⟩ := hfl 0 (by decide)
    obtain rfl : (⟨w6.heap.size, 0, none⟩ : Addr) = a := by injection ha
    have := hat.lt
    simpa [Addr.add] using this
  have HFl := Lib.hid hfl
  clear hfl hb7
  go_wp2_with fail
  go_loopw [13, 53] (fun _ v53 wr => ∃ (k : Nat), v53 = .int .i64 k ∧ k ≤ 5 ∧ Below w7.heap.size w7 wr) (fun _ v53 _ => 5 - (intOf v53).toNat)
  case atStart => exact ⟨0, rfl, by omega, Below.refl _ _⟩
  case round =>
    obtain ⟨k, rfl, hk, hbr⟩ := hrel
    by_cases hlt : k < 5
    · obtain ⟨ad, had, hat⟩ := HFl.out k hlt
      obtain rfl : (⟨w6.heap.size, 0, none⟩ : Addr) = ad := by injection had
      obtain ⟨f, hfk⟩ : ∃ f, someF[k]'hlt = f := ⟨_, rfl⟩
      rw [hfk] at hat
      have hee : (⟨w6.heap.size, 0, none⟩ : Addr).add (k * 9) = ⟨w6.heap.size, k * 9, none⟩ := by unfold Addr.add; split <;> simp_all
      rw [hee] at hat
      have hat2 := FdAt.of_block hat (hbr.block _ (by show w6.heap.size < w7.heap.size; exact hgl))
      obtain ⟨q0, q1, q2, q3, q4, q5, q6, q7, q8⟩ := hat2
      simp only at q0 q1 q2 q3 q4 q5 q6 q7 q8
      have hbX := b_trans HB7.out hbr
      have zy := HZY.out.below hbX
      have zx := HZX.out.below hbX
      obtain ⟨m0, m1, m2, m3, m4, m5⟩ := zy.cells
      have yl := zy.lt
      have hbX2 := b_more hbX (.cells #[.string f.nm, .int .i64 f.kind, .int .i64 f.ty, .int .i64 f.d.op, .int .i64 f.d.k, .int .i64 f.d.n, .string f.d.s, .string f.d.nm, .slice f.A f.n f.c] 53)
      have hc := HHy.out f.nm _ hbX2
      obtain ⟨bb, hbb⟩ : ∃ b, hasB (Ex.refs y) f.nm = b := ⟨_, rfl⟩
      have hsb := HSub.out f.nm
      rw [hbb] at hc hsb
      have HC := Lib.hid hc
      have HBX2 := Lib.hid hbX2
      have HBr := Lib.hid hbr
      have HSb := Lib.hid hsb
      have HZXr := Lib.hid zx
      clear hat hc hbX hbX2 zy zx hbr hbb hsb hfk had hee
      go_wp2_with fail
      refine HC.out.mono ?_; rintro e w8 ⟨rfl, hb8⟩
      have hbr8 := b_trans HBr.out (b_then hb8)
      have HBr8 := Lib.hid hbr8
      clear q0 q1 q2 q3 q4 q5 q6 q7 q8 m0 m1 m2 m3 m4 m5 yl hbr8
      cases bb
      · clear hb8
        go_wp2_with fail
        go_roundw
        case rel => exact ⟨k + 1, by go_num, by omega, HBr8.out⟩
        case measure => simp [intOf]; omega
      · have hx := HZXr.out.below (b_then hb8)
        obtain ⟨m0, m1, m2, m3, m4, m5⟩ := hx.cells
        have hnb : w8.heap[wr.heap.size]? = some (.cells #[.string f.nm, .int .i64 f.kind, .int .i64 f.ty, .int .i64 f.d.op, .int .i64 f.d.k, .int .i64 f.d.n, .string f.d.s, .string f.d.nm, .slice f.A f.n f.c] 53 (0, 0)) := (hb8.block _ (by simp)).trans (World.alloc_heap_new wr _)
        have n0 : w8.cell? ⟨wr.heap.size, 0, none⟩ = some (.string f.nm) := by simp [World.cell?, hnb]
        have hc := HHx.out f.nm w8 (b_trans (b_trans HBB.out HBX2.out) hb8)
        rw [HSb.out rfl] at hc
        have HC2 := Lib.hid hc
        clear hc hx hnb hb8
        go_wp2_with fail
        refine HC2.out.mono ?_; rintro e w10 ⟨rfl, hb10⟩
        have HBrE := Lib.hid (b_trans HBr8.out hb10)
        clear hb10 m0 m1 m2 m3 m4 m5 n0
        go_wp2_with fail
        go_roundw
        case rel => exact ⟨k + 1, by go_num, by omega, HBrE.out⟩
        case measure => simp [intOf]; omega
    · have hk5 : k = 5 := by omega
      subst hk5
      have HBE := Lib.hid (b_trans (b_trans HBA.out HBB.out) (b_trans HB7.out hbr))
      clear hbr
      go_wp2_with fail
      go_ret
      exact ⟨by simp, HBE.out⟩

theorem not_of {W : World} (h : laidMetH Tryz.prog Rows.foldLessRow.laid W) : ExN.Tab W := by
  have h0 : laidMet Tryz.prog Rows.foldLessRow.laid W := by rw [MakeChecks.laidMetH_plain _ _ _ (by kernel_rfl)] at h; exact h
  have h1 := h0
  exact NotTab.is_of_head (g := 0) (t := 99) (e := 98) (n := 19) (by kernel_rfl) (by kernel_rfl) Tryz.underlying99 (by kernel_rfl) Tryz.underlying98 (by kernel_rfl) rfl rfl rfl Tryz.underlying9 Tryz.underlying3 Tryz.underlying3 (by kernel_rfl) (by kernel_rfl) (by kernel_rfl) h1

/-! ### The row's step -/
set_option maxRecDepth 100000 in
theorem lifted (os : Os) (started : os.Started) (H : Type) (enc : TypeId × Value → H) :
    ReturnsInHanded {} Tryz.checked os 5 .any (fun w args => (Rows.foldLessSpec.pre enc Tryz.prog Tryz.f5 [] false w args ∧ laidMetH Tryz.prog Rows.foldLessRow.laid w) ∧ sizedMet enc Tryz.prog Tryz.f5 (OpenSpec.ofChange Rows.foldLessSpec) false w args) (Rows.foldLessSpec.post enc Tryz.prog Tryz.f5 false true false false) := by
  refine returnsInHanded_of_change_and (C := Tryz.checked) (X := fun w _ => laidMetH Tryz.prog Rows.foldLessRow.laid w) (fun _ _ _ hh h => h.of_heap hh) own started (by kernel_rfl) Tryz.func5
    (ChangeSpec.witness_shaped (enc := enc) (C := Tryz.checked) (os := os) (X := fun w _ => laidMetH Tryz.prog Rows.foldLessRow.laid w) false (World.laidAll Tryz.prog os Rows.foldLessRow.laid) #[.slice none 0 0, .int .i64 0] 8 (World.laidAll_os _ _ _) (World.shaped_of_ZipB (by kernel_rfl) (by kernel_rfl)) (by kernel_rfl) (by kernel_rfl) (by kernel_rfl) (by rw [MakeChecks.laidMetH_plain _ _ _ (by kernel_rfl)]; exact laidMet_laidAll _ (by kernel_rfl) (by kernel_rfl))) ?_
  intro W base args ds gs before hval0 hW hcnd hsz hL _
  have hval : ∀ (j : Nat) t v, Tryz.f5.params[j]? = some t → args[j]? = some v → Value.okWide Tryz.prog W .any base t v := hval0
  have hW' := hW
  obtain ⟨p, q, hA0, hV, rfl, hfz, hnd⟩ := hW
  have hA : DataW.TrodAll enc Tryz.prog W 0 (fun _ => true) true Tryz.f5.params.toList args.toList ds p := hA0
  rw [Tryz.params5] at hA hval
  obtain ⟨v0, vs0, d0, ds0, p0, q0, hargs, rfl, rfl, h0, r0⟩ := trodAll_cons hA
  obtain ⟨v1, vs1, d1, ds1, p1, q1, rfl, rfl, rfl, h1, r1⟩ := trodAll_cons r0
  obtain ⟨rfl, rfl, rfl⟩ := trodAll_nil r1
  obtain rfl : args = #[v0, v1] := by cases args; simp_all
  obtain ⟨rfl, rfl⟩ := trodVars_none hV
  have k0 := h0
  have lt0 : ∀ x ∈ p0, x.block < W.heap.size := by obtain ⟨m, hm⟩ := k0; exact DataW.trod_lt m _ _ _ hm
  obtain ⟨A0, n0, c0, rfl, hraw0⟩ := RawO.open_raws (hval 0 37 v0 rfl rfl) h0
  have k1 := h1
  have lt1 : ∀ x ∈ p1, x.block < W.heap.size := by obtain ⟨m, hm⟩ := k1; exact DataW.trod_lt m _ _ _ hm
  obtain ⟨a1, rfl, rfl, rfl, w1⟩ := open_int Tryz.underlying3 (hval 1 3 v1 rfl rfl) h1
  clear hA0 hval0
  refine (walk A0 n0 c0 a1 w1 W hraw0 (not_of hL)).mono fun e W' ⟨he, bel⟩ => ?_
  subst he
  exact ⟨_, rfl, _, _, _, [], _, [], hW', trodAll_mk1 (shut_bool Tryz.underlying4 _), (trodAll_cons_mk (Below.trod laidOut (by kernel_rfl) (of_decide_eq_true (by kernel_rfl)) k0 bel lt0) (trodAll_cons_mk (Below.trod laidOut (by kernel_rfl) (of_decide_eq_true (by kernel_rfl)) k1 bel lt1) trodAll_mk0)), rfl, bel.frame _, fun h => by cases h⟩

theorem over : Rows.foldLessRow.holds Tryz.pinned (OpenSpec.ofChange Rows.foldLessSpec) :=
  OpenClaim.holds_of_wide 5 Tryz.f5 rfl rfl rfl rfl rfl rfl rfl ⟨rfl, rfl, rfl, rfl, rfl⟩ rfl rfl rfl rfl rfl (by kernel_rfl) Tryz.func5 (by kernel_rfl)
    (of_decide_eq_true (by kernel_rfl)) (by unfold Func.isWrapper; first | (rw [if_pos (by decide +kernel)]; kernel_rfl) | (rw [if_neg (by decide +kernel)]; exact ⟨rfl, rfl⟩))
    (fun os started H enc _ => lifted os started H enc)

/-- The tied card. -/
theorem proved : Rows.FoldLessCardSaid :=
  Claim7.holds_tied_plain_at .later [] [.data] true (true, "ae40beb460a2ed87241e57f8ebfdcc3168592c69536a1755b1ac59dfa71bbbdb") false
    over (fun _ h => by cases h) (by kernel_rfl) (fun _ h => by cases h) foldLess_row_tie rfl ⟨rfl, rfl⟩ (by kernel_rfl) rfl
    (fun f fn hf hfn => by
      obtain rfl : f = 5 := Option.some.inj ((show Tryz.prog.funcNamed "lychway/lychwaykeep.FoldLess" = some 5 by kernel_rfl).symm.trans hf) |>.symm
      obtain rfl : fn = Tryz.f5 := (Option.some.inj (Tryz.func5.symm.trans hfn)).symm
      exact ⟨by kernel_rfl, fun j t ht => by
        rw [Tryz.params5] at ht
        have hm : t ∈ [37, 3] := by simpa using Array.mem_of_getElem? ht
        have hall : ([37, 3].all fun u => !Tryz.prog.wantsStandIn u) = true := by kernel_rfl
        exact (show Tryz.prog.wantsStandIn t = false by simpa using List.all_eq_true.1 hall t hm)⟩)
    (by kernel_rfl)
#print axioms proved
end Go.Proofs.YtehkebncdahmcaaGreatDoor.foldLess
