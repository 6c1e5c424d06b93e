/- What is proved: the Go law lychwaykeep.EvalGrows returns true for all its arguments, and leaves them as they were. No condition. -/
import Derived.Test.YtbdofaaemgckiaaDoorRows
import Derived.Test.YtbdofaaemgckiaaDoorEvKit
import Derived.Test.YtbdofaaemgckiaaDoorNmHas
import Derived.Test.YtbdofaaemgckiaaDoorRawOpen
import Derived.Test.YtbdofaaemgckiaaDoorKit
import Derived.WalkKit
import Derived.ProofKit
import Derived.OpenShut
import Derived.Deep.RegionHeld3
import Derived.Deep.DrawnRows
import Derived.Deep.DeepCutAuto
import Derived.Deep.QuietTactic
import Derived.BigQuiet
import Derived.WalkSpells
import Derived.WalkLawsBesides
import Derived.Lib.Hide
import Derived.Outline
import Derived.ShutString
import Derived.ChangeOld
import Derived.Below
import Derived.LaidMore
import Derived.SizedLaws
import Derived.Stop.Joined
import Derived.Stop.LaidErr
import Derived.Lib.LaidTab
import Derived.SevenTiedAt
import Derived.Lay
import Derived.LaidOnce
import Derived.Deep.DeepHandedRow
import Derived.Test.YtbdofaaemgckiaaDoorCards
import Derived.Test.YtbdofaaemgckiaaDoorTie
namespace Go.Proofs.YtbdofaaemgckiaaDoor.evalGrows
open ValM ExM NmM TyM EvM EvP Kit ExL ExP ExN ExV RawL RawV Within GenL Gen GenE GenT NmC NmP NmH NmG EvC EvO EvF EvG EvE EvK
open Go.ChangeShapes Go.WideShapes Go.ChangeAt Go.RowKit
open Go.ChangeMaps (open_string shut_string)
set_option linter.unusedVariables false

theorem own : ownKnob Tryd.prog.godebug = none := by kernel_rfl
theorem laidOut : laidOutB Tryd.prog = true := by kernel_rfl


/-! ### The walk -/
set_option maxRecDepth 100000 in
set_option maxHeartbeats 2000000 in
theorem walk (A0 : Option Addr) (n0 : Nat) (c0 : Nat) (A1 : Option Addr) (n1 : Nat) (c1 : Nat) (a2 : Int) (a3 : Int) (w2 : (Lit.int .i64 a2).wf = true) (w3 : (Lit.int .i64 a3).wf = true) (w : World) (hraw0 : RawL.Raws w A0 n0 c0) (hraw1 : RawL.Raws w A1 n1 c1) (ht : ExN.Tab w) :
    Calls Tryd.prog 7 #[.slice A0 n0 c0, .slice A1 n1 c1, .int .i64 a2, .int .i64 a3] w fun e w' => e = .returned (.bool true) ∧ Below w.heap.size w w' := by
  obtain ⟨pk, hpk⟩ : ∃ p, pick a2 3 = p := ⟨_, rfl⟩
  have hpb := pick_bd a2 3 (by decide)
  have hp := fun W => picked_any a2 3 W w2 (by decide) (by decide)
  rw [hpk] at hp hpb
  obtain ⟨pb0, pb1⟩ := hpb
  have HP := Lib.hid hp
  obtain ⟨pq, hpq⟩ : ∃ p, pick a3 5 = p := ⟨_, rfl⟩
  have hqb := pick_bd a3 5 (by decide)
  have hq := fun W => picked_any a3 5 W w3 (by decide) (by decide)
  rw [hpq] at hq hqb
  obtain ⟨qb0, qb1⟩ := hqb
  have HQ := Lib.hid hq
  clear hq hpq w3
  have HT := Lib.hid ht
  have HR0 := Lib.hid hraw0
  have HR1 := Lib.hid hraw1
  clear hp hpk ht hraw0 hraw1 w2
  have hmk : ∀ W FA fc, Raws W A0 n0 c0 → Flds W FA someF → Calls Tryd.prog 14 #[.slice A0 n0 c0, .int .i64 (1 + pk), .slice FA 5 fc] W (ExprOut someF (1 + pk) W) := fun W FA fc hr hf => make_any n0 c0 fc A0 FA someF (1 + pk) W hr hf (by decide) someF_sz
  have HMk := Lib.hid hmk
  clear hmk
  go_enter Tryd.func7, Tryd.ntmps7
  go_wp2_with fail
  refine (HP.out _).mono ?_; rintro e w9 ⟨rfl, rfl⟩
  go_wp2_with fail
  refine (someX_any _).mono ?_; rintro e w1 ⟨⟨rfl, hfl⟩, hb1⟩
  have hr1 : Raws w1 A0 n0 c0 := HR0.out.keep fun p v0 v1 v2 h0 h2 => hb1.block _ (cell_lt' h0)
  have HC := Lib.hid (HMk.out w1 _ 5 hr1 hfl)
  have HB1 := Lib.hid hb1
  clear hr1 hfl hb1
  go_wp2_with fail
  refine HC.out.mono ?_; rintro e w2 ⟨x, dx, Bx, mx, cx, rfl, hgx, hisx, hb2⟩
  obtain ⟨hckx, hx40, _, hokx⟩ := gn_check someF_nm hgx
  have hix := hisx.is
  have hbA : Below w.heap.size w (w2.alloc (.cells #[.int .i64 dx.op, .int .i64 dx.k, .int .i64 dx.n, .string dx.s, .string dx.nm, .slice Bx mx cx] 26)) := b_more (b_trans HB1.out hb2) _
  have z1 := Box.new w2 dx Bx mx cx
  have j1 := hix.below (b_new w2 (.cells #[.int .i64 dx.op, .int .i64 dx.k, .int .i64 dx.n, .string dx.s, .string dx.nm, .slice Bx mx cx] 26))
  obtain ⟨W, hW⟩ : ∃ W, w2.alloc (.cells #[.int .i64 dx.op, .int .i64 dx.k, .int .i64 dx.n, .string dx.s, .string dx.nm, .slice Bx mx cx] 26) = W := ⟨_, rfl⟩
  rw [hW] at hbA z1 j1
  have hr1 : Raws W A1 n1 c1 := HR1.out.keep fun p v0 v1 v2 h0 h2 => hbA.block _ (cell_lt' h0)
  have HF1 := Lib.hid (facts_any n1 c1 A1 W hr1)
  have Z1 := Lib.hid z1
  have J1 := Lib.hid j1
  have HBA := Lib.hid hbA
  have HW := Lib.hid hW
  have HCk := Lib.hid hckx
  clear hr1 hW z1 j1 hbA hix hisx hckx hx40 hb2 HC HB1
  go_wp2_with fail
  rw [HW.out]
  refine HF1.out.mono ?_; rintro e w3 ⟨vs, g1, cap1, rfl, hl1, ok1, hg1, ⟨rest1, hrow1⟩, hb3⟩
  have hrow1' : RowF w3 g1 vs rest1 := hrow1
  have HRow1 := Lib.hid hrow1'
  have HB3 := Lib.hid hb3
  have HZ3 := Lib.hid (Z1.out.below hb3)
  have HJ3 := Lib.hid (J1.out.below hb3)
  have HT3 := Lib.hid (HT.out.below (b_trans HBA.out hb3))
  have HV := Lib.hid (show Fits5 vs from ⟨hl1, ok1⟩)
  have HCl := Lib.hid (clone_facts vs rest1 g1 cap1 w3 hl1 hrow1')
  clear hrow1 hrow1' hb3 ok1 HF1
  go_wp2_with fail
  refine HCl.out.mono ?_; rintro e w4 ⟨g2, cap2, rest2, rfl, hg2, hrow2, hb4⟩
  have HRow2 := Lib.hid hrow2
  have HB4 := Lib.hid hb4
  clear hrow2 hb4 HCl
  go_wp2_with fail
  refine (HQ.out _).mono ?_; rintro e w5 ⟨rfl, rfl⟩
  obtain ⟨p, rfl⟩ : ∃ p : Nat, (p : Int) = pq := ⟨pq.toNat, by omega⟩
  have hp5 : p < vs.length := by rw [HV.out.1]; omega
  obtain ⟨t0, t1, t2, t3, t4, t5, t6⟩ := HRow2.out.cells p hp5
  have tf := HRow2.out.frozen
  have tl := HRow2.out.lt
  have i1 : (p : Int) < (5 : Int) := by omega
  obtain ⟨Y, hY⟩ : ∃ Y, (((w4.setCell ⟨g2, p * 7 + 4, none⟩ (.int .i64 4)).setCell ⟨g2, p * 7 + 4 + 1, none⟩ (.int .i64 0)).setCell ⟨g2, p * 7 + 4 + 2, none⟩ (.string ⟨#[]⟩)) = Y := ⟨_, rfl⟩
  have hs3 : RowF Y g2 (vs.set p { vs[p] with v := ⟨4, 0, ⟨#[]⟩⟩ }) rest2 := by rw [← hY]; exact HRow2.out.set3 p hp5 ⟨4, 0, ⟨#[]⟩⟩
  have hb5 : Below w3.heap.size w3 Y := by rw [← hY]; exact b_set3' HB4.out g2 hg2 (p * 7 + 4) (p * 7 + 5) (p * 7 + 6) (.int .i64 4) (.int .i64 0) (.string ⟨#[]⟩)
  have HY := Lib.hid hY
  have HS3 := Lib.hid hs3
  have HB5 := Lib.hid hb5
  have hus : (vs.set p { vs[p] with v := ⟨4, 0, ⟨#[]⟩⟩ }).length = 5 := by rw [List.length_set, HV.out.1]
  have hnm : ∀ f ∈ vs.set p { vs[p] with v := ⟨4, 0, ⟨#[]⟩⟩ }, f.nm.size ≤ maxLen := fun f hf => by
    rcases List.mem_or_eq_of_mem_set hf with h | h
    · exact HV.out.names f h
    · rw [h]; exact HV.out.names vs[p] (List.getElem_mem hp5)
  have hoks : ∀ f ∈ fcs (vs.set p { vs[p] with v := ⟨4, 0, ⟨#[]⟩⟩ }), f.2.ok := fun f hf => by
    unfold fcs at hf
    obtain ⟨q, hq, rfl⟩ := List.mem_map.1 hf
    rcases List.mem_or_eq_of_mem_set hq with h | h
    · exact HV.out.ok _ (List.mem_map.2 ⟨q, h, rfl⟩)
    · rw [h]; exact (rfl : (⟨4, 0, ⟨#[]⟩⟩ : Vl).ok)
  have hgro : Gro (Ex.ev (fcs vs) x) (Ex.ev (fcs (vs.set p { vs[p] with v := ⟨4, 0, ⟨#[]⟩⟩ })) x) := ev_gro (fun s => factV_gro (by rw [fcs_len, fcs_len, List.length_set]) fun i h1 h2 => by
    rw [fcs_len] at h1 h2
    rw [fcs_at _ i h1, fcs_at _ i h2]
    simp only [List.getElem_set]
    by_cases e : p = i
    · subst e; rw [if_pos rfl]; exact ⟨rfl, .inl rfl⟩
    · rw [if_neg e]; exact ⟨rfl, gro_refl _⟩) x
  obtain ⟨us, hu⟩ : ∃ us, vs.set p { vs[p] with v := ⟨4, 0, ⟨#[]⟩⟩ } = us := ⟨_, rfl⟩
  rw [hu] at hus hnm hoks hgro
  have hs3' := HS3.out
  rw [hu] at hs3'
  have e1 := fun V (hV : Below Y.heap.size Y V) => of_good x vs (some ⟨g1, 0, none⟩) cap1 dx Bx mx cx V (by rw [HV.out.1]; decide) HV.out.names (HJ3.out.below (HB5.out.trans (hV.mono HB5.out.size))) (HRow1.out.below (HB5.out.trans (hV.mono HB5.out.size))).fcs (HT3.out.below (HB5.out.trans (hV.mono HB5.out.size))) HCk.out HV.out.ok
  have e2 := fun V (hV : Below Y.heap.size Y V) => of_good x us (some ⟨g2, 0, none⟩) cap2 dx Bx mx cx V (by rw [hus]; decide) hnm (HJ3.out.below (HB5.out.trans (hV.mono HB5.out.size))) (hs3'.below hV).fcs (HT3.out.below (HB5.out.trans (hV.mono HB5.out.size))) HCk.out hoks
  rw [HV.out.1] at e1
  rw [hus] at e2
  have hov := ev_ok HV.out.ok x hokx
  have hou := ev_ok hoks x hokx
  obtain ⟨v, hv⟩ : ∃ v, Ex.ev (fcs vs) x = v := ⟨_, rfl⟩
  obtain ⟨u, hu2⟩ : ∃ u, Ex.ev (fcs us) x = u := ⟨_, rfl⟩
  rw [hv] at e1 hgro hov
  rw [hu2] at e2 hgro hou
  obtain ⟨vk, vn, vz⟩ := v
  obtain ⟨uk, un, uz⟩ := u
  simp only at e1 e2
  have HE1 := Lib.hid e1
  have HE2 := Lib.hid e2
  have HGro := Lib.hid hgro
  have hfz : vk = 5 ∧ uk = 5 → vz = ⟨#[]⟩ ∧ uz = ⟨#[]⟩ := fun h => by
    have key : ∀ (n : Int) (s : ByteArray), (⟨5, n, s⟩ : Vl).ok → s = ⟨#[]⟩ := fun n s ho => by
      rcases ok_cases ho with g | g | g | g | g
      · exact absurd (show (5 : Int) = 1 from g.1) (by decide)
      · exact absurd (show (5 : Int) = 2 from g.1) (by decide)
      · exact absurd (show (5 : Int) = 3 from g.1) (by decide)
      · exact absurd (show (5 : Int) = 4 from g.1) (by decide)
      · exact g.2.2.2
    exact ⟨key _ _ (by rw [← h.1]; exact hov), key _ _ (by rw [← h.2]; exact hou)⟩
  have HFz := Lib.hid hfz
  have hone := fun V (hV : Below Y.heap.size Y V) g hr => one_at 4 0 ⟨#[]⟩ rfl V g hr (HT3.out.below (HB5.out.trans (hV.mono HB5.out.size)))
  have HOne := Lib.hid hone
  have HBW := Lib.hid (b_trans (b_trans HBA.out HB3.out) HB5.out)
  have hxr := HZ3.out.below HB5.out
  have HXr := Lib.hid hxr
  obtain ⟨m0, m1, m2, m3, m4, m5⟩ := hxr.cells
  clear hfz hov hou e1 e2 hv hu hu2 hone hxr hs3 hs3' hb5 hgro hus hnm hoks hY HV HRow1 HRow2 HZ3 HJ3 HMk HR0 HR1 HP HQ Z1 J1 HT HT3 HS3 HB5
  go_upto_region 5 with fail
  rw [HY.out]
  clear t0 t1 t2 t3 t4 t5 t6 tf tl
  go_wp2_with fail
  refine (HE1.out _ (Below.refl _ _)).mono ?_; rintro e w6 ⟨rfl, hb6⟩
  have k1 := BV.new w6 vk vn vz
  have c1 := b_more hb6 (.cells #[.int .i64 vk, .int .i64 vn, .string vz] 23)
  have K1 := Lib.hid k1
  have C1 := Lib.hid c1
  obtain ⟨m0', m1', m2', m3', m4', m5'⟩ := (HXr.out.below hb6).cells
  have ml := (HXr.out.below hb6).lt
  clear k1 c1 hb6 m0 m1 m2 m3 m4 m5
  go_wp2_with fail
  refine (HE2.out _ C1.out).mono ?_; rintro e w7 ⟨rfl, hb7⟩
  have k1 := K1.out.below hb7
  have k2 := BV.new w7 uk un uz
  have c2 := b_more (b_trans C1.out hb7) (.cells #[.int .i64 uk, .int .i64 un, .string uz] 23)
  have K1 := Lib.hid (k1.below (b_new w7 (.cells #[.int .i64 uk, .int .i64 un, .string uz] 23)))
  have K2 := Lib.hid k2
  have C2 := Lib.hid c2
  have hrn := row_new (w7.alloc (.cells #[.int .i64 uk, .int .i64 un, .string uz] 23)) ⟨#[110]⟩ 4 0 ⟨#[]⟩
  rw [World.size_alloc] at hrn
  have ho := HOne.out _ (b_more c2 (.cells #[.string ⟨#[110]⟩, .int .i64 0, .int .i64 0, .string ⟨#[]⟩, .int .i64 4, .int .i64 0, .string ⟨#[]⟩] 44)) _ hrn
  have HO := Lib.hid ho
  have K1 := Lib.hid (K1.out.below (b_new _ (.cells #[.string ⟨#[110]⟩, .int .i64 0, .int .i64 0, .string ⟨#[]⟩, .int .i64 4, .int .i64 0, .string ⟨#[]⟩] 44)))
  have K2 := Lib.hid (K2.out.below (b_new _ (.cells #[.string ⟨#[110]⟩, .int .i64 0, .int .i64 0, .string ⟨#[]⟩, .int .i64 4, .int .i64 0, .string ⟨#[]⟩] 44)))
  have C2 := Lib.hid (b_more C2.out (.cells #[.string ⟨#[110]⟩, .int .i64 0, .int .i64 0, .string ⟨#[]⟩, .int .i64 4, .int .i64 0, .string ⟨#[]⟩] 44))
  clear hrn k1 k2 c2 ho hb7 m0' m1' m2' m3' m4' m5'
  go_wp2_with fail
  with_reducible refine HO.out.mono ?_
  rintro e w8 ⟨rfl, hb8⟩
  obtain ⟨x0, x1, x2⟩ := (K1.out.below hb8).cells
  obtain ⟨y0, y1, y2⟩ := (K2.out.below hb8).cells
  have xl := (K1.out.below hb8).lt
  have yl := (K2.out.below hb8).lt
  have HBE := Lib.hid (b_trans HBW.out (b_trans C2.out hb8))
  have hgro : uk = 4 ∨ (vk = uk ∧ vn = un ∧ vz = uz) ∨ (vk = 5 ∧ uk = 5) := by
    rcases HGro.out with h | h | h
    · exact .inl h
    · injection h with h1 h2 h3; exact .inr (.inl ⟨h1, h2, h3⟩)
    · exact .inr (.inr h)
  clear hb8 HGro
  by_cases hu4 : uk = 4
  · subst hu4
    go_wp2_with fail
    go_ret
    exact ⟨by simp, b_more HBE.out _⟩
  · have tu : (uk == 4) = false := beq_eq_false_iff_ne.2 hu4
    rcases hgro with h | ⟨rfl, rfl, rfl⟩ | h
    · exact absurd h hu4
    · go_wp2_with fail
      go_ret
      exact ⟨by simp, b_more HBE.out _⟩
    · obtain ⟨hz1, hz2⟩ := HFz.out h
      obtain ⟨h1, h2⟩ := h
      subst h1 h2 hz1 hz2
      clear HFz HE1 HE2
      by_cases hn : vn = un
      · subst hn
        go_wp2_with fail
        go_ret
        exact ⟨by simp, b_more HBE.out _⟩
      · have tn : (vn == un) = false := beq_eq_false_iff_ne.2 hn
        go_wp2_with fail
        go_ret
        exact ⟨by simp, b_more HBE.out _⟩

theorem not_of {W : World} (h : laidMetH Tryd.prog Rows.evalGrowsRow.laid W) : ExN.Tab W := by
  have h0 : laidMet Tryd.prog Rows.evalGrowsRow.laid W := by rw [MakeChecks.laidMetH_plain _ _ _ (by kernel_rfl)] at h; exact h
  have h1 := h0
  exact NotTab.is_of_head (g := 0) (t := 113) (e := 112) (n := 19) (by kernel_rfl) (by kernel_rfl) Tryd.underlying113 (by kernel_rfl) Tryd.underlying112 (by kernel_rfl) rfl rfl rfl Tryd.underlying9 Tryd.underlying3 Tryd.underlying3 (by kernel_rfl) (by kernel_rfl) (by kernel_rfl) h1

/-! ### The row's step -/
set_option maxRecDepth 100000 in
theorem lifted (os : Os) (started : os.Started) (H : Type) (enc : TypeId × Value → H) :
    ReturnsInHanded {} Tryd.checked os 7 .any (fun w args => (Rows.evalGrowsSpec.pre enc Tryd.prog Tryd.f7 [] false w args ∧ laidMetH Tryd.prog Rows.evalGrowsRow.laid w) ∧ sizedMet enc Tryd.prog Tryd.f7 (OpenSpec.ofChange Rows.evalGrowsSpec) false w args) (Rows.evalGrowsSpec.post enc Tryd.prog Tryd.f7 false true false false) := by
  refine returnsInHanded_of_change_and (C := Tryd.checked) (X := fun w _ => laidMetH Tryd.prog Rows.evalGrowsRow.laid w) (fun _ _ _ hh h => h.of_heap hh) own started (by kernel_rfl) Tryd.func7
    (ChangeSpec.witness_shaped (enc := enc) (C := Tryd.checked) (os := os) (X := fun w _ => laidMetH Tryd.prog Rows.evalGrowsRow.laid w) false (World.laidAll Tryd.prog os Rows.evalGrowsRow.laid) #[.slice none 0 0, .slice none 0 0, .int .i64 0, .int .i64 0] 8 (World.laidAll_os _ _ _) (World.shaped_of_ZipB (by kernel_rfl) (by kernel_rfl)) (by kernel_rfl) (by kernel_rfl) (by kernel_rfl) (by rw [MakeChecks.laidMetH_plain _ _ _ (by kernel_rfl)]; exact laidMet_laidAll _ (by kernel_rfl) (by kernel_rfl))) ?_
  intro W base args ds gs before hval0 hW hcnd hsz hL _
  have hval : ∀ (j : Nat) t v, Tryd.f7.params[j]? = some t → args[j]? = some v → Value.okWide Tryd.prog W .any base t v := hval0
  have hW' := hW
  obtain ⟨p, q, hA0, hV, rfl, hfz, hnd⟩ := hW
  have hA : DataW.TrodAll enc Tryd.prog W 0 (fun _ => true) true Tryd.f7.params.toList args.toList ds p := hA0
  rw [Tryd.params7] at hA hval
  obtain ⟨v0, vs0, d0, ds0, p0, q0, hargs, rfl, rfl, h0, r0⟩ := trodAll_cons hA
  obtain ⟨v1, vs1, d1, ds1, p1, q1, rfl, rfl, rfl, h1, r1⟩ := trodAll_cons r0
  obtain ⟨v2, vs2, d2, ds2, p2, q2, rfl, rfl, rfl, h2, r2⟩ := trodAll_cons r1
  obtain ⟨v3, vs3, d3, ds3, p3, q3, rfl, rfl, rfl, h3, r3⟩ := trodAll_cons r2
  obtain ⟨rfl, rfl, rfl⟩ := trodAll_nil r3
  obtain rfl : args = #[v0, v1, v2, v3] := by cases args; simp_all
  obtain ⟨rfl, rfl⟩ := trodVars_none hV
  have k0 := h0
  have lt0 : ∀ x ∈ p0, x.block < W.heap.size := by obtain ⟨m, hm⟩ := k0; exact DataW.trod_lt m _ _ _ hm
  obtain ⟨A0, n0, c0, rfl, hraw0⟩ := RawO.open_raws (hval 0 32 v0 rfl rfl) h0
  have k1 := h1
  have lt1 : ∀ x ∈ p1, x.block < W.heap.size := by obtain ⟨m, hm⟩ := k1; exact DataW.trod_lt m _ _ _ hm
  obtain ⟨A1, n1, c1, rfl, hraw1⟩ := RawO.open_raws (hval 1 32 v1 rfl rfl) h1
  have k2 := h2
  have lt2 : ∀ x ∈ p2, x.block < W.heap.size := by obtain ⟨m, hm⟩ := k2; exact DataW.trod_lt m _ _ _ hm
  obtain ⟨a2, rfl, rfl, rfl, w2⟩ := open_int Tryd.underlying3 (hval 2 3 v2 rfl rfl) h2
  have k3 := h3
  have lt3 : ∀ x ∈ p3, x.block < W.heap.size := by obtain ⟨m, hm⟩ := k3; exact DataW.trod_lt m _ _ _ hm
  obtain ⟨a3, rfl, rfl, rfl, w3⟩ := open_int Tryd.underlying3 (hval 3 3 v3 rfl rfl) h3
  clear hA0 hval0
  refine (walk A0 n0 c0 A1 n1 c1 a2 a3 w2 w3 W hraw0 hraw1 (not_of hL)).mono fun e W' ⟨he, bel⟩ => ?_
  subst he
  exact ⟨_, rfl, _, _, _, [], _, [], hW', trodAll_mk1 (shut_bool Tryd.underlying4 _), (trodAll_cons_mk (Below.trod laidOut (by kernel_rfl) (of_decide_eq_true (by kernel_rfl)) k0 bel lt0) (trodAll_cons_mk (Below.trod laidOut (by kernel_rfl) (of_decide_eq_true (by kernel_rfl)) k1 bel lt1) (trodAll_cons_mk (Below.trod laidOut (by kernel_rfl) (of_decide_eq_true (by kernel_rfl)) k2 bel lt2) (trodAll_cons_mk (Below.trod laidOut (by kernel_rfl) (of_decide_eq_true (by kernel_rfl)) k3 bel lt3) trodAll_mk0)))), rfl, bel.frame _, fun h => by cases h⟩

theorem over : Rows.evalGrowsRow.holds Tryd.pinned (OpenSpec.ofChange Rows.evalGrowsSpec) :=
  OpenClaim.holds_of_wide 7 Tryd.f7 rfl rfl rfl rfl rfl rfl rfl ⟨rfl, rfl, rfl, rfl, rfl⟩ rfl rfl rfl rfl rfl (by kernel_rfl) Tryd.func7 (by kernel_rfl)
    (of_decide_eq_true (by kernel_rfl)) (by unfold Func.isWrapper; first | (rw [if_pos (by decide +kernel)]; kernel_rfl) | (rw [if_neg (by decide +kernel)]; exact ⟨rfl, rfl⟩))
    (fun os started H enc _ => lifted os started H enc)

/-- The tied card. -/
theorem proved : Rows.EvalGrowsCardSaid :=
  Claim7.holds_tied_plain_at .later [] [.data] true (true, "e7e778849e5474a99cfe14a85150a9c1848083beaff400444cc53060f832e11e") false
    over (fun _ h => by cases h) (by kernel_rfl) (fun _ h => by cases h) evalGrows_row_tie rfl ⟨rfl, rfl⟩ (by kernel_rfl) rfl
    (fun f fn hf hfn => by
      obtain rfl : f = 7 := Option.some.inj ((show Tryd.prog.funcNamed "lychway/lychwaykeep.EvalGrows" = some 7 by kernel_rfl).symm.trans hf) |>.symm
      obtain rfl : fn = Tryd.f7 := (Option.some.inj (Tryd.func7.symm.trans hfn)).symm
      exact ⟨by kernel_rfl, fun j t ht => by
        rw [Tryd.params7] at ht
        have hm : t ∈ [32, 32, 3, 3] := by simpa using Array.mem_of_getElem? ht
        have hall : ([32, 32, 3, 3].all fun u => !Tryd.prog.wantsStandIn u) = true := by kernel_rfl
        exact (show Tryd.prog.wantsStandIn t = false by simpa using List.all_eq_true.1 hall t hm)⟩)
    (by kernel_rfl)
#print axioms proved
end Go.Proofs.YtbdofaaemgckiaaDoor.evalGrows
