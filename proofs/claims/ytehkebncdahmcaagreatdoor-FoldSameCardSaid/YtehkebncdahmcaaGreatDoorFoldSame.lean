/- What is proved: the Go law lychwaykeep.FoldSame returns true for all its arguments, and leaves them as they were. No condition. -/
import Derived.Test.YtehkebncdahmcaaGreatDoorRows
import Derived.Test.YtehkebncdahmcaaGreatDoorFoAll
import Derived.Test.YtehkebncdahmcaaGreatDoorEvKit
import Derived.Test.YtehkebncdahmcaaGreatDoorNmGen
import Derived.Test.YtehkebncdahmcaaGreatDoorRawOpen
import Derived.Test.YtehkebncdahmcaaGreatDoorWithin
import Derived.Test.YtehkebncdahmcaaGreatDoorKit
import Derived.WalkKit
import Derived.ProofKit
import Derived.OpenShut
import Derived.Deep.RegionHeld3
import Derived.Deep.DrawnRows
import Derived.Deep.DeepCutAuto
import Derived.Deep.QuietTactic
import Derived.BigQuiet
import Derived.WalkSpells
import Derived.WalkLawsBesides
import Derived.Lib.Hide
import Derived.Outline
import Derived.ShutString
import Derived.ChangeOld
import Derived.Below
import Derived.LaidMore
import Derived.SizedLaws
import Derived.Stop.Joined
import Derived.Stop.LaidErr
import Derived.Lib.LaidTab
import Derived.SevenTiedAt
import Derived.Lay
import Derived.LaidOnce
import Derived.Deep.DeepHandedRow
import Derived.Test.YtehkebncdahmcaaGreatDoorCards
import Derived.Test.YtehkebncdahmcaaGreatDoorTie
namespace Go.Proofs.YtehkebncdahmcaaGreatDoor.foldSame
open ValM ExM NmM TyM EvM EvP FoM Kit ExL ExP ExN ExV RawL RawV Within GenL Gen GenE GenT NmC NmG EvC EvO EvF EvG EvE EvK Fo FoT FoS
open Go.ChangeShapes Go.WideShapes Go.ChangeAt Go.RowKit
open Go.ChangeMaps (open_string shut_string)
set_option linter.unusedVariables false

theorem own : ownKnob Tryz.prog.godebug = none := by kernel_rfl
theorem laidOut : laidOutB Tryz.prog = true := by kernel_rfl


/-! ### The walk -/
set_option maxRecDepth 100000 in
set_option maxHeartbeats 4000000 in
theorem walk (A0 : Option Addr) (n0 : Nat) (c0 : Nat) (A1 : Option Addr) (n1 : Nat) (c1 : Nat) (a2 : Int) (a3 : Int) (w2 : (Lit.int .i64 a2).wf = true) (w3 : (Lit.int .i64 a3).wf = true) (w : World) (hraw0 : RawL.Raws w A0 n0 c0) (hraw1 : RawL.Raws w A1 n1 c1) (ht : ExN.Tab w) :
    Calls Tryz.prog 4 #[.slice A0 n0 c0, .slice A1 n1 c1, .int .i64 a2, .int .i64 a3] w fun e w' => e = .returned (.bool true) ∧ Below w.heap.size w w' := by
  obtain ⟨pk, hpk⟩ : ∃ p, pick a2 3 = p := ⟨_, rfl⟩
  have hpb := pick_bd a2 3 (by decide)
  have hp := fun W => picked_any a2 3 W w2 (by decide) (by decide)
  rw [hpk] at hp hpb
  obtain ⟨pb0, pb1⟩ := hpb
  have HP := Lib.hid hp
  obtain ⟨pq, hpq⟩ : ∃ p, pick a3 10 = p := ⟨_, rfl⟩
  have hqb := pick_bd a3 10 (by decide)
  have hq := fun W => picked_any a3 10 W w3 (by decide) (by decide)
  rw [hpq] at hq hqb
  obtain ⟨qb0, qb1⟩ := hqb
  have HQ := Lib.hid hq
  clear hq hpq w3
  have HT := Lib.hid ht
  have HR0 := Lib.hid hraw0
  have HR1 := Lib.hid hraw1
  clear hp hpk ht hraw0 hraw1 w2
  have hmk : ∀ W FA fc, Raws W A0 n0 c0 → Flds W FA someF → Calls Tryz.prog 12 #[.slice A0 n0 c0, .int .i64 (1 + pk), .slice FA 5 fc] W (ExprOut someF (1 + pk) W) := fun W FA fc hr hf => make_any n0 c0 fc A0 FA someF (1 + pk) W hr hf (by decide) someF_sz
  have HMk := Lib.hid hmk
  clear hmk
  go_enter Tryz.func4, Tryz.ntmps4
  go_wp2_with fail
  refine (HP.out _).mono ?_; rintro e w9 ⟨rfl, rfl⟩
  go_wp2_with fail
  refine (someX_any _).mono ?_; rintro e w1 ⟨⟨rfl, hfl⟩, hb1⟩
  have hr1 : Raws w1 A0 n0 c0 := HR0.out.keep fun p v0 v1 v2 h0 h2 => hb1.block _ (cell_lt' h0)
  have HC := Lib.hid (HMk.out w1 _ 5 hr1 hfl)
  have HB1 := Lib.hid hb1
  clear hr1 hfl hb1
  go_wp2_with fail
  refine HC.out.mono ?_; rintro e w2 ⟨x, dx, Bx, mx, cx, rfl, hgx, hisx, hb2⟩
  obtain ⟨hckx, hx40, _, hokx⟩ := gn_check someF_nm hgx
  have hix := hisx.is
  have hbA : Below w.heap.size w (w2.alloc (.cells #[.int .i64 dx.op, .int .i64 dx.k, .int .i64 dx.n, .string dx.s, .string dx.nm, .slice Bx mx cx] 26)) := b_more (b_trans HB1.out hb2) _
  have z1 := Box.new w2 dx Bx mx cx
  have j1 := hix.below (b_new w2 (.cells #[.int .i64 dx.op, .int .i64 dx.k, .int .i64 dx.n, .string dx.s, .string dx.nm, .slice Bx mx cx] 26))
  obtain ⟨W, hW⟩ : ∃ W, w2.alloc (.cells #[.int .i64 dx.op, .int .i64 dx.k, .int .i64 dx.n, .string dx.s, .string dx.nm, .slice Bx mx cx] 26) = W := ⟨_, rfl⟩
  rw [hW] at hbA z1 j1
  have hT := HT.out.below hbA
  have hfo := fold_any x dx Bx mx cx W j1 hT
  obtain ⟨y, hy⟩ : ∃ y, Ex.fold x = y := ⟨_, rfl⟩
  have hfr : foldR x = y := by unfold foldR; rw [hckx, if_pos rfl]; exact hy
  have hyc := fold_check hckx
  have hye := fun fs => fold_ev fs x hokx
  rw [hy] at hyc hye
  have hfo2 : Calls Tryz.prog 7 #[.agg #[.int .i64 dx.op, .int .i64 dx.k, .int .i64 dx.n, .string dx.s, .string dx.nm, .slice Bx mx cx]] W (fun e W' => ∃ (d : Nd) (B : Option Addr) (m c : Nat), e = .returned (.tuple #[.agg #[.int .i64 d.op, .int .i64 d.k, .int .i64 d.n, .string d.s, .string d.nm, .slice B m c], .int .i64 0]) ∧ IsP (fun b => W.heap.size ≤ b) W' y d B m ∧ Below W.heap.size W W') := by
    unfold FoldOut at hfo; rw [hckx, hfr] at hfo; exact hfo
  have HFo := Lib.hid hfo2
  have HYc := Lib.hid hyc
  have HYe := Lib.hid hye
  have HW := Lib.hid hW
  have HBA := Lib.hid hbA
  have HZ := Lib.hid z1
  have HJ := Lib.hid j1
  have HCkx := Lib.hid hckx
  have HOkx := Lib.hid hokx
  obtain ⟨m0, m1, m2, m3, m4, m5⟩ := z1.cells
  clear hfo hfo2 hyc hye hW hbA z1 j1 hT hix hisx hckx hgx hb2 HC hy hfr HMk HP HR0 hokx hx40
  go_upto_region 2 with fail
  rw [HW.out]
  go_wp2_with fail
  refine HFo.out.mono ?_; rintro e w3 ⟨dy, By, my, cy, rfl, hiy, hb3⟩
  have hiy := hiy.is
  have hbB := b_more hb3 (.cells #[.int .i64 dy.op, .int .i64 dy.k, .int .i64 dy.n, .string dy.s, .string dy.nm, .slice By my cy] 26)
  have zy := Box.new w3 dy By my cy
  have jy := hiy.below (b_new w3 (.cells #[.int .i64 dy.op, .int .i64 dy.k, .int .i64 dy.n, .string dy.s, .string dy.nm, .slice By my cy] 26))
  obtain ⟨X, hX⟩ : ∃ X, w3.alloc (.cells #[.int .i64 dy.op, .int .i64 dy.k, .int .i64 dy.n, .string dy.s, .string dy.nm, .slice By my cy] 26) = X := ⟨_, rfl⟩
  rw [hX] at hbB zy jy
  have hbAX := b_trans HBA.out hbB
  have hr1 : Raws X A1 n1 c1 := HR1.out.keep fun p v0 v1 v2 h0 h2 => hbAX.block _ (cell_lt' h0)
  have HF1 := Lib.hid (facts_any n1 c1 A1 X hr1)
  have HX := Lib.hid hX
  have HZX := Lib.hid (HZ.out.below hbB)
  have HJX := Lib.hid (HJ.out.below hbB)
  have HZY := Lib.hid zy
  have HJY := Lib.hid jy
  have HBX := Lib.hid hbAX
  clear hX hbB zy jy hb3 hiy hbAX hr1 m0 m1 m2 m3 m4 m5 HFo HZ HJ HBA HR1
  go_upto_region 3 with fail
  rw [HX.out]
  go_wp2_with fail
  refine HF1.out.mono ?_; rintro e w4 ⟨vs, g1, cap1, rfl, hl1, ok1, hg1, ⟨rest1, hrow1⟩, hb4⟩
  have hrow1' : RowF w4 g1 vs rest1 := hrow1
  have HRow1 := Lib.hid hrow1'
  have HB4 := Lib.hid hb4
  have HV := Lib.hid (show Fits5 vs from ⟨hl1, ok1⟩)
  clear hrow1 hrow1' hb4 ok1 HF1
  go_wp2_with fail
  refine (HQ.out _).mono ?_; rintro e w5 ⟨rfl, rfl⟩
  by_cases hq5 : pq < 5
  · obtain ⟨p, rfl⟩ : ∃ p : Nat, (p : Int) = pq := ⟨pq.toNat, by omega⟩
    have hp5 : p < vs.length := by rw [HV.out.1]; omega
    obtain ⟨t0, t1, t2, t3, t4, t5, t6⟩ := HRow1.out.cells p hp5
    have tf := HRow1.out.frozen
    have tl := HRow1.out.lt
    obtain ⟨Y, hY⟩ : ∃ Y, (((w4.setCell ⟨g1, p * 7 + 4, none⟩ (.int .i64 4)).setCell ⟨g1, p * 7 + 4 + 1, none⟩ (.int .i64 0)).setCell ⟨g1, p * 7 + 4 + 2, none⟩ (.string ⟨#[]⟩)) = Y := ⟨_, rfl⟩
    have hs3 : RowF Y g1 (vs.set p { vs[p] with v := ⟨4, 0, ⟨#[]⟩⟩ }) rest1 := by rw [← hY]; exact HRow1.out.set3 p hp5 ⟨4, 0, ⟨#[]⟩⟩
    have hbY : Below X.heap.size X Y := by rw [← hY]; exact b_set3' HB4.out g1 hg1 (p * 7 + 4) (p * 7 + 5) (p * 7 + 6) (.int .i64 4) (.int .i64 0) (.string ⟨#[]⟩)
    have hus : (vs.set p { vs[p] with v := ⟨4, 0, ⟨#[]⟩⟩ }).length = 5 := by rw [List.length_set, HV.out.1]
    have hnm : ∀ f ∈ vs.set p { vs[p] with v := ⟨4, 0, ⟨#[]⟩⟩ }, f.nm.size ≤ maxLen := fun f hf => by
      rcases List.mem_or_eq_of_mem_set hf with h | h
      · exact HV.out.names f h
      · rw [h]; exact HV.out.names vs[p] (List.getElem_mem hp5)
    have hoks : ∀ f ∈ fcs (vs.set p { vs[p] with v := ⟨4, 0, ⟨#[]⟩⟩ }), f.2.ok := fun f hf => by
      unfold fcs at hf
      obtain ⟨q, hq, rfl⟩ := List.mem_map.1 hf
      rcases List.mem_or_eq_of_mem_set hq with h | h
      · exact HV.out.ok _ (List.mem_map.2 ⟨q, h, rfl⟩)
      · rw [h]; exact (rfl : (⟨4, 0, ⟨#[]⟩⟩ : Vl).ok)
    obtain ⟨us, hu⟩ : ∃ us, vs.set p { vs[p] with v := ⟨4, 0, ⟨#[]⟩⟩ } = us := ⟨_, rfl⟩
    rw [hu] at hus hnm hoks hs3
    have HY := Lib.hid hY
    clear hY hu HRow1 HB4 HV
    go_upto_region 7 with fail
    rw [HY.out]
    clear t0 t1 t2 t3 t4 t5 t6 tf tl
    have hbW := b_trans HBX.out hbY
    have hxx := HZX.out.below hbY
    have hxy := HZY.out.below hbY
    have hjx := HJX.out.below hbY
    have hjy := HJY.out.below hbY
    have hTY := HT.out.below hbW
    have e1 := fun V (hV : Below Y.heap.size Y V) => of_good x us (some ⟨g1, 0, none⟩) cap1 dx Bx mx cx V (by rw [hus]; decide) hnm (hjx.below hV) (hs3.below hV).fcs (hTY.below hV) HCkx.out hoks
    have e2 := fun V (hV : Below Y.heap.size Y V) => of_good y us (some ⟨g1, 0, none⟩) cap1 dy By my cy V (by rw [hus]; decide) hnm (hjy.below hV) (hs3.below hV).fcs (hTY.below hV) HYc.out hoks
    rw [HYe.out] at e2
    rw [hus] at e1 e2
    have hov := ok_kind (ev_ok hoks x HOkx.out)
    obtain ⟨v, hv⟩ : ∃ v, Ex.ev (fcs us) x = v := ⟨_, rfl⟩
    rw [hv] at e1 e2 hov
    obtain ⟨vk, vn, vz⟩ := v
    simp only at e1 e2 hov
    obtain ⟨hov, _⟩ := hov
    have HE1 := Lib.hid e1
    have HE2 := Lib.hid e2
    have HBW := Lib.hid hbW
    have HXY := Lib.hid hxy
    have HXX := Lib.hid hxx
    obtain ⟨m0, m1, m2, m3, m4, m5⟩ := hxx.cells
    have t9 : (0 : Int) < vk := by omega
    clear e1 e2 hv hxx hxy hjx hjy hTY hbW hbY hs3 hoks hnm hus hov HZX HZY HJX HJY HYe HYc HCkx HOkx HBX HT
    go_wp2_with fail
    refine (HE1.out _ (Below.refl _ _)).mono ?_; rintro e w6 ⟨rfl, hb6⟩
    have k1 := BV.new w6 vk vn vz
    have c1 := b_more hb6 (.cells #[.int .i64 vk, .int .i64 vn, .string vz] 23)
    have K1 := Lib.hid k1
    have C1 := Lib.hid c1
    obtain ⟨m0', m1', m2', m3', m4', m5'⟩ := (HXY.out.below hb6).cells
    have ml := (HXY.out.below hb6).lt
    clear k1 c1 hb6 m0 m1 m2 m3 m4 m5
    go_wp2_with fail
    refine (HE2.out _ C1.out).mono ?_; rintro e w7 ⟨rfl, hb7⟩
    obtain ⟨x0, x1, x2⟩ := (K1.out.below hb7).cells
    have xl := (K1.out.below hb7).lt
    have HBE := Lib.hid (b_trans HBW.out (b_trans C1.out hb7))
    clear hb7 m0' m1' m2' m3' m4' m5' ml
    go_wp2_with fail
    go_ret
    exact ⟨by simp, b_more HBE.out _⟩
  · have hus := HV.out.1
    have hnm := HV.out.names
    have hoks := HV.out.ok
    have hs3 := HRow1.out
    have hbY := HB4.out
    obtain ⟨us, hu⟩ : ∃ us, vs = us := ⟨_, rfl⟩
    rw [hu] at hus hnm hoks hs3
    obtain ⟨Y, hY⟩ : ∃ Y, w4 = Y := ⟨_, rfl⟩
    rw [hY] at hs3 hbY
    have HY := Lib.hid hY
    clear hu hY HRow1 HB4 HV
    have tq : ¬ pq < 5 := hq5
    go_upto_region 7 with fail
    rw [HY.out]
    have hbW := b_trans HBX.out hbY
    have hxx := HZX.out.below hbY
    have hxy := HZY.out.below hbY
    have hjx := HJX.out.below hbY
    have hjy := HJY.out.below hbY
    have hTY := HT.out.below hbW
    have e1 := fun V (hV : Below Y.heap.size Y V) => of_good x us (some ⟨g1, 0, none⟩) cap1 dx Bx mx cx V (by rw [hus]; decide) hnm (hjx.below hV) (hs3.below hV).fcs (hTY.below hV) HCkx.out hoks
    have e2 := fun V (hV : Below Y.heap.size Y V) => of_good y us (some ⟨g1, 0, none⟩) cap1 dy By my cy V (by rw [hus]; decide) hnm (hjy.below hV) (hs3.below hV).fcs (hTY.below hV) HYc.out hoks
    rw [HYe.out] at e2
    rw [hus] at e1 e2
    have hov := ok_kind (ev_ok hoks x HOkx.out)
    obtain ⟨v, hv⟩ : ∃ v, Ex.ev (fcs us) x = v := ⟨_, rfl⟩
    rw [hv] at e1 e2 hov
    obtain ⟨vk, vn, vz⟩ := v
    simp only at e1 e2 hov
    obtain ⟨hov, _⟩ := hov
    have HE1 := Lib.hid e1
    have HE2 := Lib.hid e2
    have HBW := Lib.hid hbW
    have HXY := Lib.hid hxy
    have HXX := Lib.hid hxx
    obtain ⟨m0, m1, m2, m3, m4, m5⟩ := hxx.cells
    have t9 : (0 : Int) < vk := by omega
    clear e1 e2 hv hxx hxy hjx hjy hTY hbW hbY hs3 hoks hnm hus hov HZX HZY HJX HJY HYe HYc HCkx HOkx HBX HT
    go_wp2_with fail
    refine (HE1.out _ (Below.refl _ _)).mono ?_; rintro e w6 ⟨rfl, hb6⟩
    have k1 := BV.new w6 vk vn vz
    have c1 := b_more hb6 (.cells #[.int .i64 vk, .int .i64 vn, .string vz] 23)
    have K1 := Lib.hid k1
    have C1 := Lib.hid c1
    obtain ⟨m0', m1', m2', m3', m4', m5'⟩ := (HXY.out.below hb6).cells
    have ml := (HXY.out.below hb6).lt
    clear k1 c1 hb6 m0 m1 m2 m3 m4 m5
    go_wp2_with fail
    refine (HE2.out _ C1.out).mono ?_; rintro e w7 ⟨rfl, hb7⟩
    obtain ⟨x0, x1, x2⟩ := (K1.out.below hb7).cells
    have xl := (K1.out.below hb7).lt
    have HBE := Lib.hid (b_trans HBW.out (b_trans C1.out hb7))
    clear hb7 m0' m1' m2' m3' m4' m5' ml
    go_wp2_with fail
    go_ret
    exact ⟨by simp, b_more HBE.out _⟩

theorem not_of {W : World} (h : laidMetH Tryz.prog Rows.foldSameRow.laid W) : ExN.Tab W := by
  have h0 : laidMet Tryz.prog Rows.foldSameRow.laid W := by rw [MakeChecks.laidMetH_plain _ _ _ (by kernel_rfl)] at h; exact h
  have h1 := h0
  exact NotTab.is_of_head (g := 0) (t := 99) (e := 98) (n := 19) (by kernel_rfl) (by kernel_rfl) Tryz.underlying99 (by kernel_rfl) Tryz.underlying98 (by kernel_rfl) rfl rfl rfl Tryz.underlying9 Tryz.underlying3 Tryz.underlying3 (by kernel_rfl) (by kernel_rfl) (by kernel_rfl) h1

/-! ### The row's step -/
set_option maxRecDepth 100000 in
theorem lifted (os : Os) (started : os.Started) (H : Type) (enc : TypeId × Value → H) :
    ReturnsInHanded {} Tryz.checked os 4 .any (fun w args => (Rows.foldSameSpec.pre enc Tryz.prog Tryz.f4 [] false w args ∧ laidMetH Tryz.prog Rows.foldSameRow.laid w) ∧ sizedMet enc Tryz.prog Tryz.f4 (OpenSpec.ofChange Rows.foldSameSpec) false w args) (Rows.foldSameSpec.post enc Tryz.prog Tryz.f4 false true false false) := by
  refine returnsInHanded_of_change_and (C := Tryz.checked) (X := fun w _ => laidMetH Tryz.prog Rows.foldSameRow.laid w) (fun _ _ _ hh h => h.of_heap hh) own started (by kernel_rfl) Tryz.func4
    (ChangeSpec.witness_shaped (enc := enc) (C := Tryz.checked) (os := os) (X := fun w _ => laidMetH Tryz.prog Rows.foldSameRow.laid w) false (World.laidAll Tryz.prog os Rows.foldSameRow.laid) #[.slice none 0 0, .slice none 0 0, .int .i64 0, .int .i64 0] 8 (World.laidAll_os _ _ _) (World.shaped_of_ZipB (by kernel_rfl) (by kernel_rfl)) (by kernel_rfl) (by kernel_rfl) (by kernel_rfl) (by rw [MakeChecks.laidMetH_plain _ _ _ (by kernel_rfl)]; exact laidMet_laidAll _ (by kernel_rfl) (by kernel_rfl))) ?_
  intro W base args ds gs before hval0 hW hcnd hsz hL _
  have hval : ∀ (j : Nat) t v, Tryz.f4.params[j]? = some t → args[j]? = some v → Value.okWide Tryz.prog W .any base t v := hval0
  have hW' := hW
  obtain ⟨p, q, hA0, hV, rfl, hfz, hnd⟩ := hW
  have hA : DataW.TrodAll enc Tryz.prog W 0 (fun _ => true) true Tryz.f4.params.toList args.toList ds p := hA0
  rw [Tryz.params4] at hA hval
  obtain ⟨v0, vs0, d0, ds0, p0, q0, hargs, rfl, rfl, h0, r0⟩ := trodAll_cons hA
  obtain ⟨v1, vs1, d1, ds1, p1, q1, rfl, rfl, rfl, h1, r1⟩ := trodAll_cons r0
  obtain ⟨v2, vs2, d2, ds2, p2, q2, rfl, rfl, rfl, h2, r2⟩ := trodAll_cons r1
  obtain ⟨v3, vs3, d3, ds3, p3, q3, rfl, rfl, rfl, h3, r3⟩ := trodAll_cons r2
  obtain ⟨rfl, rfl, rfl⟩ := trodAll_nil r3
  obtain rfl : args = #[v0, v1, v2, v3] := by cases args; simp_all
  obtain ⟨rfl, rfl⟩ := trodVars_none hV
  have k0 := h0
  have lt0 : ∀ x ∈ p0, x.block < W.heap.size := by obtain ⟨m, hm⟩ := k0; exact DataW.trod_lt m _ _ _ hm
  obtain ⟨A0, n0, c0, rfl, hraw0⟩ := RawO.open_raws (hval 0 37 v0 rfl rfl) h0
  have k1 := h1
  have lt1 : ∀ x ∈ p1, x.block < W.heap.size := by obtain ⟨m, hm⟩ := k1; exact DataW.trod_lt m _ _ _ hm
  obtain ⟨A1, n1, c1, rfl, hraw1⟩ := RawO.open_raws (hval 1 37 v1 rfl rfl) h1
  have k2 := h2
  have lt2 : ∀ x ∈ p2, x.block < W.heap.size := by obtain ⟨m, hm⟩ := k2; exact DataW.trod_lt m _ _ _ hm
  obtain ⟨a2, rfl, rfl, rfl, w2⟩ := open_int Tryz.underlying3 (hval 2 3 v2 rfl rfl) h2
  have k3 := h3
  have lt3 : ∀ x ∈ p3, x.block < W.heap.size := by obtain ⟨m, hm⟩ := k3; exact DataW.trod_lt m _ _ _ hm
  obtain ⟨a3, rfl, rfl, rfl, w3⟩ := open_int Tryz.underlying3 (hval 3 3 v3 rfl rfl) h3
  clear hA0 hval0
  refine (walk A0 n0 c0 A1 n1 c1 a2 a3 w2 w3 W hraw0 hraw1 (not_of hL)).mono fun e W' ⟨he, bel⟩ => ?_
  subst he
  exact ⟨_, rfl, _, _, _, [], _, [], hW', trodAll_mk1 (shut_bool Tryz.underlying4 _), (trodAll_cons_mk (Below.trod laidOut (by kernel_rfl) (of_decide_eq_true (by kernel_rfl)) k0 bel lt0) (trodAll_cons_mk (Below.trod laidOut (by kernel_rfl) (of_decide_eq_true (by kernel_rfl)) k1 bel lt1) (trodAll_cons_mk (Below.trod laidOut (by kernel_rfl) (of_decide_eq_true (by kernel_rfl)) k2 bel lt2) (trodAll_cons_mk (Below.trod laidOut (by kernel_rfl) (of_decide_eq_true (by kernel_rfl)) k3 bel lt3) trodAll_mk0)))), rfl, bel.frame _, fun h => by cases h⟩

theorem over : Rows.foldSameRow.holds Tryz.pinned (OpenSpec.ofChange Rows.foldSameSpec) :=
  OpenClaim.holds_of_wide 4 Tryz.f4 rfl rfl rfl rfl rfl rfl rfl ⟨rfl, rfl, rfl, rfl, rfl⟩ rfl rfl rfl rfl rfl (by kernel_rfl) Tryz.func4 (by kernel_rfl)
    (of_decide_eq_true (by kernel_rfl)) (by unfold Func.isWrapper; first | (rw [if_pos (by decide +kernel)]; kernel_rfl) | (rw [if_neg (by decide +kernel)]; exact ⟨rfl, rfl⟩))
    (fun os started H enc _ => lifted os started H enc)

/-- The tied card. -/
theorem proved : Rows.FoldSameCardSaid :=
  Claim7.holds_tied_plain_at .later [] [.data] true (true, "ae40beb460a2ed87241e57f8ebfdcc3168592c69536a1755b1ac59dfa71bbbdb") false
    over (fun _ h => by cases h) (by kernel_rfl) (fun _ h => by cases h) foldSame_row_tie rfl ⟨rfl, rfl⟩ (by kernel_rfl) rfl
    (fun f fn hf hfn => by
      obtain rfl : f = 4 := Option.some.inj ((show Tryz.prog.funcNamed "lychway/lychwaykeep.FoldSame" = some 4 by kernel_rfl).symm.trans hf) |>.symm
      obtain rfl : fn = Tryz.f4 := (Option.some.inj (Tryz.func4.symm.trans hfn)).symm
      exact ⟨by kernel_rfl, fun j t ht => by
        rw [Tryz.params4] at ht
        have hm : t ∈ [37, 37, 3, 3] := by simpa using Array.mem_of_getElem? ht
        have hall : ([37, 37, 3, 3].all fun u => !Tryz.prog.wantsStandIn u) = true := by kernel_rfl
        exact (show Tryz.prog.wantsStandIn t = false by simpa using List.all_eq_true.1 hall t hm)⟩)
    (by kernel_rfl)
#print axioms proved
end Go.Proofs.YtehkebncdahmcaaGreatDoor.foldSame
