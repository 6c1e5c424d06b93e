/- What is proved: the Go law lychwaykeep.EvalLocal returns true for all its arguments, and leaves them as they were. No condition. -/
import Derived.Test.YtbdofaaemgckiaaDoorRows
import Derived.Test.YtbdofaaemgckiaaDoorEvKit
import Derived.Test.YtbdofaaemgckiaaDoorNmHas
import Derived.Test.YtbdofaaemgckiaaDoorRawOpen
import Derived.Test.YtbdofaaemgckiaaDoorKit
import Derived.WalkKit
import Derived.ProofKit
import Derived.OpenShut
import Derived.Deep.RegionHeld3
import Derived.Deep.DrawnRows
import Derived.Deep.DeepCutAuto
import Derived.Deep.QuietTactic
import Derived.BigQuiet
import Derived.WalkSpells
import Derived.WalkLawsBesides
import Derived.Lib.Hide
import Derived.Outline
import Derived.ShutString
import Derived.ChangeOld
import Derived.Below
import Derived.LaidMore
import Derived.SizedLaws
import Derived.Stop.Joined
import Derived.Stop.LaidErr
import Derived.Lib.LaidTab
import Derived.SevenTiedAt
import Derived.Lay
import Derived.LaidOnce
import Derived.Deep.DeepHandedRow
import Derived.Test.YtbdofaaemgckiaaDoorCards
import Derived.Test.YtbdofaaemgckiaaDoorTie
namespace Go.Proofs.YtbdofaaemgckiaaDoor.evalLocal
open ValM ExM NmM TyM EvM EvP Kit ExL ExP ExN ExV RawL RawV Within GenL Gen GenE GenT NmC NmP NmH NmG EvC EvO EvF EvG EvE EvK
open Go.ChangeShapes Go.WideShapes Go.ChangeAt Go.RowKit
open Go.ChangeMaps (open_string shut_string)
set_option linter.unusedVariables false

theorem own : ownKnob Tryd.prog.godebug = none := by kernel_rfl
theorem laidOut : laidOutB Tryd.prog = true := by kernel_rfl


/-! ### The walk -/
set_option maxRecDepth 100000 in
set_option maxHeartbeats 2000000 in
theorem walk (A0 : Option Addr) (n0 : Nat) (c0 : Nat) (A1 : Option Addr) (n1 : Nat) (c1 : Nat) (A2 : Option Addr) (n2 : Nat) (c2 : Nat) (a3 : Int) (w3 : (Lit.int .i64 a3).wf = true) (w : World) (hraw0 : RawL.Raws w A0 n0 c0) (hraw1 : RawL.Raws w A1 n1 c1) (hraw2 : RawL.Raws w A2 n2 c2) (ht : ExN.Tab w) :
    Calls Tryd.prog 6 #[.slice A0 n0 c0, .slice A1 n1 c1, .slice A2 n2 c2, .int .i64 a3] w fun e w' => e = .returned (.bool true) ∧ Below w.heap.size w w' := by
  obtain ⟨pk, hpk⟩ : ∃ p, pick a3 3 = p := ⟨_, rfl⟩
  have hpb := pick_bd a3 3 (by decide)
  have hp := fun W => picked_any a3 3 W w3 (by decide) (by decide)
  rw [hpk] at hp hpb
  obtain ⟨pb0, pb1⟩ := hpb
  have HP := Lib.hid hp
  have HT := Lib.hid ht
  have HR0 := Lib.hid hraw0
  have HR1 := Lib.hid hraw1
  have HR2 := Lib.hid hraw2
  clear hp hpk ht hraw0 hraw1 hraw2 w3
  have hmk : ∀ W FA fc, Raws W A0 n0 c0 → Flds W FA someF → Calls Tryd.prog 14 #[.slice A0 n0 c0, .int .i64 (1 + pk), .slice FA 5 fc] W (ExprOut someF (1 + pk) W) := fun W FA fc hr hf => make_any n0 c0 fc A0 FA someF (1 + pk) W hr hf (by decide) someF_sz
  have HMk := Lib.hid hmk
  clear hmk
  go_enter Tryd.func6, Tryd.ntmps6
  go_wp2_with fail
  refine (HP.out _).mono ?_; rintro e w9 ⟨rfl, rfl⟩
  go_wp2_with fail
  refine (someX_any _).mono ?_; rintro e w1 ⟨⟨rfl, hfl⟩, hb1⟩
  have hr1 : Raws w1 A0 n0 c0 := HR0.out.keep fun p v0 v1 v2 h0 h2 => hb1.block _ (cell_lt' h0)
  have HC := Lib.hid (HMk.out w1 _ 5 hr1 hfl)
  have HB1 := Lib.hid hb1
  clear hr1 hfl hb1
  go_wp2_with fail
  refine HC.out.mono ?_; rintro e w2 ⟨x, dx, Bx, mx, cx, rfl, hgx, hisx, hb2⟩
  obtain ⟨hckx, hx40, _, _⟩ := gn_check someF_nm hgx
  have hix := hisx.is
  have hbA : Below w.heap.size w (w2.alloc (.cells #[.int .i64 dx.op, .int .i64 dx.k, .int .i64 dx.n, .string dx.s, .string dx.nm, .slice Bx mx cx] 26)) := b_more (b_trans HB1.out hb2) _
  have z1 := Box.new w2 dx Bx mx cx
  have j1 := hix.below (b_new w2 (.cells #[.int .i64 dx.op, .int .i64 dx.k, .int .i64 dx.n, .string dx.s, .string dx.nm, .slice Bx mx cx] 26))
  obtain ⟨W, hW⟩ : ∃ W, w2.alloc (.cells #[.int .i64 dx.op, .int .i64 dx.k, .int .i64 dx.n, .string dx.s, .string dx.nm, .slice Bx mx cx] 26) = W := ⟨_, rfl⟩
  rw [hW] at hbA z1 j1
  have hr1 : Raws W A1 n1 c1 := HR1.out.keep fun p v0 v1 v2 h0 h2 => hbA.block _ (cell_lt' h0)
  have HF1 := Lib.hid (facts_any n1 c1 A1 W hr1)
  have hr2 : Raws W A2 n2 c2 := HR2.out.keep fun p v0 v1 v2 h0 h2 => hbA.block _ (cell_lt' h0)
  have HR2W := Lib.hid hr2
  have Z1 := Lib.hid z1
  have J1 := Lib.hid j1
  have HBA := Lib.hid hbA
  have HW := Lib.hid hW
  have HCk := Lib.hid hckx
  clear hr1 hr2 hW z1 j1 hbA hix hisx hckx hx40 hb2 HC HB1
  go_wp2_with fail
  rw [HW.out]
  refine HF1.out.mono ?_; rintro e w3 ⟨vs, g1, cap1, rfl, hl1, ok1, hg1, ⟨rest1, hrow1⟩, hb3⟩
  have hr2 : Raws w3 A2 n2 c2 := HR2W.out.keep fun p v0 v1 v2 h0 h2 => hb3.block _ (cell_lt' h0)
  have HF2 := Lib.hid (facts_any n2 c2 A2 w3 hr2)
  have hrow1' : RowF w3 g1 vs rest1 := hrow1
  have HRow1 := Lib.hid hrow1'
  have HB3 := Lib.hid hb3
  have HZ3 := Lib.hid (Z1.out.below hb3)
  have HJ3 := Lib.hid (J1.out.below hb3)
  have HT3 := Lib.hid (HT.out.below (b_trans HBA.out hb3))
  have HV := Lib.hid (show Fits5 vs from ⟨hl1, ok1⟩)
  clear hr2 hrow1 hrow1' hb3 ok1 HF1 HR2W
  go_wp2_with fail
  refine HF2.out.mono ?_; rintro e w4 ⟨us, g2, cap2, rfl, hl2, ok2, hg2, ⟨rest2, hrow2⟩, hb4⟩
  have hrow2' : RowF w4 g2 us rest2 := hrow2
  have HRow2 := Lib.hid hrow2'
  have HB4 := Lib.hid hb4
  have HU := Lib.hid (show Fits5 us from ⟨hl2, ok2⟩)
  clear hrow2 hrow2' hb4 ok2 HF2
  go_wp2_with fail
  go_loopw [12, 31] (fun _ i wr => ∃ (k : Nat) (us' : List Fc), i = .int .i64 k ∧ k ≤ 5 ∧ Below w3.heap.size w3 wr ∧ RowF wr g2 us' rest2 ∧ Fits5 us' ∧ (∀ (i : Nat) (h1 : i < us'.length) (h2 : i < vs.length), i < k → hasB (Ex.refs x) vs[i].nm = true → us'[i] = vs[i])) (fun _ i _ => 5 - (intOf i).toNat)
  case atStart => exact ⟨0, us, rfl, by omega, HB4.out, HRow2.out, HU.out, fun i _ _ h => absurd h (by omega)⟩
  case round =>
    obtain ⟨k, us', rfl, hk, hb, hrow, hfit, hsame⟩ := hrel
    have HB := Lib.hid hb
    have HRow := Lib.hid hrow
    have HFit := Lib.hid hfit
    have HSame := Lib.hid hsame
    have hg2l := hrow.lt
    clear hb hrow hfit hsame
    by_cases hlt : k < 5
    · have hku : k < us'.length := by rw [HFit.out.1]; exact hlt
      have hkv : k < vs.length := by rw [HV.out.1]; exact hlt
      have hks : k < someF.length := hlt
      have hnmu : us'[k].nm = vs[k].nm := (HFit.out.2 k hku hks).1.trans (HV.out.2 k hkv hks).1.symm
      obtain ⟨m0, m1, m2, m3, m4, m5⟩ := (HZ3.out.below HB.out).cells
      obtain ⟨q0, q1, q2, q3, q4, q5, q6⟩ := HRow.out.cells k hku
      rw [hnmu] at q0
      obtain ⟨f, hf⟩ : ∃ f, vs[k] = f := ⟨_, rfl⟩
      have HFk := Lib.hid hf
      rw [hf] at q0
      have hhas := fun V (hV : Below wr.heap.size wr V) => has_any x f.nm dx Bx mx cx V (HJ3.out.below (HB.out.trans (hV.mono HB.out.size)))
      have hcells := fun V (hV : Below wr.heap.size wr V) => (HZ3.out.below (HB.out.trans (hV.mono HB.out.size))).cells
      have hcells2 : ∀ V, Below wr.heap.size wr V → V.cell? ⟨w2.heap.size, 0, none⟩ = some (.int .i64 dx.op) ∧ V.cell? ⟨w2.heap.size, 1, none⟩ = some (.int .i64 dx.k) ∧ V.cell? ⟨w2.heap.size, 2, none⟩ = some (.int .i64 dx.n) ∧ V.cell? ⟨w2.heap.size, 3, none⟩ = some (.string dx.s) ∧ V.cell? ⟨w2.heap.size, 4, none⟩ = some (.string dx.nm) ∧ V.cell? ⟨w2.heap.size, 5, none⟩ = some (.slice Bx mx cx) ∧ V.cell? ⟨g2, k * 7, none⟩ = some (.string f.nm) := fun V hV => by
        obtain ⟨a0, a1, a2, a3, a4, a5⟩ := hcells V hV
        exact ⟨a0, a1, a2, a3, a4, a5, (hV.cell (p := ⟨g2, k * 7, none⟩) hg2l).trans q0⟩
      have HCells := Lib.hid hcells2
      have hbl := Below.refl wr.heap.size wr
      obtain ⟨b, hbb⟩ : ∃ b, hasB (Ex.refs x) f.nm = b := ⟨_, rfl⟩
      rw [hbb] at hhas
      have HHas := Lib.hid hhas
      have HBb := Lib.hid hbb
      have i1 : (k : Int) < (5 : Int) := by omega
      clear hhas hbb hf hnmu hcells hcells2 q1 q2 q3 q4 q5 q6
      go_wp2_with fail
      go_region_held3 (fun V => V.cell? ⟨w2.heap.size, 0, none⟩ = some (.int .i64 dx.op) ∧ V.cell? ⟨w2.heap.size, 1, none⟩ = some (.int .i64 dx.k) ∧ V.cell? ⟨w2.heap.size, 2, none⟩ = some (.int .i64 dx.n) ∧ V.cell? ⟨w2.heap.size, 3, none⟩ = some (.string dx.s) ∧ V.cell? ⟨w2.heap.size, 4, none⟩ = some (.string dx.nm) ∧ V.cell? ⟨w2.heap.size, 5, none⟩ = some (.slice Bx mx cx) ∧ V.cell? ⟨g2, k * 7, none⟩ = some (.string f.nm)) (first | (with_reducible exact HCells.out _ hbl) | (with_reducible exact HCells.out _ (b_drew hbl)))
        (first | (go_at_call 20; (with_reducible refine (HHas.out _ ?_).mono ?_); (first | exact hbl | exact b_drew hbl); rintro e w5 ⟨rfl, hb5⟩; have hbl : Below wr.heap.size wr w5 := (by (first | (exact b_step hbl hb5) | (exact b_step (b_drew hbl) hb5)))))
      have hb6 : Below wr.heap.size wr w5 := hbl
      have hb7 : Below w3.heap.size w3 w5 := HB.out.trans (hb6.mono HB.out.size)
      have hrow5 := HRow.out.below hb6
      have HB7 := Lib.hid hb7
      have HRow5 := Lib.hid hrow5
      have hne : g2 ≠ g1 := by have := HRow1.out.lt; omega
      clear hbl hb5 hb6 hb7 hrow5 m0 m1 m2 m3 m4 m5 q0
      cases b with
      | true =>
        obtain ⟨p0, p1, p2, p3, p4, p5, p6⟩ := (HRow1.out.below HB7.out).cells k hkv
        rw [HFk.out] at p0 p1 p2 p3 p4 p5 p6
        obtain ⟨t0, t1, t2, t3, t4, t5, t6⟩ := HRow5.out.cells k hku
        have tf := HRow5.out.frozen
        have tl := HRow5.out.lt
        have hs7 := HRow5.out.set7 k hku f
        have hb8 := b_set7 HB7.out g2 hg2 (k * 7) (k * 7 + 1) (k * 7 + 2) (k * 7 + 3) (k * 7 + 4) (k * 7 + 5) (k * 7 + 6) (.string f.nm) (.int .i64 f.kk) (.int .i64 f.kn) (.string f.ks) (.int .i64 f.v.k) (.int .i64 f.v.n) (.string f.v.s)
        have hst := HFit.out.set HV.out k hkv
        rw [HFk.out] at hst
        have HS7 := Lib.hid hs7
        have HB8 := Lib.hid hb8
        have HSt := Lib.hid hst
        clear hs7 hb8 hst
        go_wp2_with fail
        go_roundw
        case rel =>
          refine ⟨k + 1, us'.set k f, by go_num, by omega, HB8.out, HS7.out, HSt.out, fun i h1 h2 h3 h4 => ?_⟩
          rw [List.length_set] at h1
          rw [List.getElem_set]
          by_cases e : k = i
          · subst e; rw [if_pos rfl]; exact HFk.out.symm
          · rw [if_neg e]; exact HSame.out i h1 h2 (by omega) h4
        case measure => simp [intOf]; omega
      | false =>
        go_wp2_with fail
        go_roundw
        case rel =>
          refine ⟨k + 1, us', by go_num, by omega, HB7.out, HRow5.out, HFit.out, fun i h1 h2 h3 h4 => ?_⟩
          by_cases e : k = i
          · subst e
            rw [HFk.out, HBb.out] at h4
            cases h4
          · exact HSame.out i h1 h2 (by omega) h4
        case measure => simp [intOf]; omega
    · have hk5 : k = 5 := by omega
      subst hk5
      have hev : Ex.ev (fcs us') x = Ex.ev (fcs vs) x := ev_same HFit.out HV.out x fun i h1 h2 h => HSame.out i h1 h2 (by rw [HFit.out.1] at h1; exact h1) h
      have e1 := fun V (hV : Below wr.heap.size wr V) => of_good x vs (some ⟨g1, 0, none⟩) cap1 dx Bx mx cx V (by rw [HV.out.1]; decide) HV.out.names (HJ3.out.below (HB.out.trans (hV.mono HB.out.size))) (HRow1.out.below (HB.out.trans (hV.mono HB.out.size))).fcs (HT3.out.below (HB.out.trans (hV.mono HB.out.size))) HCk.out HV.out.ok
      have e2 := fun V (hV : Below wr.heap.size wr V) => of_good x us' (some ⟨g2, 0, none⟩) cap2 dx Bx mx cx V (by rw [HFit.out.1]; decide) HFit.out.names (HJ3.out.below (HB.out.trans (hV.mono HB.out.size))) (HRow.out.below hV).fcs (HT3.out.below (HB.out.trans (hV.mono HB.out.size))) HCk.out HFit.out.ok
      rw [hev] at e2
      rw [HV.out.1] at e1
      rw [HFit.out.1] at e2
      obtain ⟨v, hv⟩ : ∃ v, Ex.ev (fcs vs) x = v := ⟨_, rfl⟩
      rw [hv] at e1 e2
      obtain ⟨vk, vn, vz⟩ := v
      simp only at e1 e2
      have HE1 := Lib.hid e1
      have HE2 := Lib.hid e2
      have hone := fun V (hV : Below wr.heap.size wr V) g hr => one_at 1 7 ⟨#[]⟩ (ok_int (by decide)) V g hr (HT3.out.below (HB.out.trans (hV.mono HB.out.size)))
      have HOne := Lib.hid hone
      have HBW := Lib.hid (b_trans (b_trans HBA.out HB3.out) HB.out)
      have hxr := HZ3.out.below HB.out
      have HXr := Lib.hid hxr
      obtain ⟨m0, m1, m2, m3, m4, m5⟩ := hxr.cells
      clear e1 e2 hv hev hone hxr HSame HFit HRow HV HU HRow1 HRow2 HZ3 HJ3 HMk HR0 HR1 HR2 HP Z1 J1 HT HT3
      go_wp2_with fail
      refine (HE1.out _ (Below.refl _ _)).mono ?_; rintro e w6 ⟨rfl, hb6⟩
      have k1 := BV.new w6 vk vn vz
      have c1 := b_more hb6 (.cells #[.int .i64 vk, .int .i64 vn, .string vz] 23)
      have K1 := Lib.hid k1
      have C1 := Lib.hid c1
      obtain ⟨m0', m1', m2', m3', m4', m5'⟩ := (HXr.out.below hb6).cells
      have ml := (HXr.out.below hb6).lt
      clear k1 c1 hb6 m0 m1 m2 m3 m4 m5
      go_wp2_with fail
      refine (HE2.out _ C1.out).mono ?_; rintro e w7 ⟨rfl, hb7⟩
      have k1 := K1.out.below hb7
      have k2 := BV.new w7 vk vn vz
      have c2 := b_more (b_trans C1.out hb7) (.cells #[.int .i64 vk, .int .i64 vn, .string vz] 23)
      have K1 := Lib.hid (k1.below (b_new w7 (.cells #[.int .i64 vk, .int .i64 vn, .string vz] 23)))
      have K2 := Lib.hid k2
      have C2 := Lib.hid c2
      have hrn := row_new (w7.alloc (.cells #[.int .i64 vk, .int .i64 vn, .string vz] 23)) ⟨#[110]⟩ 1 7 ⟨#[]⟩
      rw [World.size_alloc] at hrn
      have ho := HOne.out _ (b_more c2 (.cells #[.string ⟨#[110]⟩, .int .i64 0, .int .i64 0, .string ⟨#[]⟩, .int .i64 1, .int .i64 7, .string ⟨#[]⟩] 44)) _ hrn
      have HO := Lib.hid ho
      have K1 := Lib.hid (K1.out.below (b_new _ (.cells #[.string ⟨#[110]⟩, .int .i64 0, .int .i64 0, .string ⟨#[]⟩, .int .i64 1, .int .i64 7, .string ⟨#[]⟩] 44)))
      have K2 := Lib.hid (K2.out.below (b_new _ (.cells #[.string ⟨#[110]⟩, .int .i64 0, .int .i64 0, .string ⟨#[]⟩, .int .i64 1, .int .i64 7, .string ⟨#[]⟩] 44)))
      have C2 := Lib.hid (b_more C2.out (.cells #[.string ⟨#[110]⟩, .int .i64 0, .int .i64 0, .string ⟨#[]⟩, .int .i64 1, .int .i64 7, .string ⟨#[]⟩] 44))
      clear hrn
      clear k1 k2 c2 ho hb7 m0' m1' m2' m3' m4' m5'
      go_wp2_with fail
      with_reducible refine HO.out.mono ?_
      rintro e w8 ⟨rfl, hb8⟩
      obtain ⟨x0, x1, x2⟩ := (K1.out.below hb8).cells
      obtain ⟨y0, y1, y2⟩ := (K2.out.below hb8).cells
      have xl := (K1.out.below hb8).lt
      have yl := (K2.out.below hb8).lt
      have HBE := Lib.hid (b_trans HBW.out (b_trans C2.out hb8))
      clear hb8
      go_wp2_with fail
      go_ret
      exact ⟨by simp, b_more HBE.out _⟩

theorem not_of {W : World} (h : laidMetH Tryd.prog Rows.evalLocalRow.laid W) : ExN.Tab W := by
  have h0 : laidMet Tryd.prog Rows.evalLocalRow.laid W := by rw [MakeChecks.laidMetH_plain _ _ _ (by kernel_rfl)] at h; exact h
  have h1 := h0
  exact NotTab.is_of_head (g := 0) (t := 113) (e := 112) (n := 19) (by kernel_rfl) (by kernel_rfl) Tryd.underlying113 (by kernel_rfl) Tryd.underlying112 (by kernel_rfl) rfl rfl rfl Tryd.underlying9 Tryd.underlying3 Tryd.underlying3 (by kernel_rfl) (by kernel_rfl) (by kernel_rfl) h1

/-! ### The row's step -/
set_option maxRecDepth 100000 in
theorem lifted (os : Os) (started : os.Started) (H : Type) (enc : TypeId × Value → H) :
    ReturnsInHanded {} Tryd.checked os 6 .any (fun w args => (Rows.evalLocalSpec.pre enc Tryd.prog Tryd.f6 [] false w args ∧ laidMetH Tryd.prog Rows.evalLocalRow.laid w) ∧ sizedMet enc Tryd.prog Tryd.f6 (OpenSpec.ofChange Rows.evalLocalSpec) false w args) (Rows.evalLocalSpec.post enc Tryd.prog Tryd.f6 false true false false) := by
  refine returnsInHanded_of_change_and (C := Tryd.checked) (X := fun w _ => laidMetH Tryd.prog Rows.evalLocalRow.laid w) (fun _ _ _ hh h => h.of_heap hh) own started (by kernel_rfl) Tryd.func6
    (ChangeSpec.witness_shaped (enc := enc) (C := Tryd.checked) (os := os) (X := fun w _ => laidMetH Tryd.prog Rows.evalLocalRow.laid w) false (World.laidAll Tryd.prog os Rows.evalLocalRow.laid) #[.slice none 0 0, .slice none 0 0, .slice none 0 0, .int .i64 0] 8 (World.laidAll_os _ _ _) (World.shaped_of_ZipB (by kernel_rfl) (by kernel_rfl)) (by kernel_rfl) (by kernel_rfl) (by kernel_rfl) (by rw [MakeChecks.laidMetH_plain _ _ _ (by kernel_rfl)]; exact laidMet_laidAll _ (by kernel_rfl) (by kernel_rfl))) ?_
  intro W base args ds gs before hval0 hW hcnd hsz hL _
  have hval : ∀ (j : Nat) t v, Tryd.f6.params[j]? = some t → args[j]? = some v → Value.okWide Tryd.prog W .any base t v := hval0
  have hW' := hW
  obtain ⟨p, q, hA0, hV, rfl, hfz, hnd⟩ := hW
  have hA : DataW.TrodAll enc Tryd.prog W 0 (fun _ => true) true Tryd.f6.params.toList args.toList ds p := hA0
  rw [Tryd.params6] at hA hval
  obtain ⟨v0, vs0, d0, ds0, p0, q0, hargs, rfl, rfl, h0, r0⟩ := trodAll_cons hA
  obtain ⟨v1, vs1, d1, ds1, p1, q1, rfl, rfl, rfl, h1, r1⟩ := trodAll_cons r0
  obtain ⟨v2, vs2, d2, ds2, p2, q2, rfl, rfl, rfl, h2, r2⟩ := trodAll_cons r1
  obtain ⟨v3, vs3, d3, ds3, p3, q3, rfl, rfl, rfl, h3, r3⟩ := trodAll_cons r2
  obtain ⟨rfl, rfl, rfl⟩ := trodAll_nil r3
  obtain rfl : args = #[v0, v1, v2, v3] := by cases args; simp_all
  obtain ⟨rfl, rfl⟩ := trodVars_none hV
  have k0 := h0
  have lt0 : ∀ x ∈ p0, x.block < W.heap.size := by obtain ⟨m, hm⟩ := k0; exact DataW.trod_lt m _ _ _ hm
  obtain ⟨A0, n0, c0, rfl, hraw0⟩ := RawO.open_raws (hval 0 32 v0 rfl rfl) h0
  have k1 := h1
  have lt1 : ∀ x ∈ p1, x.block < W.heap.size := by obtain ⟨m, hm⟩ := k1; exact DataW.trod_lt m _ _ _ hm
  obtain ⟨A1, n1, c1, rfl, hraw1⟩ := RawO.open_raws (hval 1 32 v1 rfl rfl) h1
  have k2 := h2
  have lt2 : ∀ x ∈ p2, x.block < W.heap.size := by obtain ⟨m, hm⟩ := k2; exact DataW.trod_lt m _ _ _ hm
  obtain ⟨A2, n2, c2, rfl, hraw2⟩ := RawO.open_raws (hval 2 32 v2 rfl rfl) h2
  have k3 := h3
  have lt3 : ∀ x ∈ p3, x.block < W.heap.size := by obtain ⟨m, hm⟩ := k3; exact DataW.trod_lt m _ _ _ hm
  obtain ⟨a3, rfl, rfl, rfl, w3⟩ := open_int Tryd.underlying3 (hval 3 3 v3 rfl rfl) h3
  clear hA0 hval0
  refine (walk A0 n0 c0 A1 n1 c1 A2 n2 c2 a3 w3 W hraw0 hraw1 hraw2 (not_of hL)).mono fun e W' ⟨he, bel⟩ => ?_
  subst he
  exact ⟨_, rfl, _, _, _, [], _, [], hW', trodAll_mk1 (shut_bool Tryd.underlying4 _), (trodAll_cons_mk (Below.trod laidOut (by kernel_rfl) (of_decide_eq_true (by kernel_rfl)) k0 bel lt0) (trodAll_cons_mk (Below.trod laidOut (by kernel_rfl) (of_decide_eq_true (by kernel_rfl)) k1 bel lt1) (trodAll_cons_mk (Below.trod laidOut (by kernel_rfl) (of_decide_eq_true (by kernel_rfl)) k2 bel lt2) (trodAll_cons_mk (Below.trod laidOut (by kernel_rfl) (of_decide_eq_true (by kernel_rfl)) k3 bel lt3) trodAll_mk0)))), rfl, bel.frame _, fun h => by cases h⟩

theorem over : Rows.evalLocalRow.holds Tryd.pinned (OpenSpec.ofChange Rows.evalLocalSpec) :=
  OpenClaim.holds_of_wide 6 Tryd.f6 rfl rfl rfl rfl rfl rfl rfl ⟨rfl, rfl, rfl, rfl, rfl⟩ rfl rfl rfl rfl rfl (by kernel_rfl) Tryd.func6 (by kernel_rfl)
    (of_decide_eq_true (by kernel_rfl)) (by unfold Func.isWrapper; first | (rw [if_pos (by decide +kernel)]; kernel_rfl) | (rw [if_neg (by decide +kernel)]; exact ⟨rfl, rfl⟩))
    (fun os started H enc _ => lifted os started H enc)

/-- The tied card. -/
theorem proved : Rows.EvalLocalCardSaid :=
  Claim7.holds_tied_plain_at .later [] [.data] true (true, "e7e778849e5474a99cfe14a85150a9c1848083beaff400444cc53060f832e11e") false
    over (fun _ h => by cases h) (by kernel_rfl) (fun _ h => by cases h) evalLocal_row_tie rfl ⟨rfl, rfl⟩ (by kernel_rfl) rfl
    (fun f fn hf hfn => by
      obtain rfl : f = 6 := Option.some.inj ((show Tryd.prog.funcNamed "lychway/lychwaykeep.EvalLocal" = some 6 by kernel_rfl).symm.trans hf) |>.symm
      obtain rfl : fn = Tryd.f6 := (Option.some.inj (Tryd.func6.symm.trans hfn)).symm
      exact ⟨by kernel_rfl, fun j t ht => by
        rw [Tryd.params6] at ht
        have hm : t ∈ [32, 32, 32, 3] := by simpa using Array.mem_of_getElem? ht
        have hall : ([32, 32, 32, 3].all fun u => !Tryd.prog.wantsStandIn u) = true := by kernel_rfl
        exact (show Tryd.prog.wantsStandIn t = false by simpa using List.all_eq_true.1 hall t hm)⟩)
    (by kernel_rfl)
#print axioms proved
end Go.Proofs.YtbdofaaemgckiaaDoor.evalLocal
