/- What is proved: the Go law lychwaykeep.FieldTurned returns true for all its arguments, and leaves them as they were. No condition. -/
import Derived.Test.YtdndphagfohpnaaDoorRows
import Derived.Test.YtdndphagfohpnaaDoorFldTurn
import Derived.Test.YtdndphagfohpnaaDoorRawOpen
import Derived.Test.YtdndphagfohpnaaDoorKit
import Derived.WalkKit
import Derived.ProofKit
import Derived.OpenShut
import Derived.Deep.RegionHeld3
import Derived.Deep.DrawnRows
import Derived.Deep.DeepCutAuto
import Derived.Deep.QuietTactic
import Derived.BigQuiet
import Derived.WalkSpells
import Derived.WalkLawsBesides
import Derived.Lib.Hide
import Derived.Outline
import Derived.ShutString
import Derived.ChangeOld
import Derived.Below
import Derived.LaidMore
import Derived.SizedLaws
import Derived.Stop.Joined
import Derived.Stop.LaidErr
import Derived.Lib.LaidTab
import Derived.SevenTiedAt
import Derived.Lay
import Derived.LaidOnce
import Derived.Deep.DeepHandedRow
import Derived.Test.YtdndphagfohpnaaDoorCards
import Derived.Test.YtdndphagfohpnaaDoorTie
namespace Go.Proofs.YtdndphagfohpnaaDoor.fieldTurned
open ValM LexM NumM ExM NmM Kit ExL ExP ExN RawV Within RawL RawN GenL Gen GenE GenT GenV FrmM Frm FldP FldR FldC FrmT FrmO RegI FldU
open Go.ChangeShapes Go.WideShapes Go.ChangeAt Go.RowKit
open Go.ChangeMaps (open_string shut_string)
set_option linter.unusedVariables false

theorem own : ownKnob Tryd.prog.godebug = none := by kernel_rfl
theorem laidOut : laidOutB Tryd.prog = true := by kernel_rfl


/-! ### The walk -/
set_option maxRecDepth 100000 in
set_option maxHeartbeats 8000000 in
theorem walk (A0 : Option Addr) (n0 : Nat) (c0 : Nat) (a1 : Int) (w1 : (Lit.int .i64 a1).wf = true) (w : World) (hraw0 : RawL.Raws w A0 n0 c0) (ht : ExN.Tab w) :
    Calls Tryd.prog 3 #[.slice A0 n0 c0, .int .i64 a1] w fun e w' => e = .returned (.bool true) ∧ Below w.heap.size w w' := by
  obtain ⟨rs, rfl, hrv⟩ := RawN.Raws.val n0 hraw0
  have hF := form_any c0 A0 rs w hrv
  have HF := Lib.hid hF
  have HT := Lib.hid ht
  clear hF hrv hraw0 ht
  have hf0 := @fld0
  go_enter Tryd.func3, Tryd.ntmps3
  go_wp2_with fail
  refine HF.out.mono ?_; rintro e wf ⟨es, FA, fc, ps, PA, pc, rfl, hv, hpv, hfr, hpr, hb, hcap, -⟩
  have hbd := countV_bd rs
  have hlen : es.length = countV rs := (form_places hv).1
  have hn10 : es.length ≤ 10 := by omega
  have hn1 : 1 ≤ es.length := by omega
  have hB := form_base hv hfr
  have hfo := form_forms hv hfr
  have hfl := frow_flds hfr
  obtain ⟨g, rfl, -⟩ := hfr 0 (by omega)
  obtain ⟨k, hk, hkl⟩ : ∃ k : Nat, pick a1 (es.length : Int) = (k : Int) ∧ k < es.length := by
    have := pick_bd a1 (es.length : Int) (by omega)
    exact ⟨(pick a1 (es.length : Int)).toNat, by omega, by omega⟩
  have hp : ∀ V, Calls Tryd.prog 8 #[.int .i64 a1, .int .i64 es.length] V fun e w' => e = .returned (.int .i64 (k : Int)) ∧ V = w' := fun V => by rw [← hk]; exact picked_any a1 es.length V w1 (by omega) (by omega)
  have hl1 : (es.drop k).length = es.length - k := List.length_drop
  have hl2 : (es.take k).length = k := by rw [List.length_take]; omega
  have hc1 : ∀ V, Below wf.heap.size wf V → Calls Tryd.prog 10 #[.slice (some ⟨g, 0, none⟩) es.length fc] V fun e w' => e = .returned (.int .i64 0) ∧ Below V.heap.size V w' := fun V hV => by
    have := FldC.check_any (es.map FE.fd) (xOf es) (some ⟨g, 0, none⟩) fc V (by rw [List.length_map]; omega) (hfl.below hV) (hfo.below hV) (HT.out.below (b_trans hb hV)) (by rw [List.length_map]; exact hcap)
    rw [hB.check, List.length_map] at this
    exact this
  have hB2 := rot_base hB k hkl
  have hfo2 := rot_forms hfo k hkl
  have hlr : ((es.drop k ++ es.take k).map FE.fd).length = es.length := by rw [List.length_map, rot_len es k hkl]
  have hc2 : ∀ V o, Below wf.heap.size wf V → TurnAt ((es.drop k ++ es.take k).map FE.fd) o V → Calls Tryd.prog 10 #[o] V fun e w' => e = .returned (.int .i64 0) ∧ Below V.heap.size V w' := fun V o hV ho => by
    obtain ⟨g2, cap2, rfl, hfl2, hcap2⟩ := ho
    have := FldC.check_any _ (xOf (es.drop k ++ es.take k)) (some ⟨g2, 0, none⟩) cap2 V (by rw [hlr]; omega) hfl2 (hfo2.below hV) (HT.out.below (b_trans hb hV)) hcap2
    rw [hB2.check] at this
    exact this
  have hs1 := slC_of hfr k (es.drop k) (fun i hi => by rw [hl1] at hi; exact ⟨by omega, List.getElem_drop⟩)
  have hs2 := slC_of hfr 0 (es.take k) (fun i hi => by rw [hl2] at hi; exact ⟨by omega, by rw [List.getElem_take]; simp only [Nat.zero_add]⟩)
  have hcc : ∀ V b, Below wf.heap.size wf V → V.cell? ⟨b, 0, none⟩ = some (.slice (some ⟨g, k * 9, none⟩) (es.length - k) (fc - k)) → V.cell? ⟨b, 1, none⟩ = some (.slice (some ⟨g, 0, none⟩) k fc) → Calls Tryd.prog 9 #[.slice (some ⟨b, 0, none⟩) 2 2] V fun e w' => ∃ o, e = .returned o ∧ TurnAt ((es.drop k ++ es.take k).map FE.fd) o w' ∧ Below V.heap.size V w' := fun V b hV h1 h2 => by
    refine (concat_any b ⟨g, k * 9, none⟩ ⟨g, 0, none⟩ 2 (fc - k) fc (es.drop k) (es.take k) V (by rw [hl1]; exact h1) (by rw [hl2]; exact h2) (hs1.below hV) ?_ (by omega) (by omega)).mono ?_
    · have := hs2.below hV
      rwa [Nat.zero_mul] at this
    · rintro e w' ⟨o, rfl, ho⟩
      exact ⟨o, rfl, ownF_turn ho, by obtain ⟨_, _, _, _, h⟩ := ho; exact h⟩
  have HC1 := Lib.hid hc1
  have HC2 := Lib.hid hc2
  have HCC := Lib.hid hcc
  have HP := Lib.hid hp
  have HB := Lib.hid hb
  have HTf := Lib.hid (HT.out.below hb)
  obtain ⟨hcap1, hcap2⟩ := hcap
  generalize (es.drop k ++ es.take k).map FE.fd = fds at HC2 HCC
  generalize es.length = n at hn10 hn1 hkl hcap1 HC1 HCC HP
  clear hc1 hc2 hcc hp hb hbd hlen hB hfo hfl hB2 hfo2 hlr hs1 hs2 hl1 hl2 hk hv hpv hfr hpr HF HT hf0
  have hf0 := @fld0
  have hki : (k : Int) < (n : Int) := by omega
  have hfk : ¬ fc = k := by omega
  have hsl1 : ∀ V : World, (Instr.sliceAt 23 (.slice (some ⟨g, 0, none⟩) n fc) (some (.int .i64 k)) none none).run Tryd.prog V = .ok (.slice (some ⟨g, k * 9, none⟩) (n - k) (fc - k)) V := fun V => by simp [go_sem, Tryd.underlying23, hfk, Nat.le_of_lt hkl]
  have hsl2 : ∀ V : World, (Instr.sliceAt 23 (.slice (some ⟨g, 0, none⟩) n fc) none (some (.int .i64 k)) none).run Tryd.prog V = .ok (.slice (some ⟨g, 0, none⟩) k fc) V := fun V => by simp [go_sem, Tryd.underlying23, Nat.le_trans (Nat.le_of_lt hkl) hcap1]
  have hen1 : ∀ (args : Array Value) (w : World), (callFunc 9 args).run Tryd.prog w = .ok (.enter 9 args) w := fun _ _ => by kernel_rfl
  go_wp2_with (go_at_call 8; refine (HP.out _).mono ?_; rintro e w5 ⟨rfl, rfl⟩)
  go_cut [7] (fun s7 wx => TurnAt fds s7 wx ∧ Below wf.heap.size wf wx)
  case first =>
    have HM := Lib.hid (VT.mono (.slice (some ⟨g, 0, none⟩) n fc) k (.slice (some ⟨g, k * 9, none⟩) (n - k) (fc - k)) (.slice (some ⟨g, 0, none⟩) k fc) fds)
    refine region_fill [(0, 15), (1, 16), (2, 17), (3, 18), (4, 19), (5, 20), (6, 21), (7, 22), (8, 7)] (JM wf 8 (VT (.slice (some ⟨g, 0, none⟩) n fc) k (.slice (some ⟨g, k * 9, none⟩) (n - k) (fc - k)) (.slice (some ⟨g, 0, none⟩) k fc) fds) (fun f w => TurnAt fds (f 8) w ∧ Below wf.heap.size wf w)) (fun f => by simp only [fill, Act.put, List.setIfInBounds_toArray, List.set_cons_zero, List.set_cons_succ]; rfl) (by kernel_rfl) (by kernel_rfl) (by kernel_rfl) (fun f => jm_start (RowKit.Below.refl _ _) f) ?_ ?_
    · intro F hFr
      refine ⟨?_, ?_, ?_, ?_, ?_, ?_, ?_, ?_, ?_, trivial⟩
      · as_aux_lemma =>
        intro D f wx hJ hD hdep K9 hK
        obtain ⟨hL, hbw, hv⟩ := jm_live hJ (by decide) hD
        exact stepF_val rfl (op_move rfl (v := .slice (some ⟨g, 0, none⟩) n fc) (by rw [hFr]; kernel_rfl)) (by rw [hFr, hFr]; kernel_rfl) (hK (updf f 0 (.slice (some ⟨g, 0, none⟩) n fc)) _ (jm_step HM.out hJ (by decide) hD (b_ref _) rfl))
      · as_aux_lemma =>
        intro D f wx hJ hD hdep K9 hK
        obtain ⟨hL, hbw, hv⟩ := jm_live hJ (by decide) hD
        exact stepF_val rfl (op_move rfl (v := .int .i64 (k : Nat)) (by rw [hFr]; kernel_rfl)) (by rw [hFr, hFr]; kernel_rfl) (hK (updf f 1 (.int .i64 (k : Nat))) _ (jm_step HM.out hJ (by decide) hD (b_ref _) rfl))
      · as_aux_lemma =>
        intro D f wx hJ hD hdep K9 hK
        obtain ⟨hL, hbw, hv⟩ := jm_live hJ (by decide) hD
        have e0 : f 0 = .slice (some ⟨g, 0, none⟩) n fc := hv 0 (by decide) (done hdep 0 (by kernel_rfl))
        have e1 : f 1 = .int .i64 (k : Nat) := hv 1 (by decide) (done hdep 1 (by kernel_rfl))
        exact stepF_val rfl (op_slice rfl (p := .slice (some ⟨g, 0, none⟩) n fc) ((show _ = f 0 from by rw [hFr]; kernel_rfl).trans e0) (congrArg some ((show _ = f 1 from by rw [hFr]; kernel_rfl).trans e1)) rfl rfl (hsl1 wx)) (by rw [hFr, hFr]; kernel_rfl) (hK (updf f 2 (.slice (some ⟨g, k * 9, none⟩) (n - k) (fc - k))) _ (jm_step HM.out hJ (by decide) hD (b_ref _) rfl))
      · as_aux_lemma =>
        intro D f wx hJ hD hdep K9 hK
        obtain ⟨hL, hbw, hv⟩ := jm_live hJ (by decide) hD
        exact stepF_val rfl (op_move rfl (v := .slice (some ⟨g, 0, none⟩) n fc) (by rw [hFr]; kernel_rfl)) (by rw [hFr, hFr]; kernel_rfl) (hK (updf f 3 (.slice (some ⟨g, 0, none⟩) n fc)) _ (jm_step HM.out hJ (by decide) hD (b_ref _) rfl))
      · as_aux_lemma =>
        intro D f wx hJ hD hdep K9 hK
        obtain ⟨hL, hbw, hv⟩ := jm_live hJ (by decide) hD
        exact stepF_val rfl (op_move rfl (v := .int .i64 (k : Nat)) (by rw [hFr]; kernel_rfl)) (by rw [hFr, hFr]; kernel_rfl) (hK (updf f 4 (.int .i64 (k : Nat))) _ (jm_step HM.out hJ (by decide) hD (b_ref _) rfl))
      · as_aux_lemma =>
        intro D f wx hJ hD hdep K9 hK
        obtain ⟨hL, hbw, hv⟩ := jm_live hJ (by decide) hD
        have e3 : f 3 = .slice (some ⟨g, 0, none⟩) n fc := hv 3 (by decide) (done hdep 3 (by kernel_rfl))
        have e4 : f 4 = .int .i64 (k : Nat) := hv 4 (by decide) (done hdep 4 (by kernel_rfl))
        exact stepF_val rfl (op_slice rfl (p := .slice (some ⟨g, 0, none⟩) n fc) ((show _ = f 3 from by rw [hFr]; kernel_rfl).trans e3) rfl (congrArg some ((show _ = f 4 from by rw [hFr]; kernel_rfl).trans e4)) rfl (hsl2 wx)) (by rw [hFr, hFr]; kernel_rfl) (hK (updf f 5 (.slice (some ⟨g, 0, none⟩) k fc)) _ (jm_step HM.out hJ (by decide) hD (b_ref _) rfl))
      · as_aux_lemma =>
        intro D f wx hJ hD hdep K9 hK
        obtain ⟨hL, hbw, hv⟩ := jm_live hJ (by decide) hD
        have e2 : f 2 = .slice (some ⟨g, k * 9, none⟩) (n - k) (fc - k) := hv 2 (by decide) (done hdep 2 (by kernel_rfl))
        have e5 : f 5 = .slice (some ⟨g, 0, none⟩) k fc := hv 5 (by decide) (done hdep 5 (by kernel_rfl))
        have hn9 := World.alloc_heap_new wx (.cells #[.slice (some ⟨g, k * 9, none⟩) (n - k) (fc - k), .slice (some ⟨g, 0, none⟩) k fc] 23)
        have c0 : (wx.alloc (.cells #[.slice (some ⟨g, k * 9, none⟩) (n - k) (fc - k), .slice (some ⟨g, 0, none⟩) k fc] 23)).cell? ⟨wx.heap.size, 0, none⟩ = some (.slice (some ⟨g, k * 9, none⟩) (n - k) (fc - k)) := by unfold World.cell?; rw [hn9]; rfl
        have c1 : (wx.alloc (.cells #[.slice (some ⟨g, k * 9, none⟩) (n - k) (fc - k), .slice (some ⟨g, 0, none⟩) k fc] 23)).cell? ⟨wx.heap.size, 1, none⟩ = some (.slice (some ⟨g, 0, none⟩) k fc) := by unfold World.cell?; rw [hn9]; rfl
        exact stepF_val rfl (op_buildSlice rfl (qs := #[(0, .slice (some ⟨g, k * 9, none⟩) (n - k) (fc - k)), (1, .slice (some ⟨g, 0, none⟩) k fc)]) (by rw [← e2, ← e5, hFr]; kernel_rfl) (slice_two wx _ _ _ _ _ _)) (by rw [hFr, hFr]; kernel_rfl) (hK (updf f 6 (.slice (some ⟨wx.heap.size, 0, none⟩) 2 2)) _ (jm_step HM.out hJ (by decide) hD (b_new _ _) ⟨_, rfl, c0, c1⟩))
      · as_aux_lemma =>
        intro D f wx hJ hD hdep K9 hK
        obtain ⟨hL, hbw, hv⟩ := jm_live hJ (by decide) hD
        obtain ⟨b, e6, c0, c1⟩ := hv 6 (by decide) (done hdep 6 (by kernel_rfl))
        refine stepF_callR rfl (op_enter rfl rfl (xs := #[.slice (some ⟨b, 0, none⟩) 2 2]) (by rw [← e6, hFr]; kernel_rfl) hen1) (HCC.out wx b hbw c0 c1) ?_
        rintro e w5 ⟨o, rfl, ho, hb5⟩
        have hk := hK (updf f 7 o) w5 (jm_step HM.out hJ (by decide) hD hb5 ho)
        refine ⟨_, rfl, ?_⟩
        rw [hFr] at hk ⊢
        exact hk
      · as_aux_lemma =>
        intro D f wx hJ hD hdep K9 hK
        obtain ⟨hL, hbw, hv⟩ := jm_live hJ (by decide) hD
        have hall : ∀ j, j < 8 → D j = true := fun j hj => by match j, hj with | 0, _ => exact done hdep 0 (by kernel_rfl) | 1, _ => exact done hdep 1 (by kernel_rfl) | 2, _ => exact done hdep 2 (by kernel_rfl) | 3, _ => exact done hdep 3 (by kernel_rfl) | 4, _ => exact done hdep 4 (by kernel_rfl) | 5, _ => exact done hdep 5 (by kernel_rfl) | 6, _ => exact done hdep 6 (by kernel_rfl) | 7, _ => exact done hdep 7 (by kernel_rfl)
        have v7 := hv 7 (by decide) (hall 7 (by decide))
        exact stepF_val rfl (op_assign rfl (v := f 7) (by rw [hFr]; kernel_rfl)) (by rw [hFr, hFr]; kernel_rfl) (hK (updf f 8 (f 7)) _ (jm_last hall ⟨v7, hbw⟩))
    · intro D f wx hJ hall
      obtain ⟨ho, hbw⟩ := jm_end hJ (hall 8 (by decide))
      have HX := Lib.hid (And.intro ho hbw)
      clear ho hbw hJ hall
      go_wp2_with fail
      go_meet
      exact HX.out
  case rest =>
    obtain ⟨W1, rfl⟩ : ∃ V, V = wc := ⟨_, rfl⟩
    obtain ⟨ho, hb1⟩ := hcut
    have h1a := one_any W1 (HTf.out.below hb1)
    have hbn := b_new W1 (.cells #[.string ⟨#[97]⟩, .int .i64 2, .int .i64 1, .int .i64 0, .int .i64 0, .int .i64 0, .string ⟨#[]⟩, .string ⟨#[]⟩, .slice none 0 0] 36)
    have HO := Lib.hid ho
    have HB1 := Lib.hid hb1
    have H1a := Lib.hid h1a
    have HBn := Lib.hid hbn
    clear ho hb1 h1a hbn
    go_wp2_with fail
    refine H1a.out.mono ?_; rintro e w2 ⟨rfl, hb2⟩
    have hb12 := b_trans HBn.out hb2
    have HB2 := Lib.hid (b_trans HB1.out hb12)
    have HO2 := Lib.hid (HO.out.below hb12)
    clear hb2 hb12
    go_wp2_with fail
    refine (HC1.out w2 HB2.out).mono ?_; rintro e w3 ⟨rfl, hb3⟩
    have hc3 := HC2.out w3 _ (b_trans HB2.out hb3) (HO2.out.below hb3)
    have HC3 := Lib.hid hc3
    have HB3 := Lib.hid (b_trans HB.out (b_trans HB2.out hb3))
    clear hb3 hc3
    go_wp2_with fail
    refine HC3.out.mono ?_; rintro e w4 ⟨rfl, hb4⟩
    have HB4 := Lib.hid (b_trans HB3.out hb4)
    clear hb4
    go_wp2_with fail
    go_ret
    exact ⟨rfl, HB4.out⟩

theorem not_of {W : World} (h : laidMetH Tryd.prog Rows.fieldTurnedRow.laid W) : ExN.Tab W := by
  have h0 : laidMet Tryd.prog Rows.fieldTurnedRow.laid W := by rw [MakeChecks.laidMetH_plain _ _ _ (by kernel_rfl)] at h; exact h
  have h1 := h0
  exact NotTab.is_of_head (g := 0) (t := 116) (e := 115) (n := 19) (by kernel_rfl) (by kernel_rfl) Tryd.underlying116 (by kernel_rfl) Tryd.underlying115 (by kernel_rfl) rfl rfl rfl Tryd.underlying9 Tryd.underlying3 Tryd.underlying3 (by kernel_rfl) (by kernel_rfl) (by kernel_rfl) h1

/-! ### The row's step -/
set_option maxRecDepth 100000 in
theorem lifted (os : Os) (started : os.Started) (H : Type) (enc : TypeId × Value → H) :
    ReturnsInHanded {} Tryd.checked os 3 .any (fun w args => (Rows.fieldTurnedSpec.pre enc Tryd.prog Tryd.f3 [] false w args ∧ laidMetH Tryd.prog Rows.fieldTurnedRow.laid w) ∧ sizedMet enc Tryd.prog Tryd.f3 (OpenSpec.ofChange Rows.fieldTurnedSpec) false w args) (Rows.fieldTurnedSpec.post enc Tryd.prog Tryd.f3 false true false false) := by
  refine returnsInHanded_of_change_and (C := Tryd.checked) (X := fun w _ => laidMetH Tryd.prog Rows.fieldTurnedRow.laid w) (fun _ _ _ hh h => h.of_heap hh) own started (by kernel_rfl) Tryd.func3
    (ChangeSpec.witness_shaped (enc := enc) (C := Tryd.checked) (os := os) (X := fun w _ => laidMetH Tryd.prog Rows.fieldTurnedRow.laid w) false (World.laidAll Tryd.prog os Rows.fieldTurnedRow.laid) #[.slice none 0 0, .int .i64 0] 8 (World.laidAll_os _ _ _) (World.shaped_of_ZipB (by kernel_rfl) (by kernel_rfl)) (by kernel_rfl) (by kernel_rfl) (by kernel_rfl) (by rw [MakeChecks.laidMetH_plain _ _ _ (by kernel_rfl)]; exact laidMet_laidAll _ (by kernel_rfl) (by kernel_rfl))) ?_
  intro W base args ds gs before hval0 hW hcnd hsz hL _
  have hval : ∀ (j : Nat) t v, Tryd.f3.params[j]? = some t → args[j]? = some v → Value.okWide Tryd.prog W .any base t v := hval0
  have hW' := hW
  obtain ⟨p, q, hA0, hV, rfl, hfz, hnd⟩ := hW
  have hA : DataW.TrodAll enc Tryd.prog W 0 (fun _ => true) true Tryd.f3.params.toList args.toList ds p := hA0
  rw [Tryd.params3] at hA hval
  obtain ⟨v0, vs0, d0, ds0, p0, q0, hargs, rfl, rfl, h0, r0⟩ := trodAll_cons hA
  obtain ⟨v1, vs1, d1, ds1, p1, q1, rfl, rfl, rfl, h1, r1⟩ := trodAll_cons r0
  obtain ⟨rfl, rfl, rfl⟩ := trodAll_nil r1
  obtain rfl : args = #[v0, v1] := by cases args; simp_all
  obtain ⟨rfl, rfl⟩ := trodVars_none hV
  have k0 := h0
  have lt0 : ∀ x ∈ p0, x.block < W.heap.size := by obtain ⟨m, hm⟩ := k0; exact DataW.trod_lt m _ _ _ hm
  obtain ⟨A0, n0, c0, rfl, hraw0⟩ := RawO.open_raws (hval 0 22 v0 rfl rfl) h0
  have k1 := h1
  have lt1 : ∀ x ∈ p1, x.block < W.heap.size := by obtain ⟨m, hm⟩ := k1; exact DataW.trod_lt m _ _ _ hm
  obtain ⟨a1, rfl, rfl, rfl, w1⟩ := open_int Tryd.underlying3 (hval 1 3 v1 rfl rfl) h1
  clear hA0 hval0
  refine (walk A0 n0 c0 a1 w1 W hraw0 (not_of hL)).mono fun e W' ⟨he, bel⟩ => ?_
  subst he
  exact ⟨_, rfl, _, _, _, [], _, [], hW', trodAll_mk1 (shut_bool Tryd.underlying4 _), (trodAll_cons_mk (Below.trod laidOut (by kernel_rfl) (of_decide_eq_true (by kernel_rfl)) k0 bel lt0) (trodAll_cons_mk (Below.trod laidOut (by kernel_rfl) (of_decide_eq_true (by kernel_rfl)) k1 bel lt1) trodAll_mk0)), rfl, bel.frame _, fun h => by cases h⟩

theorem over : Rows.fieldTurnedRow.holds Tryd.pinned (OpenSpec.ofChange Rows.fieldTurnedSpec) :=
  OpenClaim.holds_of_wide 3 Tryd.f3 rfl rfl rfl rfl rfl rfl rfl ⟨rfl, rfl, rfl, rfl, rfl⟩ rfl rfl rfl rfl rfl (by kernel_rfl) Tryd.func3 (by kernel_rfl)
    (of_decide_eq_true (by kernel_rfl)) (by unfold Func.isWrapper; first | (rw [if_pos (by decide +kernel)]; kernel_rfl) | (rw [if_neg (by decide +kernel)]; exact ⟨rfl, rfl⟩))
    (fun os started H enc _ => lifted os started H enc)

/-- The tied card. -/
theorem proved : Rows.FieldTurnedCardSaid :=
  Claim7.holds_tied_plain_at .later [] [.data] true (true, "30ed86a35aef7f2b7b86e44c87657eee70b397213ee416dc71cb93ee7c55c37e") false
    over (fun _ h => by cases h) (by kernel_rfl) (fun _ h => by cases h) fieldTurned_row_tie rfl ⟨rfl, rfl⟩ (by kernel_rfl) rfl
    (fun f fn hf hfn => by
      obtain rfl : f = 3 := Option.some.inj ((show Tryd.prog.funcNamed "lychway/lychwaykeep.FieldTurned" = some 3 by kernel_rfl).symm.trans hf) |>.symm
      obtain rfl : fn = Tryd.f3 := (Option.some.inj (Tryd.func3.symm.trans hfn)).symm
      exact ⟨by kernel_rfl, fun j t ht => by
        rw [Tryd.params3] at ht
        have hm : t ∈ [22, 3] := by simpa using Array.mem_of_getElem? ht
        have hall : ([22, 3].all fun u => !Tryd.prog.wantsStandIn u) = true := by kernel_rfl
        exact (show Tryd.prog.wantsStandIn t = false by simpa using List.all_eq_true.1 hall t hm)⟩)
    (by kernel_rfl)
#print axioms proved
end Go.Proofs.YtdndphagfohpnaaDoor.fieldTurned
