/- What is proved: the Go law lychwaykeep.FormFree returns true for all its arguments, and leaves them as they were. No condition. -/
import Derived.Test.YtdlfhldboagbeaaGreatDoorRows
import Derived.Test.YtdlfhldboagbeaaGreatDoorShForm
import Derived.Test.YtdlfhldboagbeaaGreatDoorRawOpen
import Derived.Test.YtdlfhldboagbeaaGreatDoorKit
import Derived.WalkKit
import Derived.ProofKit
import Derived.OpenShut
import Derived.Deep.RegionHeld3
import Derived.Deep.DrawnRows
import Derived.Deep.DeepCutAuto
import Derived.Deep.QuietTactic
import Derived.BigQuiet
import Derived.WalkSpells
import Derived.WalkLawsBesides
import Derived.Lib.Hide
import Derived.Outline
import Derived.ShutString
import Derived.ChangeOld
import Derived.Below
import Derived.LaidMore
import Derived.SizedLaws
import Derived.Stop.Joined
import Derived.Stop.LaidErr
import Derived.Lib.LaidTab
import Derived.SevenTiedAt
import Derived.Lay
import Derived.LaidOnce
import Derived.Deep.DeepHandedRow
import Derived.Test.YtdlfhldboagbeaaGreatDoorCards
import Derived.Test.YtdlfhldboagbeaaGreatDoorTie
namespace Go.Proofs.YtdlfhldboagbeaaGreatDoor.formFree
open ValM LexM NumM ExM NmM Kit ExL ExP ExN RawV Within RawL RawN GenL FldP FldR FldC FrmM Frm FrmT FrmO PgM PgA PgF RkM RkA RkD RkO RkS RkK ShT ShL ShG
open Go.ChangeShapes Go.WideShapes Go.ChangeAt Go.RowKit
open Go.ChangeMaps (open_string shut_string)
set_option linter.unusedVariables false

theorem own : ownKnob Tryz.prog.godebug = none := by kernel_rfl
theorem laidOut : laidOutB Tryz.prog = true := by kernel_rfl


/-! ### The walk -/
set_option maxRecDepth 100000 in
set_option maxHeartbeats 8000000 in
theorem walk (A0 : Option Addr) (n0 : Nat) (c0 : Nat)  (w : World) (hraw0 : RawL.Raws w A0 n0 c0) (ht : ExN.Tab w) :
    Calls Tryz.prog 5 #[.slice A0 n0 c0] w fun e w' => e = .returned (.bool true) ∧ Below w.heap.size w w' := by
  obtain ⟨s0, hsi, hsz0, hsz1, hsz2⟩ := info_parts NmA.infoStr
  obtain ⟨rs, rfl, hrv⟩ := RawN.Raws.val n0 hraw0
  have hF := form_any c0 A0 rs w hrv
  have HF := Lib.hid hF
  have HT := Lib.hid ht
  clear hF hrv hraw0 ht
  go_enter Tryz.func5, Tryz.ntmps5
  go_wp2_with fail
  refine HF.out.mono ?_; rintro e v1 ⟨es, FA, fc, ps, PA, pc, rfl, hv, hpv, hfr, hpr, hb, hcap, hpcap, -⟩
  have hck := form_check hv hfr hpv hpr hcap hpcap (HT.out.below hb)
  obtain ⟨hpl, hgood, hgn, hsz⟩ := form_pages hv hfr hpv hpr
  have hpgs := prow_pgs hpr
  have hok := prow_ok hpr hsz
  have hfl := frow_flds hfr
  have hB := form_base hv hfr
  have h10 := hB.ten
  have hpm : ps.length ≤ maxLen := by unfold maxLen; omega
  obtain ⟨F, hFe⟩ : ∃ F, es.map FE.fd = F := ⟨_, rfl⟩
  rw [hFe] at hfl h10
  have hFl : es.length = F.length := by rw [← hFe, List.length_map]
  rw [hFl] at hck ⊢
  have hofc : ∀ s V, Below v1.heap.size v1 V → Calls Tryz.prog 20 #[.slice PA ps.length pc, .string s] V fun r w' => r = .returned (PgA.firstE ps.length (pOf ps s)) ∧ Below V.heap.size V w' := fun s V hV => PgA.of_any s ps PA pc V hpm (hpgs.below hV) (hok.below hV)
  have hfree := fun V (hV : Below v1.heap.size v1 V) => ShL.free_any F FA fc ps PA pc 0 V (by omega) (hfl.below hV) (fun V' hV' => hck V' (hV.trans (hV'.mono hV.size))) (fun s V' hV' => hofc s V' (hV.trans (hV'.mono hV.size)))
  have hinp := fun V (hV : Below v1.heap.size v1 V) => ShL.inputs_any F FA fc PA ps.length pc 0 V (by omega) (hfl.below hV) (fun V' hV' => hck V' (hV.trans (hV'.mono hV.size)))
  simp only [if_pos] at hfree hinp
  obtain ⟨T, hT⟩ : ∃ T, freeT F ps F.length = T := ⟨_, rfl⟩
  obtain ⟨I, hI⟩ : ∃ I, insI F F.length = I := ⟨_, rfl⟩
  have hTl : T.length ≤ 10 := by rw [← hT]; have := freeT_len F ps F.length; omega
  have hIl : I.length ≤ 10 := by rw [← hI]; have := insI_len F F.length; omega
  have hin : ∀ k (hk : k < F.length), pOf ps F[k].nm < ps.length → hasB T F[k].nm = false := fun k hk h => by
    cases hh : hasB T F[k].nm with
    | false => rfl
    | true =>
      rw [hasB_true, ← hT] at hh
      exact absurd h (freeT_sub F ps _ _ (Nat.le_refl _) hh)
  have hout : ∀ k (hk : k < F.length), ¬ pOf ps F[k].nm < ps.length → hasB T F[k].nm = true := fun k hk h => by
    rw [hasB_true, ← hT]
    exact freeT_all F ps k hk h _ (Nat.le_refl _) hk
  have hins : ∀ k (hk : k < F.length), decide ((k : Int) ∈ I) = decide (F[k].kind = 1) := fun k hk => by
    rw [← hI]
    have := insI_mem F k hk F.length (Nat.le_refl _)
    rw [Bool.eq_iff_iff, decide_eq_true_eq, decide_eq_true_eq, this]
    exact ⟨fun h => h.2, fun h => ⟨hk, h⟩⟩
  rw [hT] at hfree
  rw [hI] at hinp
  obtain ⟨W2, hW2⟩ : ∃ V, v1.alloc (frBox FA F.length fc PA ps.length pc) = V := ⟨_, rfl⟩
  obtain ⟨B2, hB2⟩ : ∃ B, v1.heap.size = B := ⟨_, rfl⟩
  have hb2 := b_new v1 (frBox FA F.length fc PA ps.length pc)
  have hcell := fr_cells v1 FA F.length fc PA ps.length pc
  rw [hW2] at hb2 hcell
  rw [hB2] at hcell
  obtain ⟨c0, c1⟩ := hcell W2 (Below.refl _ _)
  have hb02 := b_trans hb hb2
  have HFree := Lib.hid hfree
  have HInp := Lib.hid hinp
  have HOf := Lib.hid hofc
  have HFl := Lib.hid (hfl.below hb2)
  have HIn := Lib.hid hin
  have HOut := Lib.hid hout
  have HIns := Lib.hid hins
  have HW2 := Lib.hid hW2
  have HB2 := Lib.hid hB2
  have Hb2 := Lib.hid hb2
  have HCell := Lib.hid hcell
  have HB02 := Lib.hid hb02
  have HTl := Lib.hid hTl
  have HIl := Lib.hid hIl
  clear hck hpl hgood hgn hsz hpgs hok hfl hB hpm hFe hFl hofc hfree hinp hT hI hTl hIl hin hout hins hW2 hB2 hb2 hcell hb02 hv hpv hfr hpr hb hcap hpcap
  unfold frBox at HW2
  go_upto_region 2 with fail
  rw [HW2.out, HB2.out]
  go_wp2_with fail
  refine (HFree.out W2 Hb2.out).mono ?_; rintro e v3 ⟨vf, rfl, hown, hb3⟩
  have HOw := Lib.hid hown
  have HB3 := Lib.hid hb3
  clear hown hb3
  go_wp2_with fail
  refine (small_any _).mono ?_; rintro e v4 ⟨es2, FA2, fc2, ps2, PA2, pc2, rfl, hv2, hpv2, hfr2, hpr2, hb4, hcap2, hpcap2⟩
  have hb24 := b_trans HB3.out hb4
  have hck2 := small_check hv2 hfr2 hpv2 hpr2 hcap2 hpcap2 (HT.out.below (b_trans HB02.out hb24))
  have hsz2 := (small_pages hv2 hpv2 hpr2).2.2
  have hl2 : (es2.map FE.fd).length = es2.length := List.length_map _
  have h3 := small_len hv2
  have hpl2 : ps2.length ≤ maxLen := Nat.le_trans hpcap2.1 hpcap2.2
  rw [← hl2] at hck2
  have hfr := ShL.free_any (es2.map FE.fd) FA2 fc2 ps2 PA2 pc2 0 v4 (by omega) (frow_flds hfr2) hck2 (fun s V' hV' => PgA.of_any s ps2 PA2 pc2 V' hpl2 ((prow_pgs hpr2).below hV') ((prow_ok hpr2 hsz2).below hV'))
  simp only [if_pos] at hfr
  rw [small_free hv2 hpv2, hl2] at hfr
  have HFr := Lib.hid hfr
  have HB4 := Lib.hid (And.intro hb4 hb24)
  clear hv2 hpv2 hfr2 hpr2 hb4 hcap2 hpcap2 hb24 hck2 hsz2 hl2 h3 hpl2 hfr
  go_wp2_with fail
  refine HFr.out.mono ?_; rintro e v5 ⟨vo, rfl, hown5, hb5⟩
  obtain ⟨oA, oc, rfl, hor⟩ := NmA.SRow.of_own hown5
  obtain ⟨W6, hW6⟩ : ∃ V, v5.alloc (.cells #[.string ⟨#[98]⟩] 9) = V := ⟨_, rfl⟩
  obtain ⟨B6, hB6⟩ : ∃ B, v5.heap.size = B := ⟨_, rfl⟩
  have hb6 := b_new v5 (.cells #[.string ⟨#[98]⟩] 9)
  have hblk6 := World.alloc_heap_new v5 (.cells #[.string ⟨#[98]⟩] 9)
  rw [hW6] at hb6 hblk6
  rw [hB6] at hblk6
  have heq := NmT.equal_any W6 [⟨#[98]⟩] oA (some ⟨B6, 0, none⟩) oc 1 (by decide) (fun j hj => by
    obtain ⟨g, e, hc⟩ := hor j hj
    exact ⟨g, e, (hb6.cell (p := ⟨g, j, none⟩) (World.block_lt_of_cell? v5 _ hc)).trans hc⟩) (fun j hj => by
    obtain rfl : j = 0 := by simpa using hj
    exact ⟨B6, rfl, by simp [World.cell?, hblk6]⟩)
  have HEq := Lib.hid heq
  have HW6 := Lib.hid hW6
  have HB6 := Lib.hid hB6
  have HB26 := Lib.hid (b_trans HB4.out.2 (b_trans hb5 hb6))
  have HB36 := Lib.hid (b_trans HB4.out.1 (b_trans hb5 hb6))
  clear hown5 hb5 hor hW6 hB6 hb6 hblk6 heq
  go_wp2_with (go_at_call 19; rw [HW6.out, HB6.out]; refine HEq.out.mono ?_; rintro e w7 ⟨rfl, q7, rfl⟩; obtain ⟨c0, c1⟩ := HCell.out (W6.drewN q7) (b_drewN HB26.out q7))
  go_loopw [9, 10, 11, 43] (fun _ _ _ ii wr => ∃ k : Nat, ii = .int .i64 k ∧ k ≤ F.length ∧ Below v3.heap.size v3 wr) (fun _ _ _ ii _ => F.length - (intOf ii).toNat)
  case atStart => exact ⟨0, rfl, Nat.zero_le _, b_drewN HB36.out _⟩
  case round =>
    obtain ⟨k, rfl, hk, hb⟩ := hrel
    obtain ⟨wa, rfl⟩ : ∃ V, V = wr := ⟨_, rfl⟩
    have hb2a := b_trans HB3.out hb
    by_cases hlt : k < F.length
    · obtain ⟨ad, rfl, hat⟩ := HFl.out.below hb2a k hlt
      have hin := HIn.out k hlt
      have hout := HOut.out k hlt
      obtain ⟨f, hfk⟩ : ∃ f, F[k] = f := ⟨_, rfl⟩
      rw [hfk] at hat hin hout
      obtain ⟨q0, q1, q2, q3, q4, q5, q6, q7, q8⟩ := hat
      obtain ⟨W8, hW8⟩ : ∃ V, wa.alloc (fdBox f) = V := ⟨_, rfl⟩
      obtain ⟨B8, hB8⟩ : ∃ B, wa.heap.size = B := ⟨_, rfl⟩
      have hb8 := b_new wa (fdBox f)
      have hcl := fd_cells wa f
      rw [hW8, hB8] at hcl
      rw [hW8] at hb8
      obtain ⟨x0, x1, x2⟩ := hcl W8 (Below.refl _ _)
      have hb28 := b_trans hb2a hb8
      obtain ⟨c0, c1⟩ := HCell.out W8 hb28
      have hof := HOf.out f.nm W8 (b_trans Hb2.out hb28)
      unfold PgA.firstE at hof
      have hco : ∀ V, Below W8.heap.size W8 V → Calls Tryz.prog 21 #[vf, .string f.nm] V fun e w' => e = .returned (.bool (hasB T f.nm)) ∧ V = w' := fun V hV => containsS_any T f.nm vf _ V (by have := HTl.out; omega) (own_below HOw.out (b_trans hb (b_trans hb8 hV)))
      have HX := Lib.hid hcl
      have HCo := Lib.hid hco
      have HW8 := Lib.hid hW8
      have HB8 := Lib.hid hB8
      have HN8 := Lib.hid (b_trans hb hb8)
      unfold fdBox at HW8
      by_cases h1 : pOf ps f.nm < ps.length
      · rw [if_pos h1, if_pos h1] at hof
        have hh := hin h1
        simp only [hh] at HCo
        generalize pOf ps f.nm = pj at hof
        have HO := Lib.hid hof
        clear h1 hh hof hin hout hb hb2a hb8 hb28 hco hcl hW8 hB8 hfk
        go_upto_region 9 with fail
        rw [HW8.out, HB8.out]
        go_wp2_with fail
        refine HO.out.mono ?_; rintro r w9 ⟨rfl, hb9⟩
        obtain ⟨x0, x1, x2⟩ := HX.out w9 hb9
        have HC9 := Lib.hid (HCo.out w9 hb9)
        have HN9 := Lib.hid (b_trans HN8.out hb9)
        clear hb9
        go_wp2_with fail
        refine HC9.out.mono ?_; rintro r w10 ⟨rfl, rfl⟩
        go_wp2_with fail
        go_roundw
        case rel => exact ⟨k + 1, by go_num, by omega, HN9.out⟩
        case measure => simp [intOf]; omega
      · rw [if_neg h1, if_neg h1] at hof
        have hh := hout h1
        simp only [hh] at HCo
        have HO := Lib.hid hof
        clear h1 hh hof hin hout hb hb2a hb8 hb28 hco hcl hW8 hB8 hfk
        go_upto_region 9 with fail
        rw [HW8.out, HB8.out]
        go_wp2_with fail
        refine HO.out.mono ?_; rintro r w9 ⟨rfl, hb9⟩
        obtain ⟨x0, x1, x2⟩ := HX.out w9 hb9
        have HC9 := Lib.hid (HCo.out w9 hb9)
        have HN9 := Lib.hid (b_trans HN8.out hb9)
        clear hb9
        go_wp2_with fail
        refine HC9.out.mono ?_; rintro r w10 ⟨rfl, rfl⟩
        go_wp2_with fail
        go_roundw
        case rel => exact ⟨k + 1, by go_num, by omega, HN9.out⟩
        case measure => simp [intOf]; omega
    · obtain ⟨c0, c1⟩ := HCell.out wa hb2a
      have hip := HInp.out wa (b_trans Hb2.out hb2a)
      have HIp := Lib.hid hip
      have HBa := Lib.hid hb2a
      clear hip hb hb2a
      go_wp2_with fail
      refine HIp.out.mono ?_; rintro r w9 ⟨vi, rfl, hownI, hb9⟩
      have hb29 := b_trans HBa.out hb9
      obtain ⟨c0, c1⟩ := HCell.out w9 hb29
      have HOI := Lib.hid hownI
      have HB9 := Lib.hid hb29
      clear hownI hb9 hb29
      go_wp2_with fail
      go_loopw [14, 15, 71] (fun _ _ ii wr => ∃ j : Nat, ii = .int .i64 j ∧ j ≤ F.length ∧ Below w9.heap.size w9 wr) (fun _ _ ii _ => F.length - (intOf ii).toNat)
      case atStart => exact ⟨0, rfl, Nat.zero_le _, Below.refl _ _⟩
      case round =>
        obtain ⟨j, rfl, hj, hb⟩ := hrel
        obtain ⟨wb, rfl⟩ : ∃ V, V = wr := ⟨_, rfl⟩
        by_cases hjl : j < F.length
        · obtain ⟨ad, rfl, hat⟩ := HFl.out.below (b_trans HB9.out hb) j hjl
          have hins := HIns.out j hjl
          obtain ⟨f, hfk⟩ : ∃ f, F[j] = f := ⟨_, rfl⟩
          rw [hfk] at hat hins
          obtain ⟨q0, q1, q2, q3, q4, q5, q6, q7, q8⟩ := hat
          obtain ⟨W8, hW8⟩ : ∃ V, wb.alloc (fdBox f) = V := ⟨_, rfl⟩
          obtain ⟨B8, hB8⟩ : ∃ B, wb.heap.size = B := ⟨_, rfl⟩
          have hb8 := b_new wb (fdBox f)
          have hcl := fd_cells wb f
          rw [hW8, hB8] at hcl
          rw [hW8] at hb8
          obtain ⟨x0, x1, x2⟩ := hcl W8 (Below.refl _ _)
          have hbn := b_trans hb hb8
          have hco : ∀ m, Calls Tryz.prog 22 #[vi, .int .i64 (j : Int)] (W8.drewN m) fun e w' => e = .returned (.bool (decide ((j : Int) ∈ I))) ∧ W8.drewN m = w' := fun m => containsN_any I (j : Int) vi _ _ (by have := HIl.out; omega) (own_below HOI.out (b_drewN hbn m))
          rw [hins] at hco
          have HW8 := Lib.hid hW8
          have HB8 := Lib.hid hB8
          have HN8 := Lib.hid hbn
          unfold fdBox at HW8
          by_cases h1 : f.kind = 1
          · rw [decide_eq_true h1] at hco
            have t1 : (f.kind == 1) = true := by rw [h1]; rfl
            have HCo := Lib.hid hco
            clear h1 hco hins hb hb8 hbn hcl hW8 hB8 hfk
            go_upto_region 17 with fail
            rw [HW8.out, HB8.out]
            first | (go_quiet ((go_at_call 22; exact (HCo.out _).mono fun _ _ h => ⟨h.1, _, h.2.symm⟩))) | (fail)
            go_wp2_with fail
            go_roundw
            case rel => exact ⟨j + 1, by go_num, by omega, b_drewN HN8.out _⟩
            case measure => simp [intOf]; omega
          · rw [decide_eq_false h1] at hco
            have t1 : (f.kind == 1) = false := beq_eq_false_iff_ne.2 h1
            have HCo := Lib.hid hco
            clear h1 hco hins hb hb8 hbn hcl hW8 hB8 hfk
            go_upto_region 17 with fail
            rw [HW8.out, HB8.out]
            first | (go_quiet ((go_at_call 22; exact (HCo.out _).mono fun _ _ h => ⟨h.1, _, h.2.symm⟩))) | (fail)
            go_wp2_with fail
            go_roundw
            case rel => exact ⟨j + 1, by go_num, by omega, b_drewN HN8.out _⟩
            case measure => simp [intOf]; omega
        · have HN := Lib.hid (b_trans HB02.out (b_trans HB9.out hb))
          clear hb
          go_wp2_with fail
          go_ret
          exact ⟨rfl, HN.out⟩

theorem not_of {W : World} (h : laidMetH Tryz.prog Rows.formFreeRow.laid W) : ExN.Tab W := by
  have h0 : laidMet Tryz.prog Rows.formFreeRow.laid W := by rw [MakeChecks.laidMetH_plain _ _ _ (by kernel_rfl)] at h; exact h
  have h1 := h0
  exact NotTab.is_of_head (g := 0) (t := 160) (e := 159) (n := 19) (by kernel_rfl) (by kernel_rfl) Tryz.underlying160 (by kernel_rfl) Tryz.underlying159 (by kernel_rfl) rfl rfl rfl Tryz.underlying9 Tryz.underlying3 Tryz.underlying3 (by kernel_rfl) (by kernel_rfl) (by kernel_rfl) h1

/-! ### The row's step -/
set_option maxRecDepth 100000 in
theorem lifted (os : Os) (started : os.Started) (H : Type) (enc : TypeId × Value → H) :
    ReturnsInHanded {} Tryz.checked os 5 .any (fun w args => (Rows.formFreeSpec.pre enc Tryz.prog Tryz.f5 [] false w args ∧ laidMetH Tryz.prog Rows.formFreeRow.laid w) ∧ sizedMet enc Tryz.prog Tryz.f5 (OpenSpec.ofChange Rows.formFreeSpec) false w args) (Rows.formFreeSpec.post enc Tryz.prog Tryz.f5 false true false false) := by
  refine returnsInHanded_of_change_and (C := Tryz.checked) (X := fun w _ => laidMetH Tryz.prog Rows.formFreeRow.laid w) (fun _ _ _ hh h => h.of_heap hh) own started (by kernel_rfl) Tryz.func5
    (ChangeSpec.witness_shaped (enc := enc) (C := Tryz.checked) (os := os) (X := fun w _ => laidMetH Tryz.prog Rows.formFreeRow.laid w) false (World.laidAll Tryz.prog os Rows.formFreeRow.laid) #[.slice none 0 0] 8 (World.laidAll_os _ _ _) (World.shaped_of_ZipB (by kernel_rfl) (by kernel_rfl)) (by kernel_rfl) (by kernel_rfl) (by kernel_rfl) (by rw [MakeChecks.laidMetH_plain _ _ _ (by kernel_rfl)]; exact laidMet_laidAll _ (by kernel_rfl) (by kernel_rfl))) ?_
  intro W base args ds gs before hval0 hW hcnd hsz hL _
  have hval : ∀ (j : Nat) t v, Tryz.f5.params[j]? = some t → args[j]? = some v → Value.okWide Tryz.prog W .any base t v := hval0
  have hW' := hW
  obtain ⟨p, q, hA0, hV, rfl, hfz, hnd⟩ := hW
  have hA : DataW.TrodAll enc Tryz.prog W 0 (fun _ => true) true Tryz.f5.params.toList args.toList ds p := hA0
  rw [Tryz.params5] at hA hval
  obtain ⟨v0, vs0, d0, ds0, p0, q0, hargs, rfl, rfl, h0, r0⟩ := trodAll_cons hA
  obtain ⟨rfl, rfl, rfl⟩ := trodAll_nil r0
  obtain rfl : args = #[v0] := by cases args; simp_all
  obtain ⟨rfl, rfl⟩ := trodVars_none hV
  have k0 := h0
  have lt0 : ∀ x ∈ p0, x.block < W.heap.size := by obtain ⟨m, hm⟩ := k0; exact DataW.trod_lt m _ _ _ hm
  obtain ⟨A0, n0, c0, rfl, hraw0⟩ := RawO.open_raws (hval 0 41 v0 rfl rfl) h0
  clear hA0 hval0
  refine (walk A0 n0 c0  W hraw0 (not_of hL)).mono fun e W' ⟨he, bel⟩ => ?_
  subst he
  exact ⟨_, rfl, _, _, _, [], _, [], hW', trodAll_mk1 (shut_bool Tryz.underlying4 _), (trodAll_cons_mk (Below.trod laidOut (by kernel_rfl) (of_decide_eq_true (by kernel_rfl)) k0 bel lt0) trodAll_mk0), rfl, bel.frame _, fun h => by cases h⟩

theorem over : Rows.formFreeRow.holds Tryz.pinned (OpenSpec.ofChange Rows.formFreeSpec) :=
  OpenClaim.holds_of_wide 5 Tryz.f5 rfl rfl rfl rfl rfl rfl rfl ⟨rfl, rfl, rfl, rfl, rfl⟩ rfl rfl rfl rfl rfl (by kernel_rfl) Tryz.func5 (by kernel_rfl)
    (of_decide_eq_true (by kernel_rfl)) (by unfold Func.isWrapper; first | (rw [if_pos (by decide +kernel)]; kernel_rfl) | (rw [if_neg (by decide +kernel)]; exact ⟨rfl, rfl⟩))
    (fun os started H enc _ => lifted os started H enc)

/-- The tied card. -/
theorem proved : Rows.FormFreeCardSaid :=
  Claim7.holds_tied_plain_at .later [] [.data] true (true, "ff5b94c29dd75854d1af953921bf2bee20dbe9c67f3747fbcdc6bb0a2705bc95") false
    over (fun _ h => by cases h) (by kernel_rfl) (fun _ h => by cases h) formFree_row_tie rfl ⟨rfl, rfl⟩ (by kernel_rfl) rfl
    (fun f fn hf hfn => by
      obtain rfl : f = 5 := Option.some.inj ((show Tryz.prog.funcNamed "lychway/lychwaykeep.FormFree" = some 5 by kernel_rfl).symm.trans hf) |>.symm
      obtain rfl : fn = Tryz.f5 := (Option.some.inj (Tryz.func5.symm.trans hfn)).symm
      exact ⟨by kernel_rfl, fun j t ht => by
        rw [Tryz.params5] at ht
        have hm : t ∈ [41] := by simpa using Array.mem_of_getElem? ht
        have hall : ([41].all fun u => !Tryz.prog.wantsStandIn u) = true := by kernel_rfl
        exact (show Tryz.prog.wantsStandIn t = false by simpa using List.all_eq_true.1 hall t hm)⟩)
    (by kernel_rfl)
#print axioms proved
end Go.Proofs.YtdlfhldboagbeaaGreatDoor.formFree
