/- What is proved: the Go law lychwaykeep.TextBack returns true for all its arguments, and leaves them as they were. No condition. -/
import Derived.Test.YtdefaeieiaegaaaGreatDoorRows
import Derived.Test.YtdefaeieiaegaaaGreatDoorKtT01
import Derived.Test.YtdefaeieiaegaaaGreatDoorKtT24
import Derived.Test.YtdefaeieiaegaaaGreatDoorKtT25
import Derived.Test.YtdefaeieiaegaaaGreatDoorKtT26
import Derived.WalkKit
import Derived.ProofKit
import Derived.OpenShut
import Derived.Deep.RegionHeld3
import Derived.Deep.DrawnRows
import Derived.Deep.DeepCutAuto
import Derived.Deep.QuietTactic
import Derived.BigQuiet
import Derived.WalkSpells
import Derived.WalkLawsBesides
import Derived.Lib.Hide
import Derived.Outline
import Derived.ShutString
import Derived.ChangeOld
import Derived.Below
import Derived.LaidMore
import Derived.SizedLaws
import Derived.Stop.Joined
import Derived.Stop.LaidErr
import Derived.Lib.LaidTab
import Derived.SevenTiedAt
import Derived.Lay
import Derived.LaidOnce
import Derived.Deep.DeepHandedRow
import Derived.Test.YtdefaeieiaegaaaGreatDoorCards
import Derived.Test.YtdefaeieiaegaaaGreatDoorTie
namespace Go.Proofs.YtdefaeieiaegaaaGreatDoor.textBack
open ValM LexM NumM ExM NmM Kit ExL ExP ExN RawV Within RawL RawN GenL FldP FldR FldC FrmM Frm FrmT FrmO PgM PgA PgF RkM RkA RkD RkO RkS RkK ShT ShL ShG TxM TxR TxP TxT TxQ TxN TxF TxU TxK
open Go.ChangeShapes Go.WideShapes Go.ChangeAt Go.RowKit
open Go.ChangeMaps (open_string shut_string)
set_option linter.unusedVariables false

theorem own : ownKnob Tryz.prog.godebug = none := by kernel_rfl
theorem laidOut : laidOutB Tryz.prog = true := by kernel_rfl


/-! ### The walk -/
set_option maxRecDepth 100000 in
set_option maxHeartbeats 16000000 in
theorem walk (A0 : Option Addr) (n0 : Nat) (c0 : Nat)  (w : World) (hraw0 : RawL.Raws w A0 n0 c0) (ht : ExN.Tab w) (hp : Show.Pow w) (hErrRange : ∃ p, w.var? Tryz.prog "strconv.ErrRange" = some #[.iface 279 p]) (hErrSyntax : ∃ p, w.var? Tryz.prog "strconv.ErrSyntax" = some #[.iface 279 p]) (t_signs : StrTab.Is Tryz.prog w "lychway/lex.signs" [[60, 61], [33, 61], [60], [61], [43], [45], [42], [47], [37], [38], [40], [41], [44]]) (t_kinds : StrTab.Is Tryz.prog w "lychway/text.kinds" [[], [105, 110, 112, 117, 116], [102, 111, 114, 109, 117, 108, 97], [108, 111, 111, 107, 117, 112]]) (t_types : StrTab.Is Tryz.prog w "lychway/text.types" [[], [105, 110, 116], [98, 111, 111, 108], [116, 101, 120, 116]]) (hmax : ∃ m, w.cell? ⟨3, 0, none⟩ = some (.int .i64 m)) :
    Calls Tryz.prog 5 #[.slice A0 n0 c0] w fun e w' => e = .returned (.bool true) ∧ Below w.heap.size w w' := by
  have hvr : RVars w := ⟨⟨⟨ht, hp⟩, t_kinds, t_types⟩, ⟨hErrSyntax, hErrRange, t_signs⟩, ⟨hp, hErrSyntax, hErrRange⟩, hmax⟩
  obtain ⟨rs, rfl, hrv⟩ := RawN.Raws.val n0 hraw0
  have hF := form_any c0 A0 rs w hrv
  have HF := Lib.hid hF
  have HT := Lib.hid ht
  have HV := Lib.hid hvr
  clear hF hrv hraw0 ht hp t_kinds t_types hErrSyntax hErrRange t_signs hmax hvr
  go_enter Tryz.func5, Tryz.ntmps5
  go_wp2_with fail
  refine HF.out.mono ?_; rintro e v1 ⟨es, FA, fc, ps, PA, pc, rfl, hv, hpv, hfr, hpr, hb, hcap, hpcap, -⟩
  obtain ⟨hok, hrk, hn10, hp4⟩ := gen_ok hv hfr hpv hpr
  have hck := form_check hv hfr hpv hpr hcap hpcap (HT.out.below hb)
  obtain ⟨hpl, hgood, hgn, hsz⟩ := form_pages hv hfr hpv hpr
  have hpgs := prow_pgs hpr
  have hpok := prow_ok hpr hsz
  have hfl := frow_flds hfr
  have hps := prow_caps hpr
  obtain ⟨W2, hW2⟩ : ∃ V, v1.alloc (frBox FA es.length fc PA ps.length pc) = V := ⟨_, rfl⟩
  obtain ⟨B2, hB2⟩ : ∃ B, v1.heap.size = B := ⟨_, rfl⟩
  have hb2 := b_new v1 (frBox FA es.length fc PA ps.length pc)
  have hcell := fr_cells v1 FA es.length fc PA ps.length pc
  rw [hW2] at hb2 hcell
  rw [hB2] at hcell
  obtain ⟨c0, c1⟩ := hcell W2 (Below.refl _ _)
  have hb02 := b_trans hb hb2
  have hokb : ∀ V, Below W2.heap.size W2 V → FormOk V es ps (xOf es) := fun V hV => by
    have hbV := b_trans hb2 hV
    exact ⟨fun i hi => (hok.fi i hi).below hbV, fun i hi => (hok.pi i hi).below hbV, hok.src, hok.fields, hok.pages⟩
  have hprint := TxQ.print_any es ps (xOf es) FA fc PA pc 0 W2 (hfl.below hb2) (hpgs.below hb2) (hpok.below hb2) (fun e he => (hps e he).2) (by omega) (by omega) (fun _ => hokb W2 (Below.refl _ _)) (fun V hV => hck V (b_trans hb2 hV)) (HV.out.below hb02).tv
  rw [if_pos rfl] at hprint
  obtain ⟨T, hT⟩ : ∃ T : ByteArray, (⟨(formL es ps).toArray⟩ : ByteArray) = T := ⟨_, rfl⟩
  rw [hT] at hprint
  have hTl : T.data.toList = formL es ps := by rw [← hT]
  have hTs : T.size ≤ 130000 := by show T.data.toList.length ≤ _; rw [hTl]; exact hok.size
  have hread : ∀ V, Below W2.heap.size W2 V → Calls Tryz.prog 10 #[.string T] V fun e w' => ∃ (GA QA : Option Addr) (gn gc qn qc : Nat) (k er : Int), e = .returned (.tuple #[.agg #[.slice GA gn gc, .slice QA qn qc], .int .i64 k, .int .i64 er]) ∧ Below V.heap.size V w' ∧ ((er = 0 ∧ ∀ V', Below w'.heap.size w' V' → Calls Tryz.prog 17 #[.agg #[.slice FA es.length fc, .slice PA ps.length pc], .agg #[.slice GA gn gc, .slice QA qn qc]] V' fun r w2 => r = .returned (.bool true) ∧ Below V'.heap.size V' w2) ∨ (er = 1 ∧ ∃ l ∈ linesF (es.map flE) (ps.map plE), 160 < l.length)) := fun V hV => by
    have hbV := b_trans hb2 hV
    refine (read_any T V (by omega) (HV.out.below (b_trans hb hbV))).mono fun e w' h => ?_
    rw [hTl] at h
    exact back_same (hokb V hV) (hfl.below hbV) (hpgs.below hbV) (hpok.below hbV) (fun e he => (hps e he).1) (back_of (hokb V hV) hrk h)
  obtain ⟨L, hLs, hLl, hsp⟩ := split_lines T
  have hLf : L.map (fun t => t.data.toList) = linesF (es.map flE) (ps.map plE) := by rw [hLs, hTl]; exact hok.split
  have hlong : (∃ l ∈ linesF (es.map flE) (ps.map plE), 160 < l.length) → ∃ (k : Nat) (h : k < L.length), 160 < L[k].size := fun ⟨l, hl, hlt⟩ => by
    rw [← hLf] at hl
    obtain ⟨t, ht, rfl⟩ := List.mem_map.1 hl
    obtain ⟨k, hk, rfl⟩ := List.getElem_of_mem ht
    exact ⟨k, hk, hlt⟩
  have hL20 : L.length ≤ 20 := by
    have := congrArg List.length hLf
    rw [List.length_map] at this
    rw [this]; unfold linesF; simp; omega
  have HPrint := Lib.hid hprint
  have HRead := Lib.hid hread
  have HSp := Lib.hid hsp
  have HLong := Lib.hid hlong
  have HW2 := Lib.hid hW2
  have HB2 := Lib.hid hB2
  have HB02 := Lib.hid hb02
  have HCell := Lib.hid hcell
  clear hprint hread hsp hlong hW2 hB2 hb02 hcell hok hrk hck hpl hgood hgn hsz hpgs hpok hfl hps hokb hT hLs hLl hLf hv hpv hfr hpr hb hcap hpcap hb2 hTl
  obtain ⟨en, hen⟩ : ∃ n, es.length = n := ⟨_, rfl⟩
  obtain ⟨pn, hpn⟩ : ∃ n, ps.length = n := ⟨_, rfl⟩
  rw [hen, hpn] at HPrint HRead HW2 HCell
  rw [hen] at c0
  rw [hpn] at c1
  rw [hen, hpn]
  clear hen hpn
  unfold frBox at HW2
  go_upto_region 2 with fail
  rw [HW2.out, HB2.out]
  go_wp2_with fail
  refine HPrint.out.mono ?_; rintro e v3 ⟨rfl, hb3⟩
  obtain ⟨c0, c1⟩ := HCell.out v3 hb3
  have HB3 := Lib.hid hb3
  clear hb3
  go_wp2_with fail
  refine (HRead.out _ HB3.out).mono ?_; rintro e v4 ⟨GA, QA, gn, gc, qn, qc, kl, er, rfl, hb4, hsame⟩
  obtain ⟨W5, hW5⟩ : ∃ V, v4.alloc (.cells #[.slice GA gn gc, .slice QA qn qc] 25) = V := ⟨_, rfl⟩
  obtain ⟨B5, hB5⟩ : ∃ B, v4.heap.size = B := ⟨_, rfl⟩
  have hb5 : Below v4.heap.size v4 W5 := by rw [← hW5]; exact b_new _ _
  have hk5 : W5.heap[B5]? = some (.cells #[.slice GA gn gc, .slice QA qn qc] 25 (0, 0)) := by rw [← hW5, ← hB5]; exact World.alloc_heap_new v4 _
  have HSame := Lib.hid hsame
  have HW5 := Lib.hid hW5
  have HB5 := Lib.hid hB5
  have Hb5 := Lib.hid hb5
  have HK5 := Lib.hid hk5
  have HB25 := Lib.hid (b_trans HB3.out (b_trans hb4 hb5))
  clear hsame hW5 hB5 hb5 hk5 hb4
  go_upto_region 4 with fail
  rw [HW5.out, HB5.out]
  obtain ⟨q0, q1⟩ := row_cells HK5.out
  obtain ⟨c0, c1⟩ := HCell.out W5 HB25.out
  go_wp2_with fail
  refine (small_any _).mono ?_; rintro e v6 ⟨es2, FA2, fc2, ps2, PA2, pc2, rfl, hv2, hpv2, hfr2, hpr2, hb6, hcap2, hpcap2⟩
  have hb26 := b_trans HB25.out hb6
  have hok2 := small_ok hv2 hfr2 hpv2 hpr2
  have hck2 := small_check hv2 hfr2 hpv2 hpr2 hcap2 hpcap2 (HT.out.below (b_trans HB02.out hb26))
  obtain ⟨hl2, _, hsz2⟩ := small_pages hv2 hpv2 hpr2
  have h3 := small_len hv2
  have hpr2 := TxQ.print_any es2 ps2 (xOf es2) FA2 fc2 PA2 pc2 0 v6 (frow_flds hfr2) (prow_pgs hpr2) (prow_ok hpr2 hsz2) (fun e he => (prow_caps hpr2 e he).2) (by omega) (by omega) (fun _ => hok2) hck2 (HV.out.below (b_trans HB02.out hb26)).tv
  rw [if_pos rfl] at hpr2
  obtain ⟨T2, hT2⟩ : ∃ T : ByteArray, (⟨(formL es2 ps2).toArray⟩ : ByteArray) = T := ⟨_, rfl⟩
  rw [hT2] at hpr2
  have hpre : Lib.hasPrefix T2.data.toList (⟨#[102, 111, 114, 109, 117, 108, 97, 32, 98, 32, 105, 110, 116, 32, 61, 32, 97, 32, 43, 32, 49, 10, 105, 110, 112, 117, 116, 32, 97, 32, 105, 110, 116, 10]⟩ : ByteArray).data.toList = true := by rw [← hT2]; exact small_pre ps2 hv2
  have hpx := fun V => LexS.pre_any T2 ⟨#[102, 111, 114, 109, 117, 108, 97, 32, 98, 32, 105, 110, 116, 32, 61, 32, 97, 32, 43, 32, 49, 10, 105, 110, 112, 117, 116, 32, 97, 32, 105, 110, 116, 10]⟩ V
  rw [hpre] at hpx
  have HPr2 := Lib.hid hpr2
  have HPx := Lib.hid hpx
  have HB6 := Lib.hid hb6
  have HB26 := Lib.hid hb26
  clear hb6 hb26 hok2 hck2 hl2 hsz2 h3 hpr2 hT2 hpre hpx hv2 hpv2 hfr2 hcap2 hpcap2
  go_wp2_with fail
  refine HPr2.out.mono ?_; rintro e v7 ⟨rfl, hb7⟩
  have HB57 := Lib.hid (b_trans HB6.out hb7)
  have HB27 := Lib.hid (b_trans HB26.out hb7)
  clear hb7
  go_wp2_with (go_at_call 15; refine (HPx.out _).mono ?_; rintro e w9 ⟨rfl, rfl⟩)
  have hspl := HSp.out v7 (by omega) (HV.out.below (b_trans HB02.out HB27.out)).mx
  have HSpl := Lib.hid hspl
  clear hspl
  refine HSpl.out.mono ?_; rintro e v8 ⟨G, rfl, hG1, hG2, hGc, hb8⟩
  obtain ⟨c0, c1⟩ := HCell.out v8 (b_trans HB27.out hb8)
  have hk8 := ((b_trans HB57.out hb8).block B5 (Array.getElem?_eq_some_iff.1 HK5.out).1).trans HK5.out
  obtain ⟨q0, q1⟩ := row_cells hk8
  have HB8 := Lib.hid (b_trans HB02.out (b_trans HB27.out hb8))
  have HS8 := Lib.hid (show (er = 0 ∧ ∀ V', Below v8.heap.size v8 V' → Calls Tryz.prog 17 #[.agg #[.slice FA en fc, .slice PA pn pc], .agg #[.slice GA gn gc, .slice QA qn qc]] V' fun r w2 => r = .returned (.bool true) ∧ Below V'.heap.size V' w2) ∨ (er = 1 ∧ ∃ (k : Nat) (h : k < L.length), 160 < L[k].size) from by
    rcases HSame.out with ⟨h1, h2⟩ | ⟨h1, h2⟩
    · exact .inl ⟨h1, fun V' hV' => h2 V' (b_trans Hb5.out (b_trans (b_trans HB57.out hb8) hV'))⟩
    · exact .inr ⟨h1, HLong.out h2⟩)
  have HGc := Lib.hid hGc
  clear hG1 hG2 hGc hb8 hk8
  obtain ⟨n, hn⟩ : ∃ n, L.length = n := ⟨_, rfl⟩
  rw [hn] at hL20 ⊢
  have HN := Lib.hid hn
  clear hn
  go_wp2_with fail
  go_loop [12, 45] (fun _ ii => ∃ k : Nat, ii = .int .i64 k ∧ k ≤ n ∧ ∀ (j : Nat) (h : j < L.length), j < k → L[j].size ≤ 160) (fun _ ii => n - (intOf ii).toNat)
  case atStart => exact ⟨0, rfl, Nat.zero_le _, fun j _ hj => absurd hj (Nat.not_lt_zero _)⟩
  case round =>
    obtain ⟨k, rfl, hk, hall⟩ := hrel
    by_cases hlt : k < n
    · have hkL : k < L.length := by have := HN.out; omega
      have hcell := HGc.out k hkL
      obtain ⟨ln, hln⟩ : ∃ ln, L[k] = ln := ⟨_, rfl⟩
      rw [hln] at hcell
      by_cases hlg : 160 < ln.size
      · have tl : (160 : Int) < (ln.size : Int) := by omega
        have HAll := Lib.hid hall
        clear hall hln
        rcases HS8.out with ⟨rfl, hs⟩ | ⟨rfl, _⟩
        · have HS := Lib.hid (hs v8 (Below.refl _ _))
          clear hs
          go_wp2_with fail
          refine HS.out.mono ?_; rintro e w9 ⟨rfl, hb9⟩
          have HB9 := Lib.hid (b_trans HB8.out hb9)
          clear hb9
          go_wp2_with fail
          go_ret
          exact ⟨rfl, HB9.out⟩
        · go_wp2_with fail
          go_ret
          exact ⟨rfl, HB8.out⟩
      · have tl : ¬ (160 : Int) < (ln.size : Int) := by omega
        have HAll := Lib.hid (show ∀ (j : Nat) (h : j < L.length), j < k + 1 → L[j].size ≤ 160 from fun j h hj => by
          by_cases e : j = k
          · subst e; rw [hln]; omega
          · exact hall j h (by omega))
        clear hall hln
        go_wp2_with fail
        go_round
        case rel => exact ⟨k + 1, by go_num, by omega, HAll.out⟩
        case measure => simp [intOf]; omega
    · rcases HS8.out with ⟨rfl, hs⟩ | ⟨rfl, ⟨j, hj, hlg⟩⟩
      · have HS := Lib.hid (hs v8 (Below.refl _ _))
        clear hs hall
        go_wp2_with fail
        refine HS.out.mono ?_; rintro e w9 ⟨rfl, hb9⟩
        have HB9 := Lib.hid (b_trans HB8.out hb9)
        clear hb9
        go_wp2_with fail
        go_ret
        exact ⟨rfl, HB9.out⟩
      · exfalso
        have := hall j hj (by have := HN.out; omega)
        omega

theorem star : "*" ++ "errors.errorString" = "*errors.errorString" := by decide
theorem row_es (u : TypeId) (h : Tryz.prog.typeName? 3 u = some "*errors.errorString") : u = 279 :=
  typeName_ptr_named (nm := "errors.errorString") (by rw [star]; kernel_rfl) (by kernel_rfl) (by decide) u (by rw [star]; exact h)
theorem ErrRange_of {W : World} (h : laidMetH Tryz.prog Rows.textBackRow.laid W) : ∃ p, W.var? Tryz.prog "strconv.ErrRange" = some #[.iface 279 p] := by
  have h0 : laidMet Tryz.prog Rows.textBackRow.laid W := by rw [MakeChecks.laidMetH_plain _ _ _ (by kernel_rfl)] at h; exact h
  obtain ⟨a0, s0, hv0, hc0, hs0, hz0⟩ := laid_sentinel (g := 9) (ti := 92) h0.tail.tail.tail.tail (by kernel_rfl) (by kernel_rfl) Tryz.underlying92 (row_es) Tryz.underlying279 Tryz.underlying281 rfl rfl Tryz.underlying9 (by kernel_rfl) (by kernel_rfl)
  exact ⟨_, hv0⟩

theorem ErrSyntax_of {W : World} (h : laidMetH Tryz.prog Rows.textBackRow.laid W) : ∃ p, W.var? Tryz.prog "strconv.ErrSyntax" = some #[.iface 279 p] := by
  have h0 : laidMet Tryz.prog Rows.textBackRow.laid W := by rw [MakeChecks.laidMetH_plain _ _ _ (by kernel_rfl)] at h; exact h
  obtain ⟨a0, s0, hv0, hc0, hs0, hz0⟩ := laid_sentinel (g := 8) (ti := 92) h0.tail.tail.tail.tail.tail (by kernel_rfl) (by kernel_rfl) Tryz.underlying92 (row_es) Tryz.underlying279 Tryz.underlying281 rfl rfl Tryz.underlying9 (by kernel_rfl) (by kernel_rfl)
  exact ⟨_, hv0⟩

theorem signs_of {W : World} (h : laidMetH Tryz.prog Rows.textBackRow.laid W) : StrTab.Is Tryz.prog W "lychway/lex.signs" [[60, 61], [33, 61], [60], [61], [43], [45], [42], [47], [37], [38], [40], [41], [44]] := by
  have h0 : laidMet Tryz.prog Rows.textBackRow.laid W := by rw [MakeChecks.laidMetH_plain _ _ _ (by kernel_rfl)] at h; exact h
  have h1 := h0.tail.tail.tail.tail.tail.tail
  exact StrTab.is_of_head (g := 7) (t := 263) (e := 9) (n := 13) (by kernel_rfl) (by kernel_rfl) Tryz.underlying263 Tryz.underlying9 (by kernel_rfl) (by kernel_rfl) h1

theorem kinds_of {W : World} (h : laidMetH Tryz.prog Rows.textBackRow.laid W) : StrTab.Is Tryz.prog W "lychway/text.kinds" [[], [105, 110, 112, 117, 116], [102, 111, 114, 109, 117, 108, 97], [108, 111, 111, 107, 117, 112]] := by
  have h0 : laidMet Tryz.prog Rows.textBackRow.laid W := by rw [MakeChecks.laidMetH_plain _ _ _ (by kernel_rfl)] at h; exact h
  have h1 := h0.tail.tail.tail.tail.tail.tail.tail.tail
  exact StrTab.is_of_head (g := 0) (t := 103) (e := 9) (n := 4) (by kernel_rfl) (by kernel_rfl) Tryz.underlying103 Tryz.underlying9 (by kernel_rfl) (by kernel_rfl) h1

theorem types_of {W : World} (h : laidMetH Tryz.prog Rows.textBackRow.laid W) : StrTab.Is Tryz.prog W "lychway/text.types" [[], [105, 110, 116], [98, 111, 111, 108], [116, 101, 120, 116]] := by
  have h0 : laidMet Tryz.prog Rows.textBackRow.laid W := by rw [MakeChecks.laidMetH_plain _ _ _ (by kernel_rfl)] at h; exact h
  have h1 := h0.tail.tail.tail.tail.tail.tail.tail.tail.tail
  exact StrTab.is_of_head (g := 1) (t := 103) (e := 9) (n := 4) (by kernel_rfl) (by kernel_rfl) Tryz.underlying103 Tryz.underlying9 (by kernel_rfl) (by kernel_rfl) h1

theorem not_of {W : World} (h : laidMetH Tryz.prog Rows.textBackRow.laid W) : ExN.Tab W := by
  have h0 : laidMet Tryz.prog Rows.textBackRow.laid W := by rw [MakeChecks.laidMetH_plain _ _ _ (by kernel_rfl)] at h; exact h
  have h1 := h0.tail.tail.tail.tail.tail.tail.tail
  exact NotTab.is_of_head (g := 2) (t := 131) (e := 130) (n := 19) (by kernel_rfl) (by kernel_rfl) Tryz.underlying131 (by kernel_rfl) Tryz.underlying130 (by kernel_rfl) rfl rfl rfl Tryz.underlying9 Tryz.underlying3 Tryz.underlying3 (by kernel_rfl) (by kernel_rfl) (by kernel_rfl) h1

theorem pow_of {W : World} (h : laidMetH Tryz.prog Rows.textBackRow.laid W) : Show.Pow W := by
  have h0 : laidMet Tryz.prog Rows.textBackRow.laid W := by rw [MakeChecks.laidMetH_plain _ _ _ (by kernel_rfl)] at h; exact h
  have h1 := h0.tail.tail
  exact Lib.tabIs_of_head (k := .u64) (zs := Lib.pow10Tab) (g := 6) (t := 260) (e := 237) (n := 20) (by kernel_rfl) (by kernel_rfl) Tryz.underlying260 Tryz.underlying237 (by kernel_rfl) (by kernel_rfl) h1

/-! ### The row's step -/
set_option maxRecDepth 100000 in
theorem lifted (os : Os) (started : os.Started) (H : Type) (enc : TypeId × Value → H) :
    ReturnsInHanded {} Tryz.checked os 5 .any (fun w args => (Rows.textBackSpec.pre enc Tryz.prog Tryz.f5 [] false w args ∧ laidMetH Tryz.prog Rows.textBackRow.laid w) ∧ sizedMet enc Tryz.prog Tryz.f5 (OpenSpec.ofChange Rows.textBackSpec) false w args) (Rows.textBackSpec.post enc Tryz.prog Tryz.f5 false true false false) := by
  refine ShA.and_shaped (C := Tryz.checked) (X := fun w _ => laidMetH Tryz.prog Rows.textBackRow.laid w) (fun _ _ _ hh h => h.of_heap hh) own started (by kernel_rfl) Tryz.func5
    (ChangeSpec.witness_shaped (enc := enc) (C := Tryz.checked) (os := os) (X := fun w _ => laidMetH Tryz.prog Rows.textBackRow.laid w) false (World.laidAll Tryz.prog os Rows.textBackRow.laid) #[.slice none 0 0] 8 (World.laidAll_os _ _ _) (World.shaped_of_ZipB (by kernel_rfl) (by kernel_rfl)) (by kernel_rfl) (by kernel_rfl) (by kernel_rfl) (by rw [MakeChecks.laidMetH_plain _ _ _ (by kernel_rfl)]; exact laidMet_laidAll _ (by kernel_rfl) (by kernel_rfl))) ?_
  intro W base args ds gs before hval0 hW hcnd hsz hL hsh _
  have hval : ∀ (j : Nat) t v, Tryz.f5.params[j]? = some t → args[j]? = some v → Value.okWide Tryz.prog W .any base t v := hval0
  have hW' := hW
  obtain ⟨p, q, hA0, hV, rfl, hfz, hnd⟩ := hW
  have hA : DataW.TrodAll enc Tryz.prog W 0 (fun _ => true) true Tryz.f5.params.toList args.toList ds p := hA0
  rw [Tryz.params5] at hA hval
  obtain ⟨v0, vs0, d0, ds0, p0, q0, hargs, rfl, rfl, h0, r0⟩ := trodAll_cons hA
  obtain ⟨rfl, rfl, rfl⟩ := trodAll_nil r0
  obtain rfl : args = #[v0] := by cases args; simp_all
  obtain ⟨rfl, rfl⟩ := trodVars_none hV
  have k0 := h0
  have lt0 : ∀ x ∈ p0, x.block < W.heap.size := by obtain ⟨m, hm⟩ := k0; exact DataW.trod_lt m _ _ _ hm
  obtain ⟨A0, n0, c0, rfl, hraw0⟩ := RawO.open_raws (hval 0 34 v0 rfl rfl) h0
  clear hA0 hval0
  refine (walk A0 n0 c0  W hraw0 (not_of hL) (pow_of hL) (ErrRange_of hL) (ErrSyntax_of hL) (signs_of hL) (kinds_of hL) (types_of hL) (Go.Proofs.cell_of_shapedOpen_int (zero := #[.int .i64 0]) (t := 3) hsh (of_decide_eq_true (by kernel_rfl)) (by kernel_rfl) rfl (by kernel_rfl) (by kernel_rfl) Tryz.underlying3)).mono fun e W' ⟨he, bel⟩ => ?_
  subst he
  exact ⟨_, rfl, _, _, _, [], _, [], hW', trodAll_mk1 (shut_bool Tryz.underlying4 _), (trodAll_cons_mk (Below.trod laidOut (by kernel_rfl) (of_decide_eq_true (by kernel_rfl)) k0 bel lt0) trodAll_mk0), rfl, bel.frame _, fun h => by cases h⟩

theorem over : Rows.textBackRow.holds Tryz.pinned (OpenSpec.ofChange Rows.textBackSpec) :=
  OpenClaim.holds_of_wide 5 Tryz.f5 rfl rfl rfl rfl rfl rfl rfl ⟨rfl, rfl, rfl, rfl, rfl⟩ rfl rfl rfl rfl rfl (by kernel_rfl) Tryz.func5 (by kernel_rfl)
    (of_decide_eq_true (by kernel_rfl)) (by unfold Func.isWrapper; first | (rw [if_pos (by decide +kernel)]; kernel_rfl) | (rw [if_neg (by decide +kernel)]; exact ⟨rfl, rfl⟩))
    (fun os started H enc _ => lifted os started H enc)

/-- The tied card. -/
theorem proved : Rows.TextBackCardSaid :=
  Claim7.holds_tied_plain_at .later [] [.data, .data, .data, .data, .sentinel, .sentinel, .data, .data, .data, .data, .pinned] true (true, "dcdfce5172450e36f3ccf140f6bd935ce6d963e2e5d0b7dd44de47bb4f661764") true
    over (fun _ h => by cases h) (by kernel_rfl) (fun _ h => by cases h) textBack_row_tie rfl ⟨rfl, rfl⟩ (by kernel_rfl) rfl
    (fun f fn hf hfn => by
      obtain rfl : f = 5 := Option.some.inj ((show Tryz.prog.funcNamed "lychway/lychwaykeep.TextBack" = some 5 by kernel_rfl).symm.trans hf) |>.symm
      obtain rfl : fn = Tryz.f5 := (Option.some.inj (Tryz.func5.symm.trans hfn)).symm
      exact ⟨by kernel_rfl, fun j t ht => by
        rw [Tryz.params5] at ht
        have hm : t ∈ [34] := by simpa using Array.mem_of_getElem? ht
        have hall : ([34].all fun u => !Tryz.prog.wantsStandIn u) = true := by kernel_rfl
        exact (show Tryz.prog.wantsStandIn t = false by simpa using List.all_eq_true.1 hall t hm)⟩)
    (by kernel_rfl)
#print axioms proved
end Go.Proofs.YtdefaeieiaegaaaGreatDoor.textBack
