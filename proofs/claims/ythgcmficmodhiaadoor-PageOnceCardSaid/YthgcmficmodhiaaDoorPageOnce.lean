/- What is proved: the Go law lychwaykeep.PageOnce returns true for all its arguments, and leaves them as they were. No condition. -/
import Derived.Test.YthgcmficmodhiaaDoorRows
import Derived.Test.YthgcmficmodhiaaDoorPgTwice
import Derived.Test.YthgcmficmodhiaaDoorRawOpen
import Derived.Test.YthgcmficmodhiaaDoorKit
import Derived.WalkKit
import Derived.ProofKit
import Derived.OpenShut
import Derived.Deep.RegionHeld3
import Derived.Deep.DrawnRows
import Derived.Deep.DeepCutAuto
import Derived.Deep.QuietTactic
import Derived.BigQuiet
import Derived.WalkSpells
import Derived.WalkLawsBesides
import Derived.Lib.Hide
import Derived.Outline
import Derived.ShutString
import Derived.ChangeOld
import Derived.Below
import Derived.LaidMore
import Derived.SizedLaws
import Derived.Stop.Joined
import Derived.Stop.LaidErr
import Derived.Lib.LaidTab
import Derived.SevenTiedAt
import Derived.Lay
import Derived.LaidOnce
import Derived.Deep.DeepHandedRow
import Derived.Test.YthgcmficmodhiaaDoorCards
import Derived.Test.YthgcmficmodhiaaDoorTie
namespace Go.Proofs.YthgcmficmodhiaaDoor.pageOnce
open ValM LexM NumM ExM NmM Kit ExL ExP ExN RawV Within RawL RawN GenL Gen GenE GenT GenV FrmM Frm FldP FldR FldC FrmT FrmO NmA PgM PgA PgB PgC PgF PgT
open Go.ChangeShapes Go.WideShapes Go.ChangeAt Go.RowKit
open Go.ChangeMaps (open_string shut_string)
set_option linter.unusedVariables false

theorem own : ownKnob Tryd.prog.godebug = none := by kernel_rfl
theorem laidOut : laidOutB Tryd.prog = true := by kernel_rfl


/-! ### The walk -/
set_option maxRecDepth 100000 in
set_option maxHeartbeats 8000000 in
theorem walk (A0 : Option Addr) (n0 : Nat) (c0 : Nat) (a1 : Int) (w1 : (Lit.int .i64 a1).wf = true) (w : World) (hraw0 : RawL.Raws w A0 n0 c0) (ht : ExN.Tab w) :
    Calls Tryd.prog 4 #[.slice A0 n0 c0, .int .i64 a1] w fun e w' => e = .returned (.bool true) ∧ Below w.heap.size w w' := by
  obtain ⟨s0, hsi, hsz0, hsz1, hsz2⟩ := info_parts NmA.infoStr
  obtain ⟨rs, rfl, hrv⟩ := RawN.Raws.val n0 hraw0
  have hF := form_any c0 A0 rs w hrv
  have HF := Lib.hid hF
  have HT := Lib.hid ht
  clear hF hrv hraw0 ht
  have hf0 := @fld0
  have hf1 := @fld1
  go_enter Tryd.func4, Tryd.ntmps4
  go_wp2_with fail
  refine HF.out.mono ?_; rintro e v1 ⟨es, FA, fc, ps, PA, pc, rfl, hv, hpv, hfr, hpr, hb, hcap, hpcap, -⟩
  obtain ⟨hpl, hgood, hgn, hsz⟩ := form_pages hv hfr hpv hpr
  obtain ⟨hcl, hpl2, _⟩ := form_places hv
  have hcb := countV_bd rs
  have hn10 : es.length ≤ 10 := by omega
  have hpl4 : ps.length ≤ 4 := hpl.2
  have hpl1 : 1 ≤ ps.length := hpl.1
  have hck := check_good hgood hgn
  have hpgs := prow_pgs hpr
  have hok := prow_ok hpr hsz
  have hlen10 : ∀ (k : Nat) (h : k < ps.length), ps[k].fs.length ≤ 10 := fun k hk => by
    obtain ⟨g, _, _, _, hi⟩ := hpr k hk
    exact hi.len
  have hnodes : ∀ e ∈ ps, e.fs.length ≤ 1048576 ∧ e.x.nodes ≤ 1048576 := fun e he => by
    obtain ⟨k, hk, rfl⟩ := List.getElem_of_mem he
    exact ⟨by have := hlen10 k hk; omega, form_nodes hv hfr hpv k hk⟩
  have hfl := frow_flds hfr
  obtain ⟨ad, rfl⟩ : ∃ ad, PA = some ad := by
    obtain ⟨g, e, _⟩ := hpr 0 (by omega)
    exact ⟨_, e⟩
  have hnm : ∀ (k : Nat) (h : k < (es.map FE.fd).length), (es.map FE.fd)[k].nm.size ≤ maxLen := fun k hk => by
    rw [List.length_map] at hk
    rw [List.getElem_map]
    have := (hpl2 k hk).2
    show es[k].nm.size ≤ _
    unfold maxLen; omega
  have hchk : ∀ V, Below v1.heap.size v1 V → ∀ (L : List PE) (A : Option Addr) (c : Nat), Pgs V A L → PgsOk V L → L.length = ps.length → (∀ e ∈ L, e.fs.length ≤ 1048576) → L.length ≤ c ∧ c ≤ maxLen → Calls Tryd.prog 5 #[.slice A ps.length c, .slice FA es.length fc] V fun r w' => r = .returned (.int .i64 (checkP (es.map FE.fd) L)) ∧ Below V.heap.size V w' := fun V hV L A c h1 h2 h3 h4 h5 => by
    have := PgB.check_any L A c (es.map FE.fd) FA fc V (by rw [List.length_map]; omega) (hfl.below hV) hnm h1 h2 (by omega) h4 (HT.out.below (b_trans hb hV)) h5
    rw [h3, List.length_map] at this
    exact this
  have hchk0 := fun V (hV : Below v1.heap.size v1 V) => hchk V hV ps (some ad) pc (hpgs.below hV) (hok.below hV) rfl (fun e he => (hnodes e he).1) hpcap
  rw [hck] at hchk0
  have hnil : ∀ V, Below w.heap.size w V → Calls Tryd.prog 5 #[.slice none 0 0, .slice none 0 0] V fun r w' => r = .returned (.int .i64 1) ∧ Below V.heap.size V w' := fun V hV =>
    PgB.check_any [] none 0 [] none 0 V (by decide) (fun i hi => absurd hi (by simp)) (fun k h => absurd h (by simp)) (fun i hi => absurd hi (by simp)) (fun e he => absurd he (by simp)) (by decide) (fun e he => absurd he (by simp)) (HT.out.below hV) ⟨by decide, by decide⟩
  have hsmall : ∀ V, Below w.heap.size w V → ∀ (ps2 : List PE) (PA2 : Option Addr) (pc2 : Nat) (P : Nat → Prop) (W2 : World), ps2.map PE.v = smallP → PRow P W2 PA2 ps2 → Below W2.heap.size W2 V → (ps2.length ≤ pc2 ∧ pc2 ≤ maxLen) → ∀ (es3 : List FE) (FA3 : Option Addr) (fc3 : Nat) (Q : Nat → Prop), es3.map FE.v = smallV → FRow Q V FA3 es3 → Calls Tryd.prog 5 #[.slice PA2 ps2.length pc2, .slice FA3 es3.length fc3] V fun r w' => r = .returned (.int .i64 0) ∧ Below V.heap.size V w' := fun V hV ps2 PA2 pc2 P W2 h2 h3 h5 h6 es3 FA3 fc3 Q h7 h8 => by
    obtain ⟨a1, a2, a3⟩ := small_pages h7 h2 h3
    have h9 := small_len h7
    have hl3 : (es3.map FE.fd).length = 3 := by rw [List.length_map]; exact h9
    have hn3 : ∀ (k : Nat) (h : k < (es3.map FE.fd).length), (es3.map FE.fd)[k].nm.size ≤ maxLen := fun k hk => small_nm h7 k hk
    have := PgB.check_any ps2 PA2 pc2 (es3.map FE.fd) FA3 fc3 V (by omega) (frow_flds h8) hn3 ((prow_pgs h3).below h5) ((prow_ok h3 a3).below h5) (by unfold maxLen; omega) (fun e he => by
      obtain ⟨k, hk, rfl⟩ := List.getElem_of_mem he
      obtain ⟨g, _, _, _, hi⟩ := h3 k hk
      have := hi.len; omega) (HT.out.below hV) h6
    rw [a2, List.length_map] at this
    exact this
  obtain ⟨kk, hkk, hkl⟩ : ∃ kk : Nat, pick a1 (ps.length : Int) = (kk : Int) ∧ kk < ps.length := by
    have := pick_bd a1 (ps.length : Int) (by omega)
    exact ⟨(pick a1 (ps.length : Int)).toNat, by omega, by omega⟩
  have hpk : ∀ V, Calls Tryd.prog 12 #[.int .i64 a1, .int .i64 ps.length] V fun e w' => e = .returned (.int .i64 (kk : Int)) ∧ V = w' := fun V => by rw [← hkk]; exact picked_any a1 ps.length V w1 (by omega) (by omega)
  obtain ⟨W2, hW2⟩ : ∃ V, v1.alloc (.cells #[.slice FA es.length fc, .slice (some ad) ps.length pc] 32) = V := ⟨_, rfl⟩
  obtain ⟨B5, hB5⟩ : ∃ B, v1.heap.size = B := ⟨_, rfl⟩
  have hb2 := b_new v1 (.cells #[.slice FA es.length fc, .slice (some ad) ps.length pc] 32)
  have hblk2 := World.alloc_heap_new v1 (.cells #[.slice FA es.length fc, .slice (some ad) ps.length pc] 32)
  rw [hW2] at hb2 hblk2
  rw [hB5] at hblk2
  have hbox : ∀ V, Below W2.heap.size W2 V → V.cell? ⟨B5, 0, none⟩ = some (.slice FA es.length fc) ∧ V.cell? ⟨B5, 1, none⟩ = some (.slice (some ad) ps.length pc) := fun V hV => by
    have h := (hV.block B5 (Array.getElem?_eq_some_iff.1 hblk2).1).trans hblk2
    exact ⟨by simp [World.cell?, h], by simp [World.cell?, h]⟩
  have hpage : ∀ (k : Nat) (hk : k < ps.length) (V : World), Below v1.heap.size v1 V → PgAt V (ad.add (k * 8)) ps[k] ∧ TRow V ps[k].F ps[k].fs ∧ (∀ (j : Nat) (hj : j < ps[k].fs.length), Calls Tryd.prog 11 #[.slice (some ad) ps.length pc, .string ps[k].fs[j]] V fun r w' => r = .returned (.tuple #[.int .i64 (k : Int), .int .i64 0]) ∧ Below V.heap.size V w') ∧ Calls Tryd.prog 6 #[.slice (some ad) ps.length pc, .string ps[k].nm] V fun r w' => r = .returned (.tuple #[.int .i64 (k : Int), .int .i64 0]) ∧ Below V.heap.size V w' := fun k hk V hV => by
    obtain ⟨a, e, h⟩ := hpgs.below hV k hk
    injection e with e
    subst e
    refine ⟨h, (hok.below hV _ (List.getElem_mem hk)).row, fun j hj => ?_, ?_⟩
    · have := of_any ps[k].fs[j] ps (some ad) pc V (by unfold maxLen; omega) (hpgs.below hV) (hok.below hV)
      rw [hgn.stands k hk _ (List.getElem_mem hj)] at this
      unfold PgA.firstE at this
      rw [if_pos hk, if_pos hk] at this
      exact this
    · have := find_any ps[k].nm ps (some ad) pc V (by unfold maxLen; omega) (hpgs.below hV)
      rw [hgood.found k hk] at this
      unfold PgA.firstE at this
      rw [if_pos hk, if_pos hk] at this
      exact this
  have hcopy : ∀ V, Below v1.heap.size v1 V → Calls Tryd.prog 13 #[.slice (some ad) ps.length pc] V (CopyOut ps V) := fun V hV => PgC.copy_any ps (some ad) pc V (by omega) (hpgs.below hV) (hok.below hV) hnodes
  have hszs : ∀ (k : Nat) (h : k < ps.length), (ps[k].nm.size ≤ 4 ∧ ∀ s ∈ ps[k].fs, s.size ≤ 4) ∧ ps[k].fs.length ≤ 10 ∧ ∃ (W : World) (A : Option Addr), ExL.Is W ps[k].x ps[k].x.d A ps[k].m := fun k hk => ⟨hsz k hk, hlen10 k hk, v1, ps[k].B, (hok _ (List.getElem_mem hk)).skip⟩
  have HChk := Lib.hid hchk
  have HChk0 := Lib.hid hchk0
  have HNil := Lib.hid hnil
  have HSmall := Lib.hid hsmall
  have HPk := Lib.hid hpk
  have HW2 := Lib.hid hW2
  have HB5 := Lib.hid hB5
  have HB2 := Lib.hid hb2
  have HB := Lib.hid hb
  have HBox := Lib.hid hbox
  have HPage := Lib.hid hpage
  have HCopy := Lib.hid hcopy
  have HSz := Lib.hid hszs
  have HGood := Lib.hid hgood
  have HGn := Lib.hid hgn
  clear hchk hchk0 hnil hsmall hkk hpk hW2 hB5 hb2 hblk2 hb hbox hpage hcopy hszs hgood hgn hck hpgs hok hlen10 hnodes hfl hnm hsz hpl hcl hpl2 hcb hv hpv hfr hpr hcap hpcap
  go_upto_region 2 with fail
  rw [HW2.out, HB5.out]
  go_wp2_with fail
  refine (small_any _).mono ?_; rintro e v3 ⟨es2, FA2, fc2, ps2, PA2, pc2, rfl, hv2, hpv2, hfr2, hpr2, hb3, hc2, hcp2⟩
  have HPv2 := Lib.hid hpv2
  have HPr2 := Lib.hid hpr2
  have HCp2 := Lib.hid hcp2
  clear hv2 hpv2 hfr2 hpr2 hc2 hcp2
  go_wp2_with fail
  refine (small_any _).mono ?_; rintro e v4 ⟨es3, FA3, fc3, ps3, PA3, pc3, rfl, hv3, hpv3, hfr3, hpr3, hb4, hc3, hcp3⟩
  have hb14 : Below v1.heap.size v1 v4 := b_trans HB2.out (b_trans hb3 hb4)
  have hcs := HSmall.out v4 (b_trans HB.out hb14) ps2 PA2 pc2 _ v3 HPv2.out HPr2.out hb4 HCp2.out es3 FA3 fc3 _ hv3 hfr3
  have HCs := Lib.hid hcs
  have hb24 : Below W2.heap.size W2 v4 := b_trans hb3 hb4
  have HB24 := Lib.hid hb24
  clear hv3 hpv3 hfr3 hpr3 hc3 hcp3 hcs hb3 hb4 hb14 hb24
  go_wp2_with fail
  refine HCs.out.mono ?_; rintro e v5 ⟨rfl, hb5⟩
  have hb25 := b_trans HB24.out hb5
  have hnl := HNil.out v5 (b_trans HB.out (b_trans HB2.out hb25))
  have HNl := Lib.hid hnl
  have HB25 := Lib.hid hb25
  clear hb5 hb25 hnl
  go_wp2_with fail
  refine HNl.out.mono ?_; rintro e v6 ⟨rfl, hb6⟩
  have hb26 := b_trans HB25.out hb6
  obtain ⟨c0, c1⟩ := HBox.out v6 hb26
  have hck := HChk0.out v6 (b_trans HB2.out hb26)
  have HCk := Lib.hid hck
  have HB26 := Lib.hid hb26
  clear hb6 hb26 hck
  go_wp2_with fail
  refine HCk.out.mono ?_; rintro e v7 ⟨rfl, hb7⟩
  have hb27 := b_trans HB26.out hb7
  obtain ⟨c0, c1⟩ := HBox.out v7 hb27
  have HB27 := Lib.hid hb27
  clear hb7 hb27
  go_wp2_with fail
  go_loopw [6, 7, 9, 10, 11, 12, 13, 37] (fun _ _ _ _ _ _ _ ii wr => ∃ k : Nat, ii = .int .i64 k ∧ k ≤ ps.length ∧ Below W2.heap.size W2 wr) (fun _ _ _ _ _ _ _ ii _ => ps.length - (intOf ii).toNat)
  case atStart => exact ⟨0, rfl, by omega, HB27.out⟩
  case round =>
    obtain ⟨k, rfl, hkle, hbr⟩ := hrel
    obtain ⟨wo, rfl⟩ : ∃ wo : World, wo = wr := ⟨_, rfl⟩
    by_cases hlt : k < ps.length
    · have hpg := fun V hV => HPage.out k hlt V hV
      have hl10 := (HSz.out k hlt).2.1
      obtain ⟨e, hek⟩ : ∃ e, ps[k] = e := ⟨_, rfl⟩
      rw [hek] at hpg hl10
      obtain ⟨q0, q1, q2, q3, q4, q5, q6, q7⟩ := (hpg wo (b_trans HB2.out hbr)).1
      clear hek
      generalize e.F = F at hpg q1
      obtain ⟨W5, hW5⟩ : ∃ V, wo.alloc (.cells #[.string e.nm, .slice F e.fs.length e.fc, .int .i64 e.x.d.op, .int .i64 e.x.d.k, .int .i64 e.x.d.n, .string e.x.d.s, .string e.x.d.nm, .slice e.B e.m e.c] 42) = V := ⟨_, rfl⟩
      obtain ⟨B7, hB7⟩ : ∃ B, wo.heap.size = B := ⟨_, rfl⟩
      have hb5 := b_new wo (.cells #[.string e.nm, .slice F e.fs.length e.fc, .int .i64 e.x.d.op, .int .i64 e.x.d.k, .int .i64 e.x.d.n, .string e.x.d.s, .string e.x.d.nm, .slice e.B e.m e.c] 42)
      have hblk5 := World.alloc_heap_new wo (.cells #[.string e.nm, .slice F e.fs.length e.fc, .int .i64 e.x.d.op, .int .i64 e.x.d.k, .int .i64 e.x.d.n, .string e.x.d.s, .string e.x.d.nm, .slice e.B e.m e.c] 42)
      rw [hW5] at hb5 hblk5
      rw [hB7] at hblk5
      have hcell : ∀ V, Below W5.heap.size W5 V → V.cell? ⟨B7, 0, none⟩ = some (.string e.nm) ∧ V.cell? ⟨B7, 1, none⟩ = some (.slice F e.fs.length e.fc) := fun V hV => by
        have h := (hV.block B7 (Array.getElem?_eq_some_iff.1 hblk5).1).trans hblk5
        exact ⟨by simp [World.cell?, h], by simp [World.cell?, h]⟩
      have hb2r := b_trans hbr hb5
      have HW5 := Lib.hid hW5
      have HB7 := Lib.hid hB7
      have HPg := Lib.hid hpg
      have HCell := Lib.hid hcell
      have HB2r := Lib.hid hb2r
      have k1 := (hcell W5 (Below.refl _ _)).2
      have ti : ((k : Int) != (k : Int)) = false := by simp
      have hk4 : k ≤ 4 := by omega
      clear hW5 hB7 hpg hcell hb2r hb5 hblk5 hbr
      go_upto_region 9 with fail
      rw [HW5.out, HB7.out]
      go_wp2_with fail
      go_loopw [9, 10, 11, 45] (fun _ _ _ ii wr => ∃ j : Nat, ii = .int .i64 j ∧ j ≤ e.fs.length ∧ Below W5.heap.size W5 wr) (fun _ _ _ ii _ => e.fs.length - (intOf ii).toNat)
      case atStart => exact ⟨0, rfl, by omega, Below.refl _ _⟩
      case round =>
        obtain ⟨j, rfl, hjle, hbq⟩ := hrel
        have h2q := b_trans HB2r.out hbq
        obtain ⟨c0, c1⟩ := HBox.out wr h2q
        obtain ⟨_, hrow, hof, hfd⟩ := HPg.out wr (b_trans HB2.out h2q)
        by_cases hjl : j < e.fs.length
        · obtain ⟨a, rfl, hc⟩ := hrow j hjl
          have hof := hof j hjl
          obtain ⟨s, hs⟩ : ∃ s, e.fs[j] = s := ⟨_, rfl⟩
          rw [hs] at hc hof
          have HOf := Lib.hid hof
          have HBq := Lib.hid hbq
          have hj10 : j ≤ 10 := by omega
          clear hrow hof hfd hbq h2q hs q0 q1 q2 q3 q4 q5 q6 q7
          go_wp2_with fail
          refine HOf.out.mono ?_; rintro r w5 ⟨rfl, hb5⟩
          have HN := Lib.hid (b_trans HBq.out hb5)
          clear hb5
          go_wp2_with fail
          go_roundw
          case rel => exact ⟨j + 1, by go_num, by omega, HN.out⟩
          case measure => simp [intOf]; omega
        · obtain ⟨k0, k1⟩ := HCell.out wr hbq
          have HFd := Lib.hid hfd
          have H2q := Lib.hid h2q
          clear hrow hof hfd hbq h2q q0 q1 q2 q3 q4 q5 q6 q7
          go_wp2_with fail
          refine HFd.out.mono ?_; rintro r w5 ⟨rfl, hb5⟩
          have HN := Lib.hid (b_trans H2q.out hb5)
          clear hb5
          go_wp2_with fail
          go_roundw
          case rel => exact ⟨k + 1, by go_num, by omega, HN.out⟩
          case measure => simp [intOf]; omega
    · obtain ⟨c0, c1⟩ := HBox.out wo hbr
      obtain ⟨⟨q0, q1, q2, q3, q4, q5, q6, q7⟩, _, _, _⟩ := HPage.out kk hkl wo (b_trans HB2.out hbr)
      have hcp := HCopy.out wo (b_trans HB2.out hbr)
      have HBr := Lib.hid hbr
      have HCp := Lib.hid hcp
      have hki : (kk : Int) < (ps.length : Int) := by omega
      clear hbr hcp q0 q2 q3 q4 q5 q6 q7
      by_cases hz : ps[kk].fs.length = 0
      · have tz : ((ps[kk].fs.length : Int) == 0) = true := by rw [hz]; rfl
        have HBw := Lib.hid (b_trans HB.out (b_trans HB2.out HBr.out))
        generalize ps[kk].fs.length = n at q1 tz
        clear hz
        go_wp2_with fail
        refine (HPk.out _).mono ?_; rintro r w8 ⟨rfl, rfl⟩
        go_wp2_with fail
        go_ret
        exact ⟨rfl, HBw.out⟩
      · have tz : ((ps[kk].fs.length : Int) == 0) = false := beq_eq_false_iff_ne.2 (by omega)
        obtain ⟨s, r, hsr⟩ : ∃ s r, ps[kk].fs = s :: r := by
          cases h : ps[kk].fs with
          | nil => rw [h] at hz; exact absurd rfl hz
          | cons s r => exact ⟨s, r, rfl⟩
        have HSr := Lib.hid hsr
        generalize hnn : ps[kk].fs.length = n at q1 tz
        clear hz hsr hnn
        go_wp2_with fail
        refine (HPk.out _).mono ?_; rintro r w8 ⟨rfl, rfl⟩
        go_wp2_with fail
        refine HCp.out.mono ?_; rintro r v9 ⟨qs, rfl, hci⟩
        obtain ⟨q, rest, rfl⟩ : ∃ q rest, qs = q :: rest := by
          cases qs with
          | nil => have := hci.len; simp at this; omega
          | cons q r => exact ⟨q, r, rfl⟩
        have hkq : kk < (q :: rest).length := by rw [hci.len]; exact hkl
        have hvk := hci.val kk hkq hkl
        obtain ⟨gk, nk, ck, hnk, hS, hS7⟩ := twice_cells hci kk hkq s r (hvk.2.1.trans HSr.out)
        unfold S24 at hS hS7
        have hq := hci.ok q List.mem_cons_self
        have hv0 : q.e.fs = ps[0].fs := (hci.val 0 (Nat.succ_pos _) hpl1).2.1
        have hn0 : q.e.fs.length ≤ 10 := by rw [hv0]; exact (HSz.out 0 hpl1).2.1
        have hs4 : s.size ≤ 4 := (HSz.out kk hkl).1.2 s (by rw [HSr.out]; exact List.mem_cons_self)
        have hbd : Below v9.heap.size v9 v9.drew := b_drew (Below.refl _ _)
        have hown := GenL.own_below hq.own hbd
        have hord := hq.ord
        have hzz : ∀ o : Obj, q.lo ≤ (v9.drew.alloc o).heap.size := fun o => by
          have h1 : v9.heap.size ≤ (v9.drew.alloc o).heap.size := (b_more hbd o).size
          omega
        obtain ⟨SV, hSV⟩ : ∃ L, strV q.e.fs = L := ⟨_, rfl⟩
        have htw := fun (o : Obj) (gg cap : Nat) (w7 : World) (hg : (v9.drew.alloc o).grownBy w7 (Value.slice q.e.F q.e.fs.length q.e.fc).ownBlock) (ho : w7.ownsRow q.lo 9 1 (.slice (some ⟨gg, 0, none⟩) (q.e.fs.length + 1) cap) (q.e.fs.length + 1) (strV q.e.fs ++ [.string s])) => twice_at hci hs4 HSz.out hbd hg ho HGood.out
        rw [hSV] at hown hS7 htw
        have hnki : (0 : Int) < (nk : Int) := by omega
        have hpi : (0 : Int) < (ps.length : Int) := by omega
        have hp0 : 0 < ps.length := by omega
        have hwo : wo.heap.size < v9.heap.size := hci.lt
        have hgk : gk < v9.heap.size := World.block_lt_of_cell? v9 _ (hS v9 (Below.refl _ _)).2.2.2
        have hbl := Below.refl v9.heap.size v9
        obtain ⟨k0, k1, k2, k3⟩ := hS v9 hbl
        have HS := Lib.hid hS
        have HS7 := Lib.hid hS7
        have HOwn := Lib.hid hown
        have HZz := Lib.hid hzz
        have HTw := Lib.hid htw
        have HBd := Lib.hid hbd
        clear hci hvk hS hS7 hq hv0 hown hord hzz htw hbd hSV hs4 q1 tz
        go_upto_region 24 with fail
        first | (go_region_law (refine step_append_keep (by rfl) _ _ _ (by rfl) q.lo 9 s0 (.string ⟨#[]⟩) 1 16 Tryd.underlying35 hsi hsz0 hsz1 hsz2 rfl (by decide) (.slice q.e.F q.e.fs.length q.e.fc) q.e.fs.length SV (by rfl) (HOwn.out.alloc _) ⟨v9.heap.size, 0, none⟩ 1 1 [.string s] (by rfl) (by rfl) (World.news_of_block (cs := #[.string s]) (t := 9) (fr := (0, 0)) (heap_alloc_new v9.drew _)) (by simp [Value.oneCell']) (by decide) (by unfold maxLen; omega) (by omega) (HZz.out _) (v9.heap.size + 1) (by simp) ?_; intro gg cap w10 hown10 hgrow10 hat10 hlt10 hrow10; obtain ⟨m0, m1, m2, m3⟩ := HS7.out _ _ w10 HBd.out hgrow10 hrow10; have H10 := Lib.hid (And.intro hown10 hgrow10); clear hown10 hgrow10 hat10 hlt10 hrow10)) | (fail)
        all_goals
          obtain ⟨L, l1, l2, l3, l4, l5, l6, l7, l8⟩ := HTw.out _ gg cap w10 H10.out.2 H10.out.1
          obtain ⟨W, hW⟩ : ∃ W, w10.setCell ⟨wo.heap.size, 1, none⟩ (.slice (some ⟨gg, 0, none⟩) (q.e.fs.length + 1) cap) = W := ⟨_, rfl⟩
          rw [hW] at l2 l3 l8
          have hx : checkP (es.map FE.fd) L = 6 := check_twice l4 HGn.out l1 hkl l5 l6 ⟨_, HSr.out⟩
          have hb9 : Below W2.heap.size W2 W := b_trans HBr.out l8
          have hck := HChk.out W (b_trans HB2.out hb9) L (some ⟨wo.heap.size, 0, none⟩) ps.length l2 l3 l1 l7 ⟨by omega, by unfold maxLen; omega⟩
          rw [hx] at hck
          obtain ⟨c0, c1⟩ := HBox.out W hb9
          have HCk := Lib.hid hck
          have HBn := Lib.hid (b_trans HB.out (b_trans HB2.out hb9))
          have HW := Lib.hid hW
          clear l1 l2 l3 l4 l5 l6 l7 l8 hx hb9 hck hW m0 m1 m2 m3 k0 k1 k2 k3
          rw [HW.out]
          go_wp2_with fail
          refine HCk.out.mono ?_; rintro e w11 ⟨rfl, hb11⟩
          have HFin := Lib.hid (b_trans HBn.out hb11)
          clear hb11
          go_wp2_with fail
          go_ret
          exact ⟨rfl, HFin.out⟩

theorem not_of {W : World} (h : laidMetH Tryd.prog Rows.pageOnceRow.laid W) : ExN.Tab W := by
  have h0 : laidMet Tryd.prog Rows.pageOnceRow.laid W := by rw [MakeChecks.laidMetH_plain _ _ _ (by kernel_rfl)] at h; exact h
  have h1 := h0
  exact NotTab.is_of_head (g := 0) (t := 98) (e := 97) (n := 19) (by kernel_rfl) (by kernel_rfl) Tryd.underlying98 (by kernel_rfl) Tryd.underlying97 (by kernel_rfl) rfl rfl rfl Tryd.underlying9 Tryd.underlying3 Tryd.underlying3 (by kernel_rfl) (by kernel_rfl) (by kernel_rfl) h1

/-! ### The row's step -/
set_option maxRecDepth 100000 in
theorem lifted (os : Os) (started : os.Started) (H : Type) (enc : TypeId × Value → H) :
    ReturnsInHanded {} Tryd.checked os 4 .any (fun w args => (Rows.pageOnceSpec.pre enc Tryd.prog Tryd.f4 [] false w args ∧ laidMetH Tryd.prog Rows.pageOnceRow.laid w) ∧ sizedMet enc Tryd.prog Tryd.f4 (OpenSpec.ofChange Rows.pageOnceSpec) false w args) (Rows.pageOnceSpec.post enc Tryd.prog Tryd.f4 false true false false) := by
  refine returnsInHanded_of_change_and (C := Tryd.checked) (X := fun w _ => laidMetH Tryd.prog Rows.pageOnceRow.laid w) (fun _ _ _ hh h => h.of_heap hh) own started (by kernel_rfl) Tryd.func4
    (ChangeSpec.witness_shaped (enc := enc) (C := Tryd.checked) (os := os) (X := fun w _ => laidMetH Tryd.prog Rows.pageOnceRow.laid w) false (World.laidAll Tryd.prog os Rows.pageOnceRow.laid) #[.slice none 0 0, .int .i64 0] 8 (World.laidAll_os _ _ _) (World.shaped_of_ZipB (by kernel_rfl) (by kernel_rfl)) (by kernel_rfl) (by kernel_rfl) (by kernel_rfl) (by rw [MakeChecks.laidMetH_plain _ _ _ (by kernel_rfl)]; exact laidMet_laidAll _ (by kernel_rfl) (by kernel_rfl))) ?_
  intro W base args ds gs before hval0 hW hcnd hsz hL _
  have hval : ∀ (j : Nat) t v, Tryd.f4.params[j]? = some t → args[j]? = some v → Value.okWide Tryd.prog W .any base t v := hval0
  have hW' := hW
  obtain ⟨p, q, hA0, hV, rfl, hfz, hnd⟩ := hW
  have hA : DataW.TrodAll enc Tryd.prog W 0 (fun _ => true) true Tryd.f4.params.toList args.toList ds p := hA0
  rw [Tryd.params4] at hA hval
  obtain ⟨v0, vs0, d0, ds0, p0, q0, hargs, rfl, rfl, h0, r0⟩ := trodAll_cons hA
  obtain ⟨v1, vs1, d1, ds1, p1, q1, rfl, rfl, rfl, h1, r1⟩ := trodAll_cons r0
  obtain ⟨rfl, rfl, rfl⟩ := trodAll_nil r1
  obtain rfl : args = #[v0, v1] := by cases args; simp_all
  obtain ⟨rfl, rfl⟩ := trodVars_none hV
  have k0 := h0
  have lt0 : ∀ x ∈ p0, x.block < W.heap.size := by obtain ⟨m, hm⟩ := k0; exact DataW.trod_lt m _ _ _ hm
  obtain ⟨A0, n0, c0, rfl, hraw0⟩ := RawO.open_raws (hval 0 30 v0 rfl rfl) h0
  have k1 := h1
  have lt1 : ∀ x ∈ p1, x.block < W.heap.size := by obtain ⟨m, hm⟩ := k1; exact DataW.trod_lt m _ _ _ hm
  obtain ⟨a1, rfl, rfl, rfl, w1⟩ := open_int Tryd.underlying3 (hval 1 3 v1 rfl rfl) h1
  clear hA0 hval0
  refine (walk A0 n0 c0 a1 w1 W hraw0 (not_of hL)).mono fun e W' ⟨he, bel⟩ => ?_
  subst he
  exact ⟨_, rfl, _, _, _, [], _, [], hW', trodAll_mk1 (shut_bool Tryd.underlying4 _), (trodAll_cons_mk (Below.trod laidOut (by kernel_rfl) (of_decide_eq_true (by kernel_rfl)) k0 bel lt0) (trodAll_cons_mk (Below.trod laidOut (by kernel_rfl) (of_decide_eq_true (by kernel_rfl)) k1 bel lt1) trodAll_mk0)), rfl, bel.frame _, fun h => by cases h⟩

theorem over : Rows.pageOnceRow.holds Tryd.pinned (OpenSpec.ofChange Rows.pageOnceSpec) :=
  OpenClaim.holds_of_wide 4 Tryd.f4 rfl rfl rfl rfl rfl rfl rfl ⟨rfl, rfl, rfl, rfl, rfl⟩ rfl rfl rfl rfl rfl (by kernel_rfl) Tryd.func4 (by kernel_rfl)
    (of_decide_eq_true (by kernel_rfl)) (by unfold Func.isWrapper; first | (rw [if_pos (by decide +kernel)]; kernel_rfl) | (rw [if_neg (by decide +kernel)]; exact ⟨rfl, rfl⟩))
    (fun os started H enc _ => lifted os started H enc)

/-- The tied card. -/
theorem proved : Rows.PageOnceCardSaid :=
  Claim7.holds_tied_plain_at .later [] [.data] true (true, "dc20bf823b91e6631a276bb3415bdf6e5e95bd948c94a82f859c9f70a2a499c2") false
    over (fun _ h => by cases h) (by kernel_rfl) (fun _ h => by cases h) pageOnce_row_tie rfl ⟨rfl, rfl⟩ (by kernel_rfl) rfl
    (fun f fn hf hfn => by
      obtain rfl : f = 4 := Option.some.inj ((show Tryd.prog.funcNamed "lychway/lychwaykeep.PageOnce" = some 4 by kernel_rfl).symm.trans hf) |>.symm
      obtain rfl : fn = Tryd.f4 := (Option.some.inj (Tryd.func4.symm.trans hfn)).symm
      exact ⟨by kernel_rfl, fun j t ht => by
        rw [Tryd.params4] at ht
        have hm : t ∈ [30, 3] := by simpa using Array.mem_of_getElem? ht
        have hall : ([30, 3].all fun u => !Tryd.prog.wantsStandIn u) = true := by kernel_rfl
        exact (show Tryd.prog.wantsStandIn t = false by simpa using List.all_eq_true.1 hall t hm)⟩)
    (by kernel_rfl)
#print axioms proved
end Go.Proofs.YthgcmficmodhiaaDoor.pageOnce
