/- What is proved: the Go law lychwaykeep.RankRises returns true for all its arguments, and leaves them as they were. No condition. -/
import Derived.Test.YtdndphagfohpnaaDoorRows
import Derived.Test.YtdndphagfohpnaaDoorRkRise
import Derived.Test.YtdndphagfohpnaaDoorRawOpen
import Derived.Test.YtdndphagfohpnaaDoorKit
import Derived.WalkKit
import Derived.ProofKit
import Derived.OpenShut
import Derived.Deep.RegionHeld3
import Derived.Deep.DrawnRows
import Derived.Deep.DeepCutAuto
import Derived.Deep.QuietTactic
import Derived.BigQuiet
import Derived.WalkSpells
import Derived.WalkLawsBesides
import Derived.Lib.Hide
import Derived.Outline
import Derived.ShutString
import Derived.ChangeOld
import Derived.Below
import Derived.LaidMore
import Derived.SizedLaws
import Derived.Stop.Joined
import Derived.Stop.LaidErr
import Derived.Lib.LaidTab
import Derived.SevenTiedAt
import Derived.Lay
import Derived.LaidOnce
import Derived.Deep.DeepHandedRow
import Derived.Test.YtdndphagfohpnaaDoorCards
import Derived.Test.YtdndphagfohpnaaDoorTie
namespace Go.Proofs.YtdndphagfohpnaaDoor.rankRises
open ValM LexM NumM ExM NmM Kit ExL ExP ExN RawV Within RawL RawN GenL Gen GenE GenT GenV FrmM Frm FldP FldR FldC FrmT FrmO NmV NmH RkM RkC RkD RkK RkR
open Go.ChangeShapes Go.WideShapes Go.ChangeAt Go.RowKit
open Go.ChangeMaps (open_string shut_string)
set_option linter.unusedVariables false

theorem own : ownKnob Tryd.prog.godebug = none := by kernel_rfl
theorem laidOut : laidOutB Tryd.prog = true := by kernel_rfl


/-! ### The walk -/
set_option maxRecDepth 100000 in
set_option maxHeartbeats 8000000 in
theorem walk (A0 : Option Addr) (n0 : Nat) (c0 : Nat)  (w : World) (hraw0 : RawL.Raws w A0 n0 c0) (ht : ExN.Tab w) :
    Calls Tryd.prog 4 #[.slice A0 n0 c0] w fun e w' => e = .returned (.bool true) ∧ Below w.heap.size w w' := by
  obtain ⟨rs, rfl, hrv⟩ := RawN.Raws.val n0 hraw0
  have hF := form_any c0 A0 rs w hrv
  have HF := Lib.hid hF
  have HT := Lib.hid ht
  clear hF hrv hraw0 ht
  have hf0 := @fld0
  go_enter Tryd.func4, Tryd.ntmps4
  go_wp2_with fail
  refine HF.out.mono ?_; rintro e w1 ⟨es, FA, fc, ps, PA, pc, rfl, hv, hpv, hfr, hpr, hb, hcap, -⟩
  have hR := form_rank hv hfr hcap (HT.out.below hb)
  have hof := hR.of w1 (Below.refl _ _)
  have hbd := countV_bd rs
  have hfl : (es.map FE.fd).length = es.length := List.length_map _
  have hge : ∀ i, i < es.length → 0 ≤ rk (rankF (needsF (es.map FE.fd) (xOf es))) i ∧ rk (rankF (needsF (es.map FE.fd) (xOf es))) i ≤ 10 := fun i hi => by
    have h1 := hR.ge i hi
    have h2 := plc_lt rs i (by rw [← hR.len]; exact hi)
    omega
  have hrb : ∀ i, rk (rankF (needsF (es.map FE.fd) (xOf es))) i ≤ 10 := fun i => by
    by_cases hi : i < es.length
    · exact (hge i hi).2
    · unfold rk; rw [List.getD_eq_getElem?_getD, List.getElem?_eq_none (by rw [rankF_len, needsF_len, hfl]; omega)]; decide
  have hms : ∀ i, i < es.length → mostK (askB (es.map FE.fd) (xOf es) i) (rankF (needsF (es.map FE.fd) (xOf es))) es.length = rk (rankF (needsF (es.map FE.fd) (xOf es))) i := fun i hi => by
    have := most_rank hR.base (fun i hi => (hge i (by rw [← hfl]; exact hi)).1) i (by rw [hfl]; exact hi)
    rwa [hfl] at this
  have hmb := fun i k => most_bd (C := askB (es.map FE.fd) (xOf es) i) (b := 10) (by decide) hrb k
  have hat : ∀ (i : Nat) (hi : i < es.length) (V : World), Below w1.heap.size w1 V → (∃ ad, FA = some ad ∧ FdAt V (ad.add (i * 9)) es[i].fd) ∧ Is V es[i].x es[i].fd.d es[i].fd.A es[i].fd.n := fun i hi V hV => by
    refine ⟨?_, ?_⟩
    · obtain ⟨ad, e, h⟩ := hR.flds.below hV i (by simpa using hi)
      exact ⟨ad, e, by rw [List.getElem_map] at h; exact h⟩
    · have := (hR.forms.below hV i (by simpa using hi)).2
      rw [List.getElem_map, xOf_at es i hi] at this
      exact this
  have hask : ∀ (i k : Nat) (hi : i < es.length) (hk : k < es.length), askB (es.map FE.fd) (xOf es) i k = (!decide (es[i].fd.kind = 1) && hasB (Ex.refs es[i].x) es[k].fd.nm) := fun i k hi hk => by
    unfold askB
    rw [List.getElem?_eq_getElem (by rw [hfl]; exact hi), List.getElem?_eq_getElem (by rw [hfl]; exact hk), List.getElem_map, List.getElem_map, xOf_at es i hi]; rfl
  have hn10 : es.length ≤ 10 := by have := hR.len; omega
  have hn1 : 1 ≤ es.length := by have := hR.len; omega
  generalize needsF (es.map FE.fd) (xOf es) = ns at hof hge hrb hms hmb
  generalize askB (es.map FE.fd) (xOf es) = C at hms hmb hask
  have HOf := Lib.hid hof
  have HB := Lib.hid hb
  have HGe := Lib.hid hge
  have HMs := Lib.hid hms
  have HMb := Lib.hid hmb
  have HAt := Lib.hid hat
  have HAsk := Lib.hid hask
  clear hof hb hge hrb hms hmb hat hask hfl hv hpv hfr hpr hR hbd hcap
  go_wp2_with fail
  refine HOf.out.mono ?_; rintro e w2 ⟨g, cap, rfl, hc, -, hb2⟩
  have hrk := ranked_any w2 ((HT.out.below HB.out).below hb2)
  have HRk := Lib.hid hrk
  have HC := Lib.hid hc
  have HB2 := Lib.hid hb2
  clear hrk hc hb2
  go_wp2_with fail
  refine HRk.out.mono ?_; rintro e w3 ⟨rfl, hb3⟩
  have hb13 := b_trans HB2.out hb3
  have hc3 : ∀ V : World, Below w1.heap.size w1 V → Below w3.heap.size w3 V → ∀ j, j < es.length → V.cell? ⟨g, j, none⟩ = some (.int .i64 (rk (rankF ns) j)) := fun V _ hV j hj => by
    have h1 := HC.out j hj
    exact ((b_trans hb3 hV).cell (p := ⟨g, j, none⟩) (World.block_lt_of_cell? w2 _ h1)).trans h1
  have HC3 := Lib.hid hc3
  have HB13 := Lib.hid hb13
  have tl : ((es.length : Int) != (es.length : Int)) = false := by simp
  clear hc3 hb13 hb3
  go_wp2_with fail
  go_loopw [7, 8, 9, 10, 11, 41] (fun _ _ _ _ _ ii wr => ∃ i : Nat, ii = .int .i64 i ∧ i ≤ es.length ∧ Below w3.heap.size w3 wr) (fun _ _ _ _ _ ii _ => es.length - (intOf ii).toNat)
  case atStart => exact ⟨0, rfl, by omega, Below.refl _ _⟩
  case round =>
    obtain ⟨i, rfl, hile, hbr⟩ := hrel
    obtain ⟨wo, rfl⟩ : ∃ wo : World, wo = wr := ⟨_, rfl⟩
    by_cases hlt : i < es.length
    · have hb1r := b_trans HB13.out hbr
      obtain ⟨⟨ad, rfl, hat⟩, his⟩ := HAt.out i hlt wo hb1r
      obtain ⟨q0, q1, q2, q3, q4, q5, q6, q7, q8⟩ := hat
      have hask := fun k (hk : k < es.length) => HAsk.out i k hlt hk
      obtain ⟨f, hfk⟩ : ∃ f, es[i].fd = f := ⟨_, rfl⟩
      have hms := HMs.out i hlt
      obtain ⟨x, hx⟩ : ∃ x, es[i].x = x := ⟨_, rfl⟩
      rw [hfk] at q0 q1 q2 q3 q4 q5 q6 q7 q8
      simp only [hfk, hx] at his hask
      obtain ⟨W5, hW5⟩ : ∃ V, wo.alloc (.cells #[.string f.nm, .int .i64 f.kind, .int .i64 f.ty, .int .i64 f.d.op, .int .i64 f.d.k, .int .i64 f.d.n, .string f.d.s, .string f.d.nm, .slice f.A f.n f.c] 36) = V := ⟨_, rfl⟩
      obtain ⟨B9, hB9⟩ : ∃ B, wo.heap.size = B := ⟨_, rfl⟩
      have hb5 := b_new wo (.cells #[.string f.nm, .int .i64 f.kind, .int .i64 f.ty, .int .i64 f.d.op, .int .i64 f.d.k, .int .i64 f.d.n, .string f.d.s, .string f.d.nm, .slice f.A f.n f.c] 36)
      have hcell := head_cells wo f
      unfold rightHead at hcell
      rw [hW5, hB9] at hcell
      rw [hW5] at hb5
      have hhas := fun s V (hV : Below W5.heap.size W5 V) => has_any x s f.d f.A f.n f.c V (his.below (b_trans hb5 hV))
      have HHas := Lib.hid hhas
      have HAs := Lib.hid hask
      have HM := Lib.hid hms
      have HCell := Lib.hid hcell
      have HW5 := Lib.hid hW5
      have HB9 := Lib.hid hB9
      have HB5 := Lib.hid hb5
      have HBr := Lib.hid hbr
      have HB1r := Lib.hid hb1r
      clear hhas hask hms hcell hW5 hB9 hb5 hbr hb1r his hfk hx
      go_wp2_with fail
      rw [HW5.out, HB9.out]
      go_loopw [9, 10, 11, 48] (fun mo _ _ ii wr => ∃ k : Nat, ii = .int .i64 k ∧ k ≤ es.length ∧ mo = .int .i64 (mostK (C i) (rankF ns) k) ∧ Below W5.heap.size W5 wr) (fun _ _ _ ii _ => es.length - (intOf ii).toNat)
      case atStart => exact ⟨0, rfl, by omega, rfl, Below.refl _ _⟩
      case round =>
        obtain ⟨k, rfl, hkle, rfl, hbq⟩ := hrel
        by_cases hkl : k < es.length
        · have hbrq : Below wo.heap.size wo wr := b_trans HB5.out hbq
          obtain ⟨⟨ad2, e2, hat2⟩, _⟩ := HAt.out k hkl wr (b_trans HB1r.out hbrq)
          obtain rfl : ad = ad2 := by injection e2
          obtain ⟨p0, p1, p2, p3, p4, p5, p6, p7, p8⟩ := hat2
          obtain ⟨y, hy⟩ : ∃ y, es[k].fd = y := ⟨_, rfl⟩
          rw [hy] at p0 p1 p2 p3 p4 p5 p6 p7 p8
          have hask := HAs.out k hkl
          rw [hy] at hask
          have hrk := HC3.out wr (b_trans HB1r.out hbrq) (b_trans HBr.out hbrq) k hkl
          have hge := HGe.out k hkl
          have hmb := HMb.out i k
          have hmk : mostK (C i) (rankF ns) (k + 1) = if C i k = true then max (mostK (C i) (rankF ns) k) (rk (rankF ns) k + 1) else mostK (C i) (rankF ns) k := rfl
          generalize mostK (C i) (rankF ns) k = m at hmb hmk
          generalize rk (rankF ns) k = rv at hrk hge hmk
          obtain ⟨W7, hW7⟩ : ∃ V, wr.alloc (.cells #[.string y.nm, .int .i64 y.kind, .int .i64 y.ty, .int .i64 y.d.op, .int .i64 y.d.k, .int .i64 y.d.n, .string y.d.s, .string y.d.nm, .slice y.A y.n y.c] 36) = V := ⟨_, rfl⟩
          obtain ⟨B7, hB7⟩ : ∃ B, wr.heap.size = B := ⟨_, rfl⟩
          have hb7 := b_new wr (.cells #[.string y.nm, .int .i64 y.kind, .int .i64 y.ty, .int .i64 y.d.op, .int .i64 y.d.k, .int .i64 y.d.n, .string y.d.s, .string y.d.nm, .slice y.A y.n y.c] 36)
          have hcell7 := head_cells wr y
          unfold rightHead at hcell7
          rw [hW7, hB7] at hcell7
          rw [hW7] at hb7
          have hbW7 := b_trans hbq hb7
          obtain ⟨x0, x1, x2, x3, x4, x5, x6, x7, x8⟩ := HCell.out W7 hbW7
          obtain ⟨y0, y1, y2, y3, y4, y5, y6, y7, y8⟩ := hcell7 W7 (Below.refl _ _)
          have hgc : ∀ V : World, Below W7.heap.size W7 V → V.cell? ⟨g, k, none⟩ = some (.int .i64 rv) := fun V hV => ((b_trans hb7 hV).cell (p := ⟨g, k, none⟩) (World.block_lt_of_cell? wr _ hrk)).trans hrk
          have hhas := HHas.out y.nm W7 hbW7
          have HHs := Lib.hid hhas
          have HGc := Lib.hid hgc
          have HAs2 := Lib.hid hask
          have HMk := Lib.hid hmk
          have HW7 := Lib.hid hW7
          have HB7 := Lib.hid hB7
          have HBW7 := Lib.hid hbW7
          obtain ⟨hm0, hm1⟩ := hmb
          obtain ⟨hr0, hr1⟩ := hge
          have gk := hgc W7 (Below.refl _ _)
          have hki : (k : Int) < (es.length : Int) := by omega
          clear hhas hgc hask hmk hW7 hB7 hb7 hcell7 hbW7 hbq hbrq e2 hrk hy
          by_cases hk1 : f.kind = 1
          · have t1 : (f.kind != 1) = false := by simp [hk1]
            have hcf : C i k = false := by rw [HAs2.out]; simp [hk1]
            have hme := HMk.out
            rw [hcf, if_neg (by decide)] at hme
            have HMe := Lib.hid hme
            clear hcf hme hk1 gk
            go_upto_region 12 with fail
            rw [HW7.out, HB7.out]
            go_wp2_with fail
            go_roundw
            case rel => exact ⟨k + 1, by go_num, by omega, by rw [HMe.out], HBW7.out⟩
            case measure => simp [intOf]; omega
          · have t1 : (f.kind != 1) = true := by simpa using hk1
            have hcf : C i k = hasB (Ex.refs x) y.nm := by rw [HAs2.out]; simp [hk1]
            have hme := HMk.out
            rw [hcf] at hme
            generalize hasB (Ex.refs x) y.nm = bb at HHs hcf hme
            have HMe := Lib.hid hme
            clear hcf hme hk1 gk
            cases bb with
            | true =>
              go_upto_region 12 with fail
              rw [HW7.out, HB7.out]
              go_wp2_with (go_at_call 13; refine HHs.out.mono ?_; rintro e w8 ⟨rfl, hb8⟩; have gk := HGc.out w8 hb8; have HB8 := Lib.hid (b_trans HBW7.out hb8); clear hb8)
              go_roundw
              case rel => exact ⟨k + 1, by go_num, by omega, by rw [HMe.out, if_pos trivial], HB8.out⟩
              case measure => simp [intOf]; omega
            | false =>
              go_upto_region 12 with fail
              rw [HW7.out, HB7.out]
              go_wp2_with (go_at_call 13; refine HHs.out.mono ?_; rintro e w8 ⟨rfl, hb8⟩; have HB8 := Lib.hid (b_trans HBW7.out hb8); clear hb8)
              go_roundw
              case rel => exact ⟨k + 1, by go_num, by omega, by rw [HMe.out, if_neg (by decide)], HB8.out⟩
              case measure => simp [intOf]; omega
        · obtain rfl : k = es.length := by omega
          have hrk := HC3.out wr (b_trans HB1r.out (b_trans HB5.out hbq)) (b_trans HBr.out (b_trans HB5.out hbq)) i hlt
          rw [HM.out]
          have hb6 := b_trans HBr.out (b_trans HB5.out hbq)
          generalize rk (rankF ns) i = rv at hrk
          have t1 : (rv != rv) = false := by simp
          have HB6 := Lib.hid hb6
          have hii : (i : Int) < (es.length : Int) := by omega
          clear hb6 hbq
          go_wp2_with fail
          go_roundw
          case rel => exact ⟨i + 1, by go_num, by omega, HB6.out⟩
          case measure => simp [intOf]; omega
    · have HB6 := Lib.hid (b_trans HB.out (b_trans HB13.out hbr))
      clear hbr
      go_wp2_with fail
      go_ret
      exact ⟨rfl, HB6.out⟩

theorem not_of {W : World} (h : laidMetH Tryd.prog Rows.rankRisesRow.laid W) : ExN.Tab W := by
  have h0 : laidMet Tryd.prog Rows.rankRisesRow.laid W := by rw [MakeChecks.laidMetH_plain _ _ _ (by kernel_rfl)] at h; exact h
  have h1 := h0
  exact NotTab.is_of_head (g := 0) (t := 116) (e := 115) (n := 19) (by kernel_rfl) (by kernel_rfl) Tryd.underlying116 (by kernel_rfl) Tryd.underlying115 (by kernel_rfl) rfl rfl rfl Tryd.underlying9 Tryd.underlying3 Tryd.underlying3 (by kernel_rfl) (by kernel_rfl) (by kernel_rfl) h1

/-! ### The row's step -/
set_option maxRecDepth 100000 in
theorem lifted (os : Os) (started : os.Started) (H : Type) (enc : TypeId × Value → H) :
    ReturnsInHanded {} Tryd.checked os 4 .any (fun w args => (Rows.rankRisesSpec.pre enc Tryd.prog Tryd.f4 [] false w args ∧ laidMetH Tryd.prog Rows.rankRisesRow.laid w) ∧ sizedMet enc Tryd.prog Tryd.f4 (OpenSpec.ofChange Rows.rankRisesSpec) false w args) (Rows.rankRisesSpec.post enc Tryd.prog Tryd.f4 false true false false) := by
  refine returnsInHanded_of_change_and (C := Tryd.checked) (X := fun w _ => laidMetH Tryd.prog Rows.rankRisesRow.laid w) (fun _ _ _ hh h => h.of_heap hh) own started (by kernel_rfl) Tryd.func4
    (ChangeSpec.witness_shaped (enc := enc) (C := Tryd.checked) (os := os) (X := fun w _ => laidMetH Tryd.prog Rows.rankRisesRow.laid w) false (World.laidAll Tryd.prog os Rows.rankRisesRow.laid) #[.slice none 0 0] 8 (World.laidAll_os _ _ _) (World.shaped_of_ZipB (by kernel_rfl) (by kernel_rfl)) (by kernel_rfl) (by kernel_rfl) (by kernel_rfl) (by rw [MakeChecks.laidMetH_plain _ _ _ (by kernel_rfl)]; exact laidMet_laidAll _ (by kernel_rfl) (by kernel_rfl))) ?_
  intro W base args ds gs before hval0 hW hcnd hsz hL _
  have hval : ∀ (j : Nat) t v, Tryd.f4.params[j]? = some t → args[j]? = some v → Value.okWide Tryd.prog W .any base t v := hval0
  have hW' := hW
  obtain ⟨p, q, hA0, hV, rfl, hfz, hnd⟩ := hW
  have hA : DataW.TrodAll enc Tryd.prog W 0 (fun _ => true) true Tryd.f4.params.toList args.toList ds p := hA0
  rw [Tryd.params4] at hA hval
  obtain ⟨v0, vs0, d0, ds0, p0, q0, hargs, rfl, rfl, h0, r0⟩ := trodAll_cons hA
  obtain ⟨rfl, rfl, rfl⟩ := trodAll_nil r0
  obtain rfl : args = #[v0] := by cases args; simp_all
  obtain ⟨rfl, rfl⟩ := trodVars_none hV
  have k0 := h0
  have lt0 : ∀ x ∈ p0, x.block < W.heap.size := by obtain ⟨m, hm⟩ := k0; exact DataW.trod_lt m _ _ _ hm
  obtain ⟨A0, n0, c0, rfl, hraw0⟩ := RawO.open_raws (hval 0 22 v0 rfl rfl) h0
  clear hA0 hval0
  refine (walk A0 n0 c0  W hraw0 (not_of hL)).mono fun e W' ⟨he, bel⟩ => ?_
  subst he
  exact ⟨_, rfl, _, _, _, [], _, [], hW', trodAll_mk1 (shut_bool Tryd.underlying4 _), (trodAll_cons_mk (Below.trod laidOut (by kernel_rfl) (of_decide_eq_true (by kernel_rfl)) k0 bel lt0) trodAll_mk0), rfl, bel.frame _, fun h => by cases h⟩

theorem over : Rows.rankRisesRow.holds Tryd.pinned (OpenSpec.ofChange Rows.rankRisesSpec) :=
  OpenClaim.holds_of_wide 4 Tryd.f4 rfl rfl rfl rfl rfl rfl rfl ⟨rfl, rfl, rfl, rfl, rfl⟩ rfl rfl rfl rfl rfl (by kernel_rfl) Tryd.func4 (by kernel_rfl)
    (of_decide_eq_true (by kernel_rfl)) (by unfold Func.isWrapper; first | (rw [if_pos (by decide +kernel)]; kernel_rfl) | (rw [if_neg (by decide +kernel)]; exact ⟨rfl, rfl⟩))
    (fun os started H enc _ => lifted os started H enc)

/-- The tied card. -/
theorem proved : Rows.RankRisesCardSaid :=
  Claim7.holds_tied_plain_at .later [] [.data] true (true, "30ed86a35aef7f2b7b86e44c87657eee70b397213ee416dc71cb93ee7c55c37e") false
    over (fun _ h => by cases h) (by kernel_rfl) (fun _ h => by cases h) rankRises_row_tie rfl ⟨rfl, rfl⟩ (by kernel_rfl) rfl
    (fun f fn hf hfn => by
      obtain rfl : f = 4 := Option.some.inj ((show Tryd.prog.funcNamed "lychway/lychwaykeep.RankRises" = some 4 by kernel_rfl).symm.trans hf) |>.symm
      obtain rfl : fn = Tryd.f4 := (Option.some.inj (Tryd.func4.symm.trans hfn)).symm
      exact ⟨by kernel_rfl, fun j t ht => by
        rw [Tryd.params4] at ht
        have hm : t ∈ [22] := by simpa using Array.mem_of_getElem? ht
        have hall : ([22].all fun u => !Tryd.prog.wantsStandIn u) = true := by kernel_rfl
        exact (show Tryd.prog.wantsStandIn t = false by simpa using List.all_eq_true.1 hall t hm)⟩)
    (by kernel_rfl)
#print axioms proved
end Go.Proofs.YtdndphagfohpnaaDoor.rankRises
