/- What is proved: the Go law lychwaykeep.RankFew returns true for all its arguments, and leaves them as they were. No condition. -/
import Derived.Test.YtdndphagfohpnaaDoorRows
import Derived.Test.YtdndphagfohpnaaDoorRkKeep
import Derived.Test.YtdndphagfohpnaaDoorRawOpen
import Derived.Test.YtdndphagfohpnaaDoorKit
import Derived.WalkKit
import Derived.ProofKit
import Derived.OpenShut
import Derived.Deep.RegionHeld3
import Derived.Deep.DrawnRows
import Derived.Deep.DeepCutAuto
import Derived.Deep.QuietTactic
import Derived.BigQuiet
import Derived.WalkSpells
import Derived.WalkLawsBesides
import Derived.Lib.Hide
import Derived.Outline
import Derived.ShutString
import Derived.ChangeOld
import Derived.Below
import Derived.LaidMore
import Derived.SizedLaws
import Derived.Stop.Joined
import Derived.Stop.LaidErr
import Derived.Lib.LaidTab
import Derived.SevenTiedAt
import Derived.Lay
import Derived.LaidOnce
import Derived.Deep.DeepHandedRow
import Derived.Test.YtdndphagfohpnaaDoorCards
import Derived.Test.YtdndphagfohpnaaDoorTie
namespace Go.Proofs.YtdndphagfohpnaaDoor.rankFew
open ValM LexM NumM ExM NmM Kit ExL ExP ExN RawV Within RawL RawN GenL Gen GenE GenT GenV FrmM Frm FldP FrmT FrmO RkM RkC RkD RkK
open Go.ChangeShapes Go.WideShapes Go.ChangeAt Go.RowKit
open Go.ChangeMaps (open_string shut_string)
set_option linter.unusedVariables false

theorem own : ownKnob Tryd.prog.godebug = none := by kernel_rfl
theorem laidOut : laidOutB Tryd.prog = true := by kernel_rfl


/-! ### The walk -/
set_option maxRecDepth 100000 in
set_option maxHeartbeats 4000000 in
theorem walk (A0 : Option Addr) (n0 : Nat) (c0 : Nat)  (w : World) (hraw0 : RawL.Raws w A0 n0 c0) (ht : ExN.Tab w) :
    Calls Tryd.prog 6 #[.slice A0 n0 c0] w fun e w' => e = .returned (.bool true) ∧ Below w.heap.size w w' := by
  obtain ⟨rs, rfl, hrv⟩ := RawN.Raws.val n0 hraw0
  have hF := form_any c0 A0 rs w hrv
  have HF := Lib.hid hF
  have HT := Lib.hid ht
  clear hF hrv hraw0 ht
  have hf0 := @fld0
  go_enter Tryd.func6, Tryd.ntmps6
  go_wp2_with fail
  refine HF.out.mono ?_; rintro e w1 ⟨es, FA, fc, ps, PA, pc, rfl, hv, hpv, hfr, hpr, hb, hcap, -⟩
  have hR := form_rank hv hfr hcap (HT.out.below hb)
  have hof := hR.of w1 (Below.refl _ _)
  have hbd := countV_bd rs
  have hnl : (needsF (es.map FE.fd) (xOf es)).length = es.length := by rw [needsF_len, List.length_map]
  have hge := hR.ge
  have hpl := fun i (hi : i < es.length) => plc_lt rs i (by rw [← hR.len]; exact hi)
  have hz : ∃ i, i < es.length ∧ plc rs i = 0 := by
    obtain ⟨i, hi, e⟩ := hR.base.sur 0 (by rw [List.length_map, hR.len]; omega)
    exact ⟨i, by simpa using hi, e⟩
  have hlen := hR.len
  generalize needsF (es.map FE.fd) (xOf es) = ns at hof hnl hge
  have hrl : (rankF ns).length = es.length := by rw [rankF_len, hnl]
  have hmin : Lib.minOf ((rankF ns).take es.length) = 0 := by
    obtain ⟨h1, j, hj, h2⟩ := min_at (r := rankF ns) es.length (by omega) (by omega)
    obtain ⟨i, hi, e⟩ := hz
    have a := h1 i hi
    have b := hge i hi
    have c := hge j hj
    rw [e] at b
    omega
  have hmax : Lib.maxOf ((rankF ns).take es.length) < es.length := by
    obtain ⟨j, hj, h2⟩ := max_at (r := rankF ns) es.length (by omega) (by omega)
    have a := hge j hj
    have b := hpl j hj
    omega
  have hnl1 : 1 ≤ es.length := by omega
  have HOf := Lib.hid hof
  have HB := Lib.hid hb
  have HMn := Lib.hid hmin
  have HMx := Lib.hid hmax
  have HRl := Lib.hid hrl
  have hn10 : es.length ≤ 10 := by omega
  clear hof hb hmin hmax hrl hv hpv hfr hpr hR hnl hge hpl hz hlen hbd hcap
  go_wp2_with fail
  refine HOf.out.mono ?_; rintro e w2 ⟨g, cap, rfl, hc, -, hb2⟩
  have hrk := ranked_any w2 ((HT.out.below HB.out).below hb2)
  have HRk := Lib.hid hrk
  have HC := Lib.hid hc
  have HB2 := Lib.hid (b_trans HB.out hb2)
  clear hrk hc hb2
  go_wp2_with fail
  refine HRk.out.mono ?_; rintro e w3 ⟨rfl, hb3⟩
  have hc3 : ∀ V : World, Below w3.heap.size w3 V → ∀ j, j < (rankF ns).length → V.cell? ⟨g, 0 + j, none⟩ = some (.int .i64 ((rankF ns).getD j 0)) := fun V hV j hj => by
    have h1 := HC.out j (by rw [← HRl.out]; exact hj)
    rw [Nat.zero_add]
    exact ((b_trans hb3 hV).cell (p := ⟨g, j, none⟩) (World.block_lt_of_cell? w2 _ h1)).trans h1
  have hmn := fun V hV => Tryd.slices_Min_int g 0 es.length cap (rankF ns) V (by omega) (by rw [HRl.out]; exact Nat.le_refl _) (by omega) (hc3 V hV)
  have hmx := fun V hV => Tryd.slices_Max_int g 0 es.length cap (rankF ns) V (by omega) (by rw [HRl.out]; exact Nat.le_refl _) (by omega) (hc3 V hV)
  rw [HMn.out] at hmn
  obtain ⟨mx, hmxe⟩ : ∃ mx, Lib.maxOf ((rankF ns).take es.length) = mx := ⟨_, rfl⟩
  have hmlt := HMx.out
  rw [hmxe] at hmx hmlt
  have HMN := Lib.hid hmn
  have HMX := Lib.hid hmx
  have HB3 := Lib.hid (b_trans HB2.out hb3)
  have tl : ((es.length : Int) == 0) = false := by rw [beq_eq_false_iff_ne]; omega
  clear hmn hmx hc3 hb3 hmxe
  go_wp2_with (first
    | (go_at_call 15; refine (HMN.out _ (Below.refl _ _)).mono ?_; rintro e w4 ⟨rfl, rfl⟩)
    | (go_at_call 16; refine (HMX.out _ (Below.refl _ _)).mono ?_; rintro e w4 ⟨rfl, rfl⟩))
  go_ret
  exact ⟨rfl, HB3.out⟩

theorem not_of {W : World} (h : laidMetH Tryd.prog Rows.rankFewRow.laid W) : ExN.Tab W := by
  have h0 : laidMet Tryd.prog Rows.rankFewRow.laid W := by rw [MakeChecks.laidMetH_plain _ _ _ (by kernel_rfl)] at h; exact h
  have h1 := h0
  exact NotTab.is_of_head (g := 0) (t := 116) (e := 115) (n := 19) (by kernel_rfl) (by kernel_rfl) Tryd.underlying116 (by kernel_rfl) Tryd.underlying115 (by kernel_rfl) rfl rfl rfl Tryd.underlying9 Tryd.underlying3 Tryd.underlying3 (by kernel_rfl) (by kernel_rfl) (by kernel_rfl) h1

/-! ### The row's step -/
set_option maxRecDepth 100000 in
theorem lifted (os : Os) (started : os.Started) (H : Type) (enc : TypeId × Value → H) :
    ReturnsInHanded {} Tryd.checked os 6 .any (fun w args => (Rows.rankFewSpec.pre enc Tryd.prog Tryd.f6 [] false w args ∧ laidMetH Tryd.prog Rows.rankFewRow.laid w) ∧ sizedMet enc Tryd.prog Tryd.f6 (OpenSpec.ofChange Rows.rankFewSpec) false w args) (Rows.rankFewSpec.post enc Tryd.prog Tryd.f6 false true false false) := by
  refine returnsInHanded_of_change_and (C := Tryd.checked) (X := fun w _ => laidMetH Tryd.prog Rows.rankFewRow.laid w) (fun _ _ _ hh h => h.of_heap hh) own started (by kernel_rfl) Tryd.func6
    (ChangeSpec.witness_shaped (enc := enc) (C := Tryd.checked) (os := os) (X := fun w _ => laidMetH Tryd.prog Rows.rankFewRow.laid w) false (World.laidAll Tryd.prog os Rows.rankFewRow.laid) #[.slice none 0 0] 8 (World.laidAll_os _ _ _) (World.shaped_of_ZipB (by kernel_rfl) (by kernel_rfl)) (by kernel_rfl) (by kernel_rfl) (by kernel_rfl) (by rw [MakeChecks.laidMetH_plain _ _ _ (by kernel_rfl)]; exact laidMet_laidAll _ (by kernel_rfl) (by kernel_rfl))) ?_
  intro W base args ds gs before hval0 hW hcnd hsz hL _
  have hval : ∀ (j : Nat) t v, Tryd.f6.params[j]? = some t → args[j]? = some v → Value.okWide Tryd.prog W .any base t v := hval0
  have hW' := hW
  obtain ⟨p, q, hA0, hV, rfl, hfz, hnd⟩ := hW
  have hA : DataW.TrodAll enc Tryd.prog W 0 (fun _ => true) true Tryd.f6.params.toList args.toList ds p := hA0
  rw [Tryd.params6] at hA hval
  obtain ⟨v0, vs0, d0, ds0, p0, q0, hargs, rfl, rfl, h0, r0⟩ := trodAll_cons hA
  obtain ⟨rfl, rfl, rfl⟩ := trodAll_nil r0
  obtain rfl : args = #[v0] := by cases args; simp_all
  obtain ⟨rfl, rfl⟩ := trodVars_none hV
  have k0 := h0
  have lt0 : ∀ x ∈ p0, x.block < W.heap.size := by obtain ⟨m, hm⟩ := k0; exact DataW.trod_lt m _ _ _ hm
  obtain ⟨A0, n0, c0, rfl, hraw0⟩ := RawO.open_raws (hval 0 22 v0 rfl rfl) h0
  clear hA0 hval0
  refine (walk A0 n0 c0  W hraw0 (not_of hL)).mono fun e W' ⟨he, bel⟩ => ?_
  subst he
  exact ⟨_, rfl, _, _, _, [], _, [], hW', trodAll_mk1 (shut_bool Tryd.underlying4 _), (trodAll_cons_mk (Below.trod laidOut (by kernel_rfl) (of_decide_eq_true (by kernel_rfl)) k0 bel lt0) trodAll_mk0), rfl, bel.frame _, fun h => by cases h⟩

theorem over : Rows.rankFewRow.holds Tryd.pinned (OpenSpec.ofChange Rows.rankFewSpec) :=
  OpenClaim.holds_of_wide 6 Tryd.f6 rfl rfl rfl rfl rfl rfl rfl ⟨rfl, rfl, rfl, rfl, rfl⟩ rfl rfl rfl rfl rfl (by kernel_rfl) Tryd.func6 (by kernel_rfl)
    (of_decide_eq_true (by kernel_rfl)) (by unfold Func.isWrapper; first | (rw [if_pos (by decide +kernel)]; kernel_rfl) | (rw [if_neg (by decide +kernel)]; exact ⟨rfl, rfl⟩))
    (fun os started H enc _ => lifted os started H enc)

/-- The tied card. -/
theorem proved : Rows.RankFewCardSaid :=
  Claim7.holds_tied_plain_at .later [] [.data] true (true, "30ed86a35aef7f2b7b86e44c87657eee70b397213ee416dc71cb93ee7c55c37e") false
    over (fun _ h => by cases h) (by kernel_rfl) (fun _ h => by cases h) rankFew_row_tie rfl ⟨rfl, rfl⟩ (by kernel_rfl) rfl
    (fun f fn hf hfn => by
      obtain rfl : f = 6 := Option.some.inj ((show Tryd.prog.funcNamed "lychway/lychwaykeep.RankFew" = some 6 by kernel_rfl).symm.trans hf) |>.symm
      obtain rfl : fn = Tryd.f6 := (Option.some.inj (Tryd.func6.symm.trans hfn)).symm
      exact ⟨by kernel_rfl, fun j t ht => by
        rw [Tryd.params6] at ht
        have hm : t ∈ [22] := by simpa using Array.mem_of_getElem? ht
        have hall : ([22].all fun u => !Tryd.prog.wantsStandIn u) = true := by kernel_rfl
        exact (show Tryd.prog.wantsStandIn t = false by simpa using List.all_eq_true.1 hall t hm)⟩)
    (by kernel_rfl)
#print axioms proved
end Go.Proofs.YtdndphagfohpnaaDoor.rankFew
