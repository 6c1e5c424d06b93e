/- What is proved: the Go law lychwaykeep.FieldPlaces returns true for all its arguments, and leaves them as they were. No condition. -/
import Derived.Test.YtmelbldmpnepcaaRows
import Derived.Test.YtmelbldmpnepcaaFormTop
import Derived.Test.YtmelbldmpnepcaaFld
import Derived.Test.YtmelbldmpnepcaaRawOpen
import Derived.Test.YtmelbldmpnepcaaKit
import Derived.WalkKit
import Derived.ProofKit
import Derived.OpenShut
import Derived.Deep.RegionHeld3
import Derived.Deep.DrawnRows
import Derived.Deep.DeepCutAuto
import Derived.Deep.QuietTactic
import Derived.BigQuiet
import Derived.WalkSpells
import Derived.WalkLawsBesides
import Derived.Lib.Hide
import Derived.Outline
import Derived.ShutString
import Derived.ChangeOld
import Derived.Below
namespace Go.Proofs.Ytmelbldmpnepcaa.fieldPlaces
open ValM LexM NumM ExM Kit ExL ExP RawV Within RawL RawN GenL Gen GenE GenT GenV FrmM Frm FldP FrmT
open Go.ChangeShapes Go.WideShapes Go.ChangeAt Go.RowKit
open Go.ChangeMaps (open_string shut_string)
set_option linter.unusedVariables false

theorem own : ownKnob Try.prog.godebug = none := by kernel_rfl
theorem laidOut : laidOutB Try.prog = true := by kernel_rfl


/-! ### The walk -/
set_option maxHeartbeats 4000000 in
theorem walk (A0 : Option Addr) (n0 : Nat) (c0 : Nat)  (w : World) (hraw0 : RawL.Raws w A0 n0 c0) :
    Calls Try.prog 5 #[.slice A0 n0 c0] w fun e w' => e = .returned (.bool true) ∧ Below w.heap.size w w' := by
  obtain ⟨rs, rfl, hrv⟩ := RawN.Raws.val n0 hraw0
  have hF := form_any c0 A0 rs w hrv
  have HF := Lib.hid hF
  clear hF hrv hraw0
  have hf0 := @fld0
  go_enter Try.func5, Try.ntmps5
  go_wp2_with fail
  refine HF.out.mono ?_; rintro e w1 ⟨es, FA, fc, ps, PA, pc, rfl, hv, hpv, hfr, hpr, hb⟩
  obtain ⟨hcl, hpl, hno⟩ := form_places hv
  have hfl := frow_flds hfr
  have hcb := countV_bd rs
  have hnl : es.length ≤ 10 := by omega
  have hfind : ∀ (s : ByteArray) (V : World), Below w1.heap.size w1 V → Calls Try.prog 11 #[.slice FA es.length fc, .string s] V fun e w' => e = .returned (.tuple #[.int .i64 (if atF (es.map FE.fd) s < es.length then (atF (es.map FE.fd) s : Int) else 0), .int .i64 (if atF (es.map FE.fd) s < es.length then 0 else 5)]) ∧ V = w' := fun s V hV => by
    have := find_any s (es.map FE.fd) FA fc V (hfl.below hV) (by rw [List.length_map]; omega)
    rw [List.length_map] at this
    exact this
  have hat : ∀ (i : Nat) (hi : i < es.length) (V : World), Below w1.heap.size w1 V → (∃ ad, FA = some ad ∧ FdAt V (ad.add (i * 9)) es[i].fd) ∧ Calls Try.prog 11 #[.slice FA es.length fc, .string es[i].nm] V fun e w' => e = .returned (.tuple #[.int .i64 (i : Int), .int .i64 0]) ∧ V = w' := fun i hi V hV => by
    refine ⟨?_, ?_⟩
    · obtain ⟨ad, e, h⟩ := hfl.below hV i (by simpa using hi)
      exact ⟨ad, e, by rw [List.getElem_map] at h; exact h⟩
    · have := hfind es[i].nm V hV
      rw [(hpl i hi).1, if_pos hi, if_pos hi] at this
      exact this
  have hnone : ∀ (V : World), Below w1.heap.size w1 V → Calls Try.prog 11 #[.slice FA es.length fc, .string ⟨#[110, 111, 110, 101]⟩] V fun e w' => e = .returned (.tuple #[.int .i64 0, .int .i64 5]) ∧ V = w' := fun V hV => by
    have := hfind ⟨#[110, 111, 110, 101]⟩ V hV
    rw [hno, if_neg (Nat.lt_irrefl _), if_neg (Nat.lt_irrefl _)] at this
    exact this
  have HAt := Lib.hid hat
  have HNone := Lib.hid hnone
  have HB := Lib.hid hb
  clear hfind hat hnone hcl hpl hno hfl hcb hv hpv hfr hpr hb
  go_wp2_with fail
  go_loopw [4, 5, 6, 7, 17] (fun _ _ _ _ ii wr => ∃ i : Nat, ii = .int .i64 i ∧ i ≤ es.length ∧ Below w1.heap.size w1 wr) (fun _ _ _ _ ii _ => es.length - (intOf ii).toNat)
  case atStart => exact ⟨0, rfl, by omega, Below.refl _ _⟩
  case round =>
    obtain ⟨i, rfl, hile, hbr⟩ := hrel
    have HBr := Lib.hid hbr
    by_cases hlt : i < es.length
    · obtain ⟨⟨ad, rfl, q0, q1, q2, q3, q4, q5, q6, q7, q8⟩, _⟩ := HAt.out i hlt wr hbr
      obtain ⟨f, hf⟩ : ∃ f, es[i].fd = f := ⟨_, rfl⟩
      have hfn : es[i].nm = f.nm := by rw [← hf]; rfl
      rw [hf] at q0 q1 q2 q3 q4 q5 q6 q7 q8
      have hbx := b_more hbr (.cells #[.string f.nm, .int .i64 f.kind, .int .i64 f.ty, .int .i64 f.d.op, .int .i64 f.d.k, .int .i64 f.d.n, .string f.d.s, .string f.d.nm, .slice f.A f.n f.c] 41)
      have hc := (HAt.out i hlt _ hbx).2
      rw [hfn] at hc
      have HC := Lib.hid hc
      have HBx := Lib.hid hbx
      have hi10 : i ≤ 10 := by omega
      have ti : ((i : Int) != (i : Int)) = false := by simp
      clear hbr hc hf hfn hbx
      go_wp2_with fail
      refine HC.out.mono ?_; rintro e w2 ⟨rfl, rfl⟩
      go_wp2_with fail
      go_roundw
      case rel => exact ⟨i + 1, by go_num, by omega, HBx.out⟩
      case measure => simp [intOf]; omega
    · clear hbr
      go_wp2_with fail
      refine (HNone.out _ HBr.out).mono ?_; rintro e w2 ⟨rfl, rfl⟩
      go_wp2_with fail
      refine (small_any _).mono ?_; rintro e w3 ⟨es2, FA2, fc2, ps2, PA2, pc2, rfl, hv2, hpv2, hfr2, hpr2, hb2⟩
      have h3 := find_any ⟨#[99]⟩ (es2.map FE.fd) FA2 fc2 w3 (frow_flds hfr2) (by rw [List.length_map, small_len hv2]; omega)
      rw [List.length_map, small_c hv2, small_len hv2, if_pos (by decide), if_pos (by decide)] at h3
      have h3l := small_len hv2
      rw [h3l]
      have H3 := Lib.hid h3
      have HB3 := Lib.hid (b_trans HB.out (b_trans HBr.out hb2))
      clear h3 h3l hv2 hpv2 hfr2 hpr2 hb2
      go_wp2_with fail
      refine H3.out.mono ?_; rintro e w4 ⟨rfl, rfl⟩
      go_wp2_with fail
      go_ret
      exact ⟨rfl, HB3.out⟩

/-! ### The row's step -/
set_option maxRecDepth 100000 in
theorem lifted (os : Os) (started : os.Started) (H : Type) (enc : TypeId × Value → H) :
    ReturnsInHanded {} Try.checked os 5 .any (Rows.fieldPlacesSpec.pre6 enc Try.prog Try.f5 Rows.fieldPlacesRow.domain false) (Rows.fieldPlacesSpec.post enc Try.prog Try.f5 false true false false) := by
  refine returnsInHanded_of_change (C := Try.checked) own started (by kernel_rfl) Try.func5
    (ChangeSpec.witness6 (enc := enc) (C := Try.checked) false ⟨#[], #[.slice none 0 0], []⟩ 8 (by kernel_rfl) (by kernel_rfl) (by kernel_rfl) (by kernel_rfl)) ?_
  intro W base args ds gs before hval0 hW hcnd _
  have hval : ∀ (j : Nat) t v, Try.f5.params[j]? = some t → args[j]? = some v → Value.okWide Try.prog W .any base t v := hval0
  have hW' := hW
  obtain ⟨p, q, hA0, hV, rfl, hfz, hnd⟩ := hW
  have hA : DataW.TrodAll enc Try.prog W 0 (fun _ => true) true Try.f5.params.toList args.toList ds p := hA0
  rw [Try.params5] at hA hval
  obtain ⟨v0, vs0, d0, ds0, p0, q0, hargs, rfl, rfl, h0, r0⟩ := trodAll_cons hA
  obtain ⟨rfl, rfl, rfl⟩ := trodAll_nil r0
  obtain rfl : args = #[v0] := by cases args; simp_all
  obtain ⟨rfl, rfl⟩ := trodVars_none hV
  have k0 := h0
  have lt0 : ∀ x ∈ p0, x.block < W.heap.size := by obtain ⟨m, hm⟩ := k0; exact DataW.trod_lt m _ _ _ hm
  obtain ⟨A0, n0, c0, rfl, hraw0⟩ := RawO.open_raws (hval 0 28 v0 rfl rfl) h0
  clear hA0 hval0
  refine (walk A0 n0 c0  W hraw0).mono fun e W' ⟨he, bel⟩ => ?_
  subst he
  exact ⟨_, rfl, _, _, _, [], _, [], hW', trodAll_mk1 (shut_bool Try.underlying4 _), (trodAll_cons_mk (Below.trod laidOut (by kernel_rfl) (of_decide_eq_true (by kernel_rfl)) k0 bel lt0) trodAll_mk0), rfl, bel.frame _, fun h => by cases h⟩

theorem over : Rows.fieldPlacesRow.holds Try.pinned (OpenSpec.ofChange Rows.fieldPlacesSpec) :=
  OpenClaim.holds_of_wide 5 Try.f5 rfl rfl rfl rfl rfl rfl rfl ⟨rfl, rfl, rfl, rfl, rfl⟩ rfl rfl rfl rfl rfl (by kernel_rfl) Try.func5 (by kernel_rfl)
    (of_decide_eq_true (by kernel_rfl)) (by unfold Func.isWrapper; first | (rw [if_pos (by decide +kernel)]; kernel_rfl) | (rw [if_neg (by decide +kernel)]; exact ⟨rfl, rfl⟩))
    (fun os started H enc _ => lifted os started H enc)

theorem proved : Rows.FieldPlacesSaid := over
#print axioms proved
end Go.Proofs.Ytmelbldmpnepcaa.fieldPlaces
