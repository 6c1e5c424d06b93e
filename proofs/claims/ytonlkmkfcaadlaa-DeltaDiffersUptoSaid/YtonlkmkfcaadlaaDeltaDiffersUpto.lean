/- What is proved: the Go law lychwaylaw.DeltaDiffers returns true for all its arguments of bulk at most 1048576 (the second form), and leaves them as they were.  -/
import Derived.Test.YtonlkmkfcaadlaaRows
import Derived.Test.YtonlkmkfcaadlaaDfLaw
import Derived.Test.YtonlkmkfcaadlaaValOpen
import Derived.Test.YtonlkmkfcaadlaaFldOpen
import Derived.Test.YtonlkmkfcaadlaaExOpen
import Derived.Test.YtonlkmkfcaadlaaKit
import Derived.WalkKit
import Derived.ProofKit
import Derived.OpenShut
import Derived.Deep.RegionHeld3
import Derived.Deep.DrawnRows
import Derived.Deep.DeepCutAuto
import Derived.Deep.QuietTactic
import Derived.BigQuiet
import Derived.WalkSpells
import Derived.WalkLawsBesides
import Derived.Lib.Hide
import Derived.Outline
import Derived.ShutString
import Derived.ChangeOld
import Derived.Below
import Derived.JoinedCond
namespace Go.Proofs.Ytonlkmkfcaadlaa.deltaDiffers
open ExM EvM Kit ExL ExP GenL NmA VlS DfP DfL
open Go.ChangeShapes Go.WideShapes Go.ChangeAt Go.RowKit
open Go.ChangeMaps (open_string shut_string)
set_option linter.unusedVariables false

theorem own : ownKnob Try.prog.godebug = none := by kernel_rfl
theorem laidOut : laidOutB Try.prog = true := by kernel_rfl


/-! ### The walk -/
set_option maxRecDepth 100000 in
set_option maxHeartbeats 8000000 in
theorem walk (F0 : List GenL.Fd) (A0 : Option Addr) (c0 : Nat) (F1 : List EvM.Vl) (A1 : Option Addr) (c1 : Nat) (F2 : List EvM.Vl) (A2 : Option Addr) (c2 : Nat)  (w : World) (hfl0 : GenL.Flds w A0 F0) (hfx0 : ∀ (j : Nat) (h : j < F0.length), F0[j].nm.size ≤ maxLen ∧ ∃ x, ExL.Is w x F0[j].d F0[j].A F0[j].n ∧ x.nodes ≤ 1048576) (hcp0 : F0.length ≤ c0 ∧ c0 ≤ maxLen) (hfn0 : F0.length ≤ 1048576) (hfl1 : VlS.Vls w A1 F1) (hfx1 : ∀ f ∈ F1, f.s.size ≤ maxLen) (hcp1 : F1.length ≤ c1 ∧ c1 ≤ maxLen) (hfn1 : F1.length ≤ 1048576) (hfl2 : VlS.Vls w A2 F2) (hfx2 : ∀ f ∈ F2, f.s.size ≤ maxLen) (hcp2 : F2.length ≤ c2 ∧ c2 ≤ maxLen) (hfn2 : F2.length ≤ 1048576) :
    Calls Try.prog 3 #[.slice A0 F0.length c0, .slice A1 F1.length c1, .slice A2 F2.length c2] w fun e w' => e = .returned (.bool true) ∧ Below w.heap.size w w' := by
  have h1 := differ_any F0 A0 c0 F1 F2 A1 A2 c1 c2 w hfl0 hfl1 hfl2 hfn0 hfn1 hfn2
  have h2 := fun V (hV : Below w.heap.size w V) => refDiff_any F0 A0 c0 F1 F2 A1 A2 c1 c2 V (hfl0.below hV) (hfl1.below hV) (hfl2.below hV) hfn0 hfn1 hfn2
  have hle : (diffL F0 F1 F2).length ≤ 1048576 := by
    unfold diffL
    split
    · have := diff_len (nmF F0) (vAt F1) (vAt F2) F0.length; omega
    · simp
  unfold DiffOut at h1 h2
  obtain ⟨R, hR⟩ : ∃ R, diffE F0 F1 F2 = R := ⟨_, rfl⟩
  obtain ⟨L, hL⟩ : ∃ L, diffL F0 F1 F2 = L := ⟨_, rfl⟩
  rw [hR, hL] at h1
  simp only [hR, hL] at h2
  rw [hL] at hle
  have H1 := Lib.hid h1
  have H2 := Lib.hid h2
  have HLe := Lib.hid hle
  clear h1 h2 hR hL hle hfl0 hfl1 hfl2 hfx0 hfx1 hfx2
  go_enter Try.func3, Try.ntmps3
  go_wp2_with fail
  refine H1.out.mono ?_; rintro e w1 ⟨v, rfl, hown, hb⟩
  have H2' := Lib.hid (H2.out w1 hb)
  have HO1 := Lib.hid (And.intro hown hb)
  clear hown hb
  go_wp2_with fail
  refine H2'.out.mono ?_; rintro e w2 ⟨v2, rfl, hown2, hb2⟩
  obtain ⟨A7, c7, rfl, hr7⟩ := own_row HO1.out.1
  obtain ⟨A8, c8, rfl, hr8⟩ := own_row hown2
  have hs := sameRow_any L A7 A8 c7 c8 w2 HLe.out (SRow.below' hr7 hb2) hr8
  have HS := Lib.hid hs
  have HB := Lib.hid (b_trans HO1.out.2 hb2)
  clear hs hr7 hr8 hb2 hown2
  go_wp2_with fail
  refine HS.out.mono ?_; rintro e w3 ⟨rfl, hb3⟩
  have HN := Lib.hid (b_trans HB.out hb3)
  clear hb3
  go_wp2_with fail
  go_ret
  exact ⟨rfl, HN.out⟩

/-! ### The row's step -/
set_option maxRecDepth 100000 in
theorem lifted (os : Os) (started : os.Started) (H : Type) (enc : TypeId × Value → H) (F : Stop.Interp) :
    ReturnsInHanded {} Try.checked os 3 .any ((Rows.OpenSpec.upto Rows.deltaDiffersSpec).pre6 enc Try.prog Try.f3 Rows.deltaDiffersUptoRow.domain false) (((Rows.OpenSpec.upto Rows.deltaDiffersSpec).at F).post enc Try.prog Try.f3 false true false false) := by
  refine returnsInHanded_of_cond (C := Try.checked) (s := Rows.OpenSpec.upto Rows.deltaDiffersSpec) (k := Rows.uptoSmall) rfl own started (by kernel_rfl) Try.func3
    (OpenSpec.witness (enc := enc) (C := Try.checked) (s := Rows.OpenSpec.upto Rows.deltaDiffersSpec) (k := Rows.uptoSmall) rfl false ⟨#[], #[.slice none 0 0, .slice none 0 0, .slice none 0 0], []⟩ 8 (by kernel_rfl) (by kernel_rfl) (by kernel_rfl)
      (x := ([.nil, .nil, .nil], [], [])) (by kernel_rfl) rfl (by kernel_rfl)) ?_
  intro W base args ds gs before hval0 hW hcnd hk _
  have hval : ∀ (j : Nat) t v, Try.f3.params[j]? = some t → args[j]? = some v → Value.okWide Try.prog W .any base t v := hval0
  have hW' := hW
  obtain ⟨p, q, hA0, hV, rfl, hfz, hnd⟩ := hW
  have hA : DataW.TrodAll enc Try.prog W 0 (fun _ => true) true Try.f3.params.toList args.toList ds p := hA0
  rw [Try.params3] at hA hval
  obtain ⟨v0, vs0, d0, ds0, p0, q0, hargs, rfl, rfl, h0, r0⟩ := trodAll_cons hA
  obtain ⟨v1, vs1, d1, ds1, p1, q1, rfl, rfl, rfl, h1, r1⟩ := trodAll_cons r0
  obtain ⟨v2, vs2, d2, ds2, p2, q2, rfl, rfl, rfl, h2, r2⟩ := trodAll_cons r1
  obtain ⟨rfl, rfl, rfl⟩ := trodAll_nil r2
  obtain rfl : args = #[v0, v1, v2] := by cases args; simp_all
  obtain ⟨rfl, rfl⟩ := trodVars_none hV
  have k0 := h0
  have lt0 : ∀ x ∈ p0, x.block < W.heap.size := by obtain ⟨m, hm⟩ := k0; exact DataW.trod_lt m _ _ _ hm
  obtain ⟨A0, F0, c0, rfl, hfl0, hfn0, hfx0⟩ := FldO.open_flds (hval 0 22 v0 rfl rfl) h0
  have k1 := h1
  have lt1 : ∀ x ∈ p1, x.block < W.heap.size := by obtain ⟨m, hm⟩ := k1; exact DataW.trod_lt m _ _ _ hm
  obtain ⟨A1, F1, c1, rfl, hfl1, hfn1, hfx1⟩ := ValO.open_vals (hval 1 23 v1 rfl rfl) h1
  have k2 := h2
  have lt2 : ∀ x ∈ p2, x.block < W.heap.size := by obtain ⟨m, hm⟩ := k2; exact DataW.trod_lt m _ _ _ hm
  obtain ⟨A2, F2, c2, rfl, hfl2, hfn2, hfx2⟩ := ValO.open_vals (hval 2 23 v2 rfl rfl) h2
  have hbk := of_decide_eq_true hk
  simp only [List.append_nil, Rows.uptoBulkAll] at hbk
  clear hA0 hval0
  refine (walk F0 A0 c0 F1 A1 c1 F2 A2 c2  W hfl0 (fun j hj => ⟨(hfx0 j hj).1, (hfx0 j hj).2.imp fun x hx => ⟨hx.1, by omega⟩⟩) hfn0.2.2 (by omega) hfl1 hfx1 hfn1.2.2 (by omega) hfl2 hfx2 hfn2.2.2 (by omega)).mono fun e W' ⟨he, bel⟩ => ?_
  subst he
  exact ⟨_, rfl, _, _, _, [], _, [], hW', trodAll_mk1 (shut_bool Try.underlying4 _), (trodAll_cons_mk (Below.trod laidOut (by kernel_rfl) (of_decide_eq_true (by kernel_rfl)) k0 bel lt0) (trodAll_cons_mk (Below.trod laidOut (by kernel_rfl) (of_decide_eq_true (by kernel_rfl)) k1 bel lt1) (trodAll_cons_mk (Below.trod laidOut (by kernel_rfl) (of_decide_eq_true (by kernel_rfl)) k2 bel lt2) trodAll_mk0))), rfl, bel.frame _, fun h => by cases h⟩

theorem over : Rows.DeltaDiffersUptoSaid :=
  OpenClaim.holds_of_cond 3 Try.f3 rfl rfl rfl rfl rfl rfl rfl ⟨rfl, rfl, rfl, rfl, rfl⟩ rfl rfl rfl rfl rfl (by kernel_rfl) Try.func3 (by kernel_rfl)
    (of_decide_eq_true (by kernel_rfl)) (by unfold Func.isWrapper; first | (rw [if_pos (by decide +kernel)]; kernel_rfl) | (rw [if_neg (by decide +kernel)]; exact ⟨rfl, rfl⟩))
    (fun os started H enc _ F => lifted os started H enc F)

theorem proved : Rows.DeltaDiffersUptoSaid := over
#print axioms proved
end Go.Proofs.Ytonlkmkfcaadlaa.deltaDiffers
