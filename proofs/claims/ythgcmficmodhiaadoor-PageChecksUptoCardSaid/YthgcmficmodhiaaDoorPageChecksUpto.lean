/- What is proved: the Go law lychwaylaw.PageChecks returns true for all its arguments of bulk at most 1048576 (the second form), and leaves them as they were.  -/
import Derived.Test.YthgcmficmodhiaaDoorRows
import Derived.Test.YthgcmficmodhiaaDoorPgRef
import Derived.Test.YthgcmficmodhiaaDoorPgOpen
import Derived.Test.YthgcmficmodhiaaDoorFldOpen
import Derived.Test.YthgcmficmodhiaaDoorExOpen
import Derived.Test.YthgcmficmodhiaaDoorKit
import Derived.WalkKit
import Derived.ProofKit
import Derived.OpenShut
import Derived.Deep.RegionHeld3
import Derived.Deep.DrawnRows
import Derived.Deep.DeepCutAuto
import Derived.Deep.QuietTactic
import Derived.BigQuiet
import Derived.WalkSpells
import Derived.WalkLawsBesides
import Derived.Lib.Hide
import Derived.Outline
import Derived.ShutString
import Derived.ChangeOld
import Derived.Below
import Derived.LaidMore
import Derived.SizedLaws
import Derived.Stop.Joined
import Derived.Stop.LaidErr
import Derived.Lib.LaidTab
import Derived.SevenTiedAt
import Derived.Lay
import Derived.LaidOnce
import Derived.Deep.DeepHandedRow
import Derived.Test.YthgcmficmodhiaaDoorCards
import Derived.Test.YthgcmficmodhiaaDoorTie
namespace Go.Proofs.YthgcmficmodhiaaDoor.pageChecks
open ValM LexM NumM ExM Kit ExL ExN RawV Within RawL GenL FldP FldR FldC FrmM PgM PgA PgB PgR
open Go.ChangeShapes Go.WideShapes Go.ChangeAt Go.RowKit
open Go.ChangeMaps (open_string shut_string)
set_option linter.unusedVariables false

theorem own : ownKnob Tryd.prog.godebug = none := by kernel_rfl
theorem laidOut : laidOutB Tryd.prog = true := by kernel_rfl


/-! ### The walk -/
set_option maxHeartbeats 4000000 in
theorem walk (P0 : List FrmM.PE) (A0 : Option Addr) (c0 : Nat) (F1 : List GenL.Fd) (A1 : Option Addr) (c1 : Nat) (a2 : ByteArray) (w2 : a2.size ≤ maxLen) (w : World) (hpg0 : PgM.Pgs w A0 P0) (hpx0 : ∀ e ∈ P0, PgM.PgOk w e ∧ (e.fs.length ≤ e.fc ∧ e.fc ≤ maxLen) ∧ e.x.nodes ≤ 1048576 ∧ e.fs.length ≤ 1048576) (hpc0 : P0.length ≤ c0 ∧ c0 ≤ maxLen) (hpn0 : P0.length ≤ 1048576) (hfl1 : GenL.Flds w A1 F1) (hfx1 : ∀ (j : Nat) (h : j < F1.length), F1[j].nm.size ≤ maxLen ∧ ∃ x, ExL.Is w x F1[j].d F1[j].A F1[j].n ∧ x.nodes ≤ 1048576) (hcp1 : F1.length ≤ c1 ∧ c1 ≤ maxLen) (hfn1 : F1.length ≤ 1048576) (ht : ExN.Tab w) (rb2 : a2.size ≤ 140737488351232) :
    Calls Tryd.prog 3 #[.slice A0 P0.length c0, .slice A1 F1.length c1, .string a2] w fun e w' => e = .returned (.bool true) ∧ Below w.heap.size w w' := by
  have ho : PgsOk w P0 := fun e he => (hpx0 e he).1
  have hlp : ∀ e ∈ P0, e.fs.length ≤ 1048576 ∧ e.x.nodes ≤ 1048576 := fun e he => ⟨(hpx0 e he).2.2.2, (hpx0 e he).2.2.1⟩
  have h1 := PgB.check_any P0 A0 c0 F1 A1 c1 w hfn1 hfl1 (fun k h => (hfx1 k h).1) hpg0 ho (by unfold maxLen; omega) (fun e he => (hlp e he).1) ht hpc0
  have h2 : ∀ V, Below w.heap.size w V → Calls Tryd.prog 6 #[.slice A0 P0.length c0, .string a2] V fun r w' => r = .returned (PgA.firstE P0.length (pAt P0 a2)) ∧ Below V.heap.size V w' := fun V hV => PgA.find_any a2 P0 A0 c0 V (by unfold maxLen; omega) (hpg0.below hV)
  have h3 : ∀ V, Below w.heap.size w V → Calls Tryd.prog 7 #[.slice A0 P0.length c0, .slice A1 F1.length c1] V fun r w' => r = .returned (.int .i64 (checkP F1 P0)) ∧ Below V.heap.size V w' := fun V hV => PgR.refPages_any P0 A0 c0 F1 A1 c1 V hfn1 (hfl1.below hV) (hpg0.below hV) (ho.below hV) (by unfold maxLen; omega) hlp
  have h4 : ∀ V, Below w.heap.size w V → Calls Tryd.prog 8 #[.slice A0 P0.length c0, .string a2] V fun r w' => r = .returned (.int .i64 (pAt P0 a2 : Int)) ∧ Below V.heap.size V w' := fun V hV => pageAt_any a2 P0 A0 c0 V (by unfold maxLen; omega) (hpg0.below hV)
  have hle : pAt P0 a2 ≤ P0.length := List.findIdx_le_length
  generalize checkP F1 P0 = R at h1 h3
  generalize pAt P0 a2 = k at h2 h4 hle
  unfold PgA.firstE at h2
  have tR : (R == R) = true := by simp
  have H1 := Lib.hid h1
  have H2 := Lib.hid h2
  have H3 := Lib.hid h3
  have H4 := Lib.hid h4
  clear h1 h2 h3 h4 ho hlp hpg0 hpx0 hfl1 hfx1 hpc0 hcp1
  by_cases hk : k < P0.length
  · rw [if_pos hk, if_pos hk] at H2
    have tk : ((k : Int) == (k : Int)) = true := by simp
    clear hk hle
    go_enter Tryd.func3, Tryd.ntmps3
    go_wp2_with fail
    refine H1.out.mono ?_; rintro e w1 ⟨rfl, hb1⟩
    have HB1 := Lib.hid hb1
    clear hb1
    go_wp2_with fail
    refine (H2.out _ HB1.out).mono ?_; rintro e w2 ⟨rfl, hb2⟩
    have HB2 := Lib.hid (b_trans HB1.out hb2)
    clear hb2
    go_wp2_with fail
    refine (H3.out _ HB2.out).mono ?_; rintro e w3 ⟨rfl, hb3⟩
    have HB3 := Lib.hid (b_trans HB2.out hb3)
    clear hb3
    go_wp2_with fail
    refine (H4.out _ HB3.out).mono ?_; rintro e w4 ⟨rfl, hb4⟩
    have HB4 := Lib.hid (b_trans HB3.out hb4)
    clear hb4
    go_wp2_with fail
    go_ret
    exact ⟨rfl, HB4.out⟩
  · rw [if_neg hk, if_neg hk] at H2
    have ek : k = P0.length := by omega
    subst ek
    have tk : ((P0.length : Int) == (P0.length : Int)) = true := by simp
    clear hk hle
    go_enter Tryd.func3, Tryd.ntmps3
    go_wp2_with fail
    refine H1.out.mono ?_; rintro e w1 ⟨rfl, hb1⟩
    have HB1 := Lib.hid hb1
    clear hb1
    go_wp2_with fail
    refine (H2.out _ HB1.out).mono ?_; rintro e w2 ⟨rfl, hb2⟩
    have HB2 := Lib.hid (b_trans HB1.out hb2)
    clear hb2
    go_wp2_with fail
    refine (H3.out _ HB2.out).mono ?_; rintro e w3 ⟨rfl, hb3⟩
    have HB3 := Lib.hid (b_trans HB2.out hb3)
    clear hb3
    go_wp2_with fail
    refine (H4.out _ HB3.out).mono ?_; rintro e w4 ⟨rfl, hb4⟩
    have HB4 := Lib.hid (b_trans HB3.out hb4)
    clear hb4
    go_wp2_with fail
    go_ret
    exact ⟨rfl, HB4.out⟩

theorem not_of {W : World} (h : laidMetH Tryd.prog Rows.pageChecksUptoRow.laid W) : ExN.Tab W := by
  have h0 : laidMet Tryd.prog Rows.pageChecksUptoRow.laid W := by rw [MakeChecks.laidMetH_plain _ _ _ (by kernel_rfl)] at h; exact h
  have h1 := h0
  exact NotTab.is_of_head (g := 0) (t := 98) (e := 97) (n := 19) (by kernel_rfl) (by kernel_rfl) Tryd.underlying98 (by kernel_rfl) Tryd.underlying97 (by kernel_rfl) rfl rfl rfl Tryd.underlying9 Tryd.underlying3 Tryd.underlying3 (by kernel_rfl) (by kernel_rfl) (by kernel_rfl) h1

/-! ### The row's step -/
set_option maxRecDepth 100000 in
theorem reads (os : Os) {H : Type} (enc : TypeId × Value → H) : ∃ places, DataW.whole enc Tryd.prog ((World.laidAll Tryd.prog os Rows.pageChecksUptoRow.laid).forCall (fun _ _ => 0) ⟨#[], #[.slice none 0 0, .slice none 0 0, .string ⟨#[]⟩], []⟩).memory Tryd.f3.params.toList Rows.pageChecksSpec.vars false #[.slice none 0 0, .slice none 0 0, .string ⟨#[]⟩].toList 8 = some ([.nil, .nil, .lit (.string [])], [], places) := ⟨[], by kernel_rfl⟩
set_option maxRecDepth 100000 in
theorem lifted (os : Os) (started : os.Started) (H : Type) (enc : TypeId × Value → H) (F : Stop.Interp) :
    ReturnsInHanded {} Tryd.checked os 3 .any ((Rows.OpenSpec.upto Rows.pageChecksSpec).preRow enc Tryd.prog Tryd.f3 Rows.pageChecksUptoRow.domain false Rows.pageChecksUptoRow.laid) (((Rows.OpenSpec.upto Rows.pageChecksSpec).at F).post enc Tryd.prog Tryd.f3 false true false false) := by
  obtain ⟨places, hx⟩ := reads os enc
  refine returnsInHanded_of_row (C := Tryd.checked) (s := Rows.OpenSpec.upto Rows.pageChecksSpec) own started (by kernel_rfl) Tryd.func3
    (witness_row_at (enc := enc) (C := Tryd.checked) false (World.laidAll Tryd.prog os Rows.pageChecksUptoRow.laid) #[.slice none 0 0, .slice none 0 0, .string ⟨#[]⟩] (World.laidAll_os _ _ _) (by kernel_rfl) (by kernel_rfl) (by kernel_rfl)
      (OpenSpec.preRow_of_cond 8 hx (by kernel_rfl) (fun k hk => by cases hk; kernel_rfl) (by kernel_rfl) (by rw [MakeChecks.laidMetH_plain _ _ _ (by kernel_rfl)]; exact laidMet_laidAll _ (by kernel_rfl) (by kernel_rfl)))) ?_
  intro W base args ds gs before hval0 hW hcnd hcond hsz hL _ _
  have hval : ∀ (j : Nat) t v, Tryd.f3.params[j]? = some t → args[j]? = some v → Value.okWide Tryd.prog W .any base t v := hval0
  have hW' := hW
  obtain ⟨p, q, hA0, hV, rfl, hfz, hnd⟩ := hW
  have hA : DataW.TrodAll enc Tryd.prog W 0 (fun _ => true) true Tryd.f3.params.toList args.toList ds p := hA0
  rw [Tryd.params3] at hA hval
  obtain ⟨v0, vs0, d0, ds0, p0, q0, hargs, rfl, rfl, h0, r0⟩ := trodAll_cons hA
  obtain ⟨v1, vs1, d1, ds1, p1, q1, rfl, rfl, rfl, h1, r1⟩ := trodAll_cons r0
  obtain ⟨v2, vs2, d2, ds2, p2, q2, rfl, rfl, rfl, h2, r2⟩ := trodAll_cons r1
  obtain ⟨rfl, rfl, rfl⟩ := trodAll_nil r2
  obtain rfl : args = #[v0, v1, v2] := by cases args; simp_all
  obtain ⟨rfl, rfl⟩ := trodVars_none hV
  have k0 := h0
  have lt0 : ∀ x ∈ p0, x.block < W.heap.size := by obtain ⟨m, hm⟩ := k0; exact DataW.trod_lt m _ _ _ hm
  obtain ⟨A0, P0, c0, rfl, hpg0, hpn0, hpx0⟩ := PgO.open_pgs (hval 0 22 v0 rfl rfl) h0
  have k1 := h1
  have lt1 : ∀ x ∈ p1, x.block < W.heap.size := by obtain ⟨m, hm⟩ := k1; exact DataW.trod_lt m _ _ _ hm
  obtain ⟨A1, F1, c1, rfl, hfl1, hfn1, hfx1⟩ := FldO.open_flds (hval 1 23 v1 rfl rfl) h1
  have k2 := h2
  have lt2 : ∀ x ∈ p2, x.block < W.heap.size := by obtain ⟨m, hm⟩ := k2; exact DataW.trod_lt m _ _ _ hm
  obtain ⟨a2, rfl, rfl, rfl, w2⟩ := open_string Tryd.underlying9 (hval 2 9 v2 rfl rfl) h2
  have hk := hcond _ rfl
  have hbk := of_decide_eq_true hk
  simp only [List.append_nil, Rows.uptoBulkAll] at hbk
  rw [Tryd.params3] at hsz
  have rb2 : a2.size ≤ 140737488351232 := by
    have h1 := sized_string hsz (j := 2) (t := 9) rfl rfl
    have h2 : reachBytes = 140737488351232 := by decide
    have e1 : a2.size = a2.data.size := rfl
    have e2 : a2.data.toList.length = a2.data.size := Array.length_toList
    omega
  clear hA0 hval0
  refine (walk P0 A0 c0 F1 A1 c1 a2 w2 W hpg0 (fun e he => ⟨(hpx0 e he).1, (hpx0 e he).2.1, by have := (hpx0 e he).2.2.1; omega, by have := (hpx0 e he).2.2.2; omega⟩) hpn0.2.2 (by omega) hfl1 (fun j hj => ⟨(hfx1 j hj).1, (hfx1 j hj).2.imp fun x hx => ⟨hx.1, by omega⟩⟩) hfn1.2.2 (by omega) (not_of hL) rb2).mono fun e W' ⟨he, bel⟩ => ?_
  subst he
  exact ⟨_, rfl, _, _, _, [], _, [], hW', trodAll_mk1 (shut_bool Tryd.underlying4 _), (trodAll_cons_mk (Below.trod laidOut (by kernel_rfl) (of_decide_eq_true (by kernel_rfl)) k0 bel lt0) (trodAll_cons_mk (Below.trod laidOut (by kernel_rfl) (of_decide_eq_true (by kernel_rfl)) k1 bel lt1) (trodAll_cons_mk (Below.trod laidOut (by kernel_rfl) (of_decide_eq_true (by kernel_rfl)) k2 bel lt2) trodAll_mk0))), rfl, bel.frame _, fun h => by cases h⟩

theorem over : Rows.PageChecksUptoSaid :=
  OpenClaim.holds_of_cond 3 Tryd.f3 rfl rfl rfl rfl rfl rfl rfl ⟨rfl, rfl, rfl, rfl, rfl⟩ rfl rfl rfl rfl rfl (by kernel_rfl) Tryd.func3 (by kernel_rfl)
    (of_decide_eq_true (by kernel_rfl)) (by unfold Func.isWrapper; first | (rw [if_pos (by decide +kernel)]; kernel_rfl) | (rw [if_neg (by decide +kernel)]; exact ⟨rfl, rfl⟩))
    (fun os started H enc _ F => by rw [OpenClaim.pre_eq_preRow]; exact lifted os started H enc F)

/-- The tied card. -/
theorem proved : Rows.PageChecksUptoCardSaid :=
  Claim7.holds_tied_plain_at .later [] [.data] true (true, "dc20bf823b91e6631a276bb3415bdf6e5e95bd948c94a82f859c9f70a2a499c2") false
    over (fun _ h => by cases h) (by kernel_rfl) (fun _ h => by cases h) pageChecksUpto_row_tie rfl ⟨rfl, rfl⟩ (by kernel_rfl) rfl
    (fun f fn hf hfn => by
      obtain rfl : f = 3 := Option.some.inj ((show Tryd.prog.funcNamed "lychway/lychwaylaw.PageChecks" = some 3 by kernel_rfl).symm.trans hf) |>.symm
      obtain rfl : fn = Tryd.f3 := (Option.some.inj (Tryd.func3.symm.trans hfn)).symm
      exact ⟨by kernel_rfl, fun j t ht => by
        rw [Tryd.params3] at ht
        have hm : t ∈ [22, 23, 9] := by simpa using Array.mem_of_getElem? ht
        have hall : ([22, 23, 9].all fun u => !Tryd.prog.wantsStandIn u) = true := by kernel_rfl
        exact (show Tryd.prog.wantsStandIn t = false by simpa using List.all_eq_true.1 hall t hm)⟩)
    (by kernel_rfl)
#print axioms proved
end Go.Proofs.YthgcmficmodhiaaDoor.pageChecks
