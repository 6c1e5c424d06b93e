/- What is proved: the Go law lychwaylaw.PageFinds returns true for all its arguments of bulk at most 1048576 (the second form), and leaves them as they were.  -/
import Derived.Test.YthgcmficmodhiaaRows
import Derived.Test.YthgcmficmodhiaaFmCopy
import Derived.Test.YthgcmficmodhiaaPgSame
import Derived.Test.YthgcmficmodhiaaPgCopied
import Derived.Test.YthgcmficmodhiaaPgOpen
import Derived.Test.YthgcmficmodhiaaFldOpen
import Derived.Test.YthgcmficmodhiaaExOpen
import Derived.Test.YthgcmficmodhiaaKit
import Derived.WalkKit
import Derived.ProofKit
import Derived.OpenShut
import Derived.Deep.RegionHeld3
import Derived.Deep.DrawnRows
import Derived.Deep.DeepCutAuto
import Derived.Deep.QuietTactic
import Derived.BigQuiet
import Derived.WalkSpells
import Derived.WalkLawsBesides
import Derived.Lib.Hide
import Derived.Outline
import Derived.ShutString
import Derived.ChangeOld
import Derived.Below
import Derived.JoinedCond
namespace Go.Proofs.Ythgcmficmodhiaa.pageFinds
open ValM LexM NumM ExM Kit ExL ExN RawV Within RawL GenL FldP FldR FldC FrmM PgM PgA
open Go.ChangeShapes Go.WideShapes Go.ChangeAt Go.RowKit
open Go.ChangeMaps (open_string shut_string)
set_option linter.unusedVariables false

theorem own : ownKnob Try.prog.godebug = none := by kernel_rfl
theorem laidOut : laidOutB Try.prog = true := by kernel_rfl


/-! ### The walk -/
set_option maxRecDepth 100000 in
set_option maxHeartbeats 4000000 in
theorem walk (P0 : List FrmM.PE) (A0 : Option Addr) (c0 : Nat) (a1 : ByteArray) (w1 : a1.size ≤ maxLen) (w : World) (hpg0 : PgM.Pgs w A0 P0) (hpx0 : ∀ e ∈ P0, PgM.PgOk w e ∧ (e.fs.length ≤ e.fc ∧ e.fc ≤ maxLen) ∧ e.x.nodes ≤ 1048576 ∧ e.fs.length ≤ 1048576) (hpc0 : P0.length ≤ c0 ∧ c0 ≤ maxLen) (hpn0 : P0.length ≤ 1048576) :
    Calls Try.prog 3 #[.slice A0 P0.length c0, .string a1] w fun e w' => e = .returned (.bool true) ∧ Below w.heap.size w w' := by
  have ho : PgsOk w P0 := fun e he => (hpx0 e he).1
  have hlp : ∀ e ∈ P0, e.fs.length ≤ 1048576 ∧ e.x.nodes ≤ 1048576 := fun e he => ⟨(hpx0 e he).2.2.2, (hpx0 e he).2.2.1⟩
  have h1 := PgA.of_any a1 P0 A0 c0 w (by unfold maxLen; omega) hpg0 ho
  have h2 : ∀ V, Below w.heap.size w V → Calls Try.prog 5 #[.slice A0 P0.length c0] V (PgD.Copied P0 V) := fun V hV => (PgC.copy_any P0 A0 c0 V hpn0 (hpg0.below hV) (ho.below hV) hlp).mono fun r w' h => PgD.copied h
  have h3 : ∀ V, Below w.heap.size w V → Calls Try.prog 6 #[.slice A0 P0.length c0, .string a1] V fun r w' => r = .returned (.int .i64 (pOf P0 a1 : Int)) ∧ Below V.heap.size V w' := fun V hV => PgA.pageOf_any a1 P0 A0 c0 V (by unfold maxLen; omega) (hpg0.below hV) (ho.below hV)
  have h4 : ∀ V, Below w.heap.size w V → Calls Try.prog 7 #[.agg #[.slice none 0 0, .slice A0 P0.length c0]] V (FmC.FOut P0 V) := fun V hV => FmC.formCopy_any none 0 0 P0 A0 c0 V hpn0 (hpg0.below hV) (ho.below hV) hlp fun V' hV' => (PgD.fieldsNil_any V').mono fun r w' h => ⟨⟨none, 0, 0, h.1⟩, by rw [h.2]; exact Below.refl _ _⟩
  have hle : pOf P0 a1 ≤ P0.length := List.findIdx_le_length
  have hsame : ∀ (L G : List PE) (A A' : Option Addr) (c c' : Nat) (V : World), L.length = P0.length → G.length = P0.length → (∀ (i : Nat) (h : i < L.length) (h2 : i < P0.length), L[i].nm = P0[i].nm ∧ L[i].fs = P0[i].fs ∧ L[i].x = P0[i].x) → (∀ (i : Nat) (h : i < G.length) (h2 : i < P0.length), G[i].nm = P0[i].nm ∧ G[i].fs = P0[i].fs ∧ G[i].x = P0[i].x) → Pgs V A L → Pgs V A' G → (∀ e ∈ L, NmA.SRow V e.F e.fs ∧ ExL.Is V e.x e.x.d e.B e.m) → (∀ e ∈ G, NmA.SRow V e.F e.fs ∧ ExL.Is V e.x e.x.d e.B e.m) → Calls Try.prog 8 #[.slice A P0.length c, .slice A' P0.length c'] V fun e w' => e = .returned (.bool true) ∧ Below V.heap.size V w' := fun L G A A' c c' V hl hg v1 v2 p1 p2 o1 o2 => by
    have := PgS.eqPages_any L G A A' c c' V (hl.trans hg.symm) (by unfold maxLen; omega) p1 p2 fun k h h2 => by
      obtain ⟨a, b, x⟩ := v1 k h (by omega)
      obtain ⟨a2, b2, x2⟩ := v2 k h2 (by omega)
      have r1 := o1 _ (List.getElem_mem h)
      have r2 := o2 _ (List.getElem_mem h2)
      exact ⟨a.trans a2.symm, b.trans b2.symm, x.trans x2.symm, r1.1, r2.1, by rw [b]; exact (hlp _ (List.getElem_mem _)).1, r1.2, r2.2⟩
    rw [hl] at this
    exact this
  generalize pOf P0 a1 = k at h1 h3 hle
  unfold PgA.firstE at h1
  have hf1 : ∀ (A B : Option Addr) (n m c d : Nat) (w : World), (Instr.field 30 (.agg #[.slice A n c, .slice B m d]) 1).run Try.prog w = .ok (.slice B m d) w := fun A B n m c d w => by kernel_rfl
  have H1 := Lib.hid h1
  have H2 := Lib.hid h2
  have H3 := Lib.hid h3
  have H4 := Lib.hid h4
  have HSame := Lib.hid hsame
  clear h1 h2 h3 h4 ho hlp hpg0 hpx0 hpc0 hsame
  by_cases hk : k < P0.length
  · rw [if_pos hk, if_pos hk] at H1
    have tk : ((k : Int) == (k : Int)) = true := by simp
    clear hk hle
    go_enter Try.func3, Try.ntmps3
    go_wp2_with fail
    refine H1.out.mono ?_; rintro e w1 ⟨rfl, hb1⟩
    have HB1 := Lib.hid hb1
    clear hb1
    go_wp2_with fail
    refine (H2.out _ HB1.out).mono ?_; rintro e w2 ⟨L, A1, c1, rfl, hl1, hv1, hp1, ho1, hb2⟩
    have HB2 := Lib.hid (b_trans HB1.out hb2)
    have HL := Lib.hid (And.intro hl1 (And.intro hv1 (And.intro hp1 ho1)))
    clear hb2 hl1 hv1 hp1 ho1
    go_wp2_with fail
    refine (H3.out _ HB2.out).mono ?_; rintro e w3 ⟨rfl, hb3⟩
    have HB3 := Lib.hid hb3
    clear hb3
    go_wp2_with fail
    refine (H4.out _ (b_trans HB2.out HB3.out)).mono ?_; rintro e w4 ⟨fA, fn, fc, G, A2, c2, rfl, hl2, hv2, hp2, ho2, hb4⟩
    have hb24 := b_trans HB3.out hb4
    obtain ⟨hl1, hv1, hp1, ho1⟩ := HL.out
    have hs := HSame.out L G A1 A2 c1 c2 w4 hl1 hl2 hv1 hv2 (hp1.below hb24) hp2 (fun e he => ⟨PgS.srow_below (ho1 e he).1 hb24, (ho1 e he).2.below hb24⟩) ho2
    have HS := Lib.hid hs
    have HLl := Lib.hid hl2
    have HB4 := Lib.hid (b_trans HB2.out hb24)
    clear hs hl1 hv1 hp1 ho1 hl2 hv2 hp2 ho2 hb4 hb24 HL
    rw [HLl.out]
    go_wp2_with fail
    refine HS.out.mono ?_; rintro e w5 ⟨rfl, hb5⟩
    have HB5 := Lib.hid (b_trans HB4.out hb5)
    clear hb5
    go_wp2_with fail
    go_ret
    exact ⟨rfl, HB5.out⟩
  · rw [if_neg hk, if_neg hk] at H1
    have ek : k = P0.length := by omega
    subst ek
    have tk : ((P0.length : Int) == (P0.length : Int)) = true := by simp
    clear hk hle
    go_enter Try.func3, Try.ntmps3
    go_wp2_with fail
    refine H1.out.mono ?_; rintro e w1 ⟨rfl, hb1⟩
    have HB1 := Lib.hid hb1
    clear hb1
    go_wp2_with fail
    refine (H2.out _ HB1.out).mono ?_; rintro e w2 ⟨L, A1, c1, rfl, hl1, hv1, hp1, ho1, hb2⟩
    have HB2 := Lib.hid (b_trans HB1.out hb2)
    have HL := Lib.hid (And.intro hl1 (And.intro hv1 (And.intro hp1 ho1)))
    clear hb2 hl1 hv1 hp1 ho1
    go_wp2_with fail
    refine (H3.out _ HB2.out).mono ?_; rintro e w3 ⟨rfl, hb3⟩
    have HB3 := Lib.hid hb3
    clear hb3
    go_wp2_with fail
    refine (H4.out _ (b_trans HB2.out HB3.out)).mono ?_; rintro e w4 ⟨fA, fn, fc, G, A2, c2, rfl, hl2, hv2, hp2, ho2, hb4⟩
    have hb24 := b_trans HB3.out hb4
    obtain ⟨hl1, hv1, hp1, ho1⟩ := HL.out
    have hs := HSame.out L G A1 A2 c1 c2 w4 hl1 hl2 hv1 hv2 (hp1.below hb24) hp2 (fun e he => ⟨PgS.srow_below (ho1 e he).1 hb24, (ho1 e he).2.below hb24⟩) ho2
    have HS := Lib.hid hs
    have HLl := Lib.hid hl2
    have HB4 := Lib.hid (b_trans HB2.out hb24)
    clear hs hl1 hv1 hp1 ho1 hl2 hv2 hp2 ho2 hb4 hb24 HL
    rw [HLl.out]
    go_wp2_with fail
    refine HS.out.mono ?_; rintro e w5 ⟨rfl, hb5⟩
    have HB5 := Lib.hid (b_trans HB4.out hb5)
    clear hb5
    go_wp2_with fail
    go_ret
    exact ⟨rfl, HB5.out⟩

/-! ### The row's step -/
set_option maxRecDepth 100000 in
theorem lifted (os : Os) (started : os.Started) (H : Type) (enc : TypeId × Value → H) (F : Stop.Interp) :
    ReturnsInHanded {} Try.checked os 3 .any ((Rows.OpenSpec.upto Rows.pageFindsSpec).pre6 enc Try.prog Try.f3 Rows.pageFindsUptoRow.domain false) (((Rows.OpenSpec.upto Rows.pageFindsSpec).at F).post enc Try.prog Try.f3 false true false false) := by
  refine returnsInHanded_of_cond (C := Try.checked) (s := Rows.OpenSpec.upto Rows.pageFindsSpec) (k := Rows.uptoSmall) rfl own started (by kernel_rfl) Try.func3
    (OpenSpec.witness (enc := enc) (C := Try.checked) (s := Rows.OpenSpec.upto Rows.pageFindsSpec) (k := Rows.uptoSmall) rfl false ⟨#[], #[.slice none 0 0, .string ⟨#[]⟩], []⟩ 8 (by kernel_rfl) (by kernel_rfl) (by kernel_rfl)
      (x := ([.nil, .lit (.string [])], [], [])) (by kernel_rfl) rfl (by kernel_rfl)) ?_
  intro W base args ds gs before hval0 hW hcnd hk _
  have hval : ∀ (j : Nat) t v, Try.f3.params[j]? = some t → args[j]? = some v → Value.okWide Try.prog W .any base t v := hval0
  have hW' := hW
  obtain ⟨p, q, hA0, hV, rfl, hfz, hnd⟩ := hW
  have hA : DataW.TrodAll enc Try.prog W 0 (fun _ => true) true Try.f3.params.toList args.toList ds p := hA0
  rw [Try.params3] at hA hval
  obtain ⟨v0, vs0, d0, ds0, p0, q0, hargs, rfl, rfl, h0, r0⟩ := trodAll_cons hA
  obtain ⟨v1, vs1, d1, ds1, p1, q1, rfl, rfl, rfl, h1, r1⟩ := trodAll_cons r0
  obtain ⟨rfl, rfl, rfl⟩ := trodAll_nil r1
  obtain rfl : args = #[v0, v1] := by cases args; simp_all
  obtain ⟨rfl, rfl⟩ := trodVars_none hV
  have k0 := h0
  have lt0 : ∀ x ∈ p0, x.block < W.heap.size := by obtain ⟨m, hm⟩ := k0; exact DataW.trod_lt m _ _ _ hm
  obtain ⟨A0, P0, c0, rfl, hpg0, hpn0, hpx0⟩ := PgO.open_pgs (hval 0 22 v0 rfl rfl) h0
  have k1 := h1
  have lt1 : ∀ x ∈ p1, x.block < W.heap.size := by obtain ⟨m, hm⟩ := k1; exact DataW.trod_lt m _ _ _ hm
  obtain ⟨a1, rfl, rfl, rfl, w1⟩ := open_string Try.underlying9 (hval 1 9 v1 rfl rfl) h1
  have hbk := of_decide_eq_true hk
  simp only [List.append_nil, Rows.uptoBulkAll] at hbk
  clear hA0 hval0
  refine (walk P0 A0 c0 a1 w1 W hpg0 (fun e he => ⟨(hpx0 e he).1, (hpx0 e he).2.1, by have := (hpx0 e he).2.2.1; omega, by have := (hpx0 e he).2.2.2; omega⟩) hpn0.2.2 (by omega)).mono fun e W' ⟨he, bel⟩ => ?_
  subst he
  exact ⟨_, rfl, _, _, _, [], _, [], hW', trodAll_mk1 (shut_bool Try.underlying4 _), (trodAll_cons_mk (Below.trod laidOut (by kernel_rfl) (of_decide_eq_true (by kernel_rfl)) k0 bel lt0) (trodAll_cons_mk (Below.trod laidOut (by kernel_rfl) (of_decide_eq_true (by kernel_rfl)) k1 bel lt1) trodAll_mk0)), rfl, bel.frame _, fun h => by cases h⟩

theorem over : Rows.PageFindsUptoSaid :=
  OpenClaim.holds_of_cond 3 Try.f3 rfl rfl rfl rfl rfl rfl rfl ⟨rfl, rfl, rfl, rfl, rfl⟩ rfl rfl rfl rfl rfl (by kernel_rfl) Try.func3 (by kernel_rfl)
    (of_decide_eq_true (by kernel_rfl)) (by unfold Func.isWrapper; first | (rw [if_pos (by decide +kernel)]; kernel_rfl) | (rw [if_neg (by decide +kernel)]; exact ⟨rfl, rfl⟩))
    (fun os started H enc _ F => lifted os started H enc F)

theorem proved : Rows.PageFindsUptoSaid := over
#print axioms proved
end Go.Proofs.Ythgcmficmodhiaa.pageFinds
