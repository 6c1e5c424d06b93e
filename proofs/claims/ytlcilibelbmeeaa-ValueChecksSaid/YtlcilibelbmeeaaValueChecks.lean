/- What is proved: the Go law lychwaylaw.ValueChecks returns true for all its arguments, and leaves them as they were. No condition. -/
import Derived.Test.YtlcilibelbmeeaaRows
import Derived.Test.YtlcilibelbmeeaaValueRef
import Derived.Test.YtlcilibelbmeeaaValue
import Derived.Test.YtlcilibelbmeeaaKit
import Derived.WalkKit
import Derived.ProofKit
import Derived.OpenShut
import Derived.Deep.RegionHeld3
import Derived.Deep.QuietTactic
import Derived.BigQuiet
import Derived.WalkSpells
import Derived.WalkLawsBesides
import Derived.Lib.Hide
import Derived.Outline
import Derived.ShutString
import Derived.ChangeOld
import Derived.Below
namespace Go.Proofs.Ytlcilibelbmeeaa.valueChecks
open Go.ChangeShapes Go.WideShapes Go.ChangeAt Go.RowKit
open Go.ChangeMaps (open_string shut_string)
set_option linter.unusedVariables false

theorem own : ownKnob Try.prog.godebug = none := by kernel_rfl
theorem laidOut : laidOutB Try.prog = true := by kernel_rfl

theorem list3 {α : Type} {cs : List α} (h : cs.length = 3) : ∃ d0 d1 d2, cs = [d0, d1, d2] := by
  match cs, h with
  | [d0, d1, d2], _ => exact ⟨d0, d1, d2, rfl⟩
theorem row23 {H : Type} {enc : TypeId × Value → H} {W : World} {cs : List Value} {fuel : Nat} {y : DataW H × List MemPlace}
    (h : DataW.trod enc Try.prog W 0 (fun _ => true) true fuel 23 cs = some y) :
    ∃ (x0 : Int) (x1 : Int) (x2 : ByteArray), cs = [.int .i64 x0, .int .i64 x1, .string x2] ∧ (Lit.int .i64 x0).wf = true ∧ (Lit.int .i64 x1).wf = true ∧ x2.size ≤ maxLen := by
  obtain ⟨ys, n, hx, _, hl, hlen, hf⟩ := DataW.trod_struct Try.underlying23 h
  have hC : Try.prog.cellsOf 23 = 3 := by kernel_rfl
  rw [hC] at hl
  have g0 := hf 0 _ rfl
  have c0 : Try.prog.cellsOf 3 = 1 := by kernel_rfl
  have g1 := hf 1 _ rfl
  have c1 : Try.prog.cellsOf 3 = 1 := by kernel_rfl
  have g2 := hf 2 _ rfl
  have c2 : Try.prog.cellsOf 9 = 1 := by kernel_rfl
  obtain ⟨d0, d1, d2, rfl⟩ := list3 hl
  obtain ⟨y0, y1, y2, rfl⟩ := list3 (show ys.length = 3 from hlen)
  simp [c0] at g0
  obtain ⟨x0, e0, _, f0⟩ := DataW.trod_int Try.underlying3 g0
  simp only [List.cons.injEq, and_true] at e0
  subst e0
  simp [c1] at g1
  obtain ⟨x1, e1, _, f1⟩ := DataW.trod_int Try.underlying3 g1
  simp only [List.cons.injEq, and_true] at e1
  subst e1
  simp [c2] at g2
  obtain ⟨x2, e2, _, f2⟩ := DataW.trod_string Try.underlying9 g2
  simp only [List.cons.injEq, and_true] at e2
  subst e2
  exact ⟨x0, x1, x2, rfl, f0, f1, f2⟩
theorem open23 {H : Type} {enc : TypeId × Value → H} {W : World} {base : Nat} {v : Value} {d : DataW H} {p : List MemPlace}
    (hv : Value.okWide Try.prog W .any base 23 v) (h : DataW.Trod enc Try.prog W 0 (fun _ => true) true 23 v d p) :
    ∃ (x0 : Int) (x1 : Int) (x2 : ByteArray), v = .agg #[.int .i64 x0, .int .i64 x1, .string x2] ∧ (Lit.int .i64 x0).wf = true ∧ (Lit.int .i64 x1).wf = true ∧ x2.size ≤ maxLen := by
  obtain ⟨cs, rfl, hsz⟩ := okWide_struct Try.underlying23 hv
  obtain ⟨fuel, hf⟩ := h
  obtain ⟨x0, x1, x2, e, f⟩ := row23 hf
  have e' : cs.toList = _ := e
  obtain rfl : cs = #[.int .i64 x0, .int .i64 x1, .string x2] := by rw [← Array.toArray_toList (xs := cs), e']
  exact ⟨x0, x1, x2, rfl, f⟩

/-! ### The walk -/
open NumM ValM Kit
theorem walk (a0_0 : Int) (a0_1 : Int) (a0_2 : ByteArray) (a1 : Int) (w0_0 : (Lit.int .i64 a0_0).wf = true) (w0_1 : (Lit.int .i64 a0_1).wf = true) (w0_2 : a0_2.size ≤ maxLen) (w1 : (Lit.int .i64 a1).wf = true) (w : World) :
    Calls Try.prog 3 #[.agg #[.int .i64 a0_0, .int .i64 a0_1, .string a0_2], .int .i64 a1] w fun e w' => e = .returned (.bool true) ∧ Below w.heap.size w w' := by
  obtain ⟨q, hq⟩ : ∃ q : Int, valE a0_0 a0_1 a0_2.data.toList = q := ⟨_, rfl⟩
  obtain ⟨kb, hkb⟩ : ∃ kb : Bool, knownB a0_0 a0_1 a0_2.data.toList = kb := ⟨_, rfl⟩
  have h1 := fun W => Val.check_any a0_0 a0_1 a0_2 W
  have h2 := fun W => Val.known_any a0_0 a0_1 a0_2 W
  have h3 := fun W => ValRef.fault_any a0_0 a0_1 a0_2 W
  have h4 := fun W => ValRef.known_any a0_0 a0_1 a0_2 W
  rw [hq] at h1 h3
  rw [hkb] at h2 h4
  have H1 := Lib.hid h1
  have H2 := Lib.hid h2
  have H3 := Lib.hid h3
  have H4 := Lib.hid h4
  clear h1 h2 h3 h4 hq hkb
  obtain ⟨z, f, want, HZ, hd⟩ : ∃ (z f : Int) (want : Bool), (∀ W : World, Calls Try.prog 8 #[.int .i64 a1] W fun e w' => e = .returned (.tuple #[.agg #[.int .i64 z, .int .i64 0, .string ⟨#[]⟩], .int .i64 f]) ∧ Below W.heap.size W w') ∧ ((1 ≤ a1 ∧ a1 ≤ 3 ∧ f = 0 ∧ z = a1) ∨ (a1 < 1 ∧ f = 2 ∧ z = 0) ∨ (1 ≤ a1 ∧ 3 < a1 ∧ f = 2 ∧ z = 0)) := by
    by_cases hk : isT a1 = true
    · have hk1 : 1 ≤ a1 ∧ a1 ≤ 3 := by
        unfold isT at hk; simp only [Bool.or_eq_true, decide_eq_true_eq] at hk; omega
      exact ⟨a1, 0, true, fun W => Val.zero_in a1 W hk, .inl ⟨hk1.1, hk1.2, rfl, rfl⟩⟩
    · have hk1 : a1 < 1 ∨ 3 < a1 := by
        unfold isT at hk; simp only [Bool.or_eq_true, decide_eq_true_eq] at hk; omega
      refine ⟨0, 2, false, fun W => Val.zero_out a1 W (by simpa using hk), ?_⟩
      omega
  have HZ := Lib.hid HZ
  rcases hd with ⟨g1, g2, rfl, rfl⟩ | ⟨g1, rfl, rfl⟩ | ⟨g1, g2, rfl, rfl⟩
  all_goals
    go_enter Try.func3, Try.ntmps3
    go_wp2_with fail
    go_region_held3 (fun w' => w'.cell? ⟨w.heap.size, 0, none⟩ = some (.int .i64 a0_0) ∧ w'.cell? ⟨w.heap.size, 1, none⟩ = some (.int .i64 a0_1) ∧ w'.cell? ⟨w.heap.size, 2, none⟩ = some (.string a0_2) ∧ w.heap.size < w'.heap.size) (go_keep)
      (first | (go_at_call 6; refine (H1.out _).mono ?_; rintro e w1 ⟨rfl, hb1⟩; obtain ⟨g0, g1, g2, g3⟩ := box3 w.heap.size a0_0 a0_1 a0_2 hb1 (by first | assumption | simp) (by first | assumption | simp [go_sem]) (by first | assumption | simp [go_sem]) (by first | assumption | simp [go_sem])) | (go_at_call 7; refine (H2.out _).mono ?_; rintro e w2 ⟨rfl, hb2⟩; obtain ⟨g0, g1, g2, g3⟩ := box3 w.heap.size a0_0 a0_1 a0_2 hb2 (by first | assumption | simp) (by first | assumption | simp [go_sem]) (by first | assumption | simp [go_sem]) (by first | assumption | simp [go_sem])))
    go_wp2_with fail
    refine (HZ.out _).mono ?_; rintro e w3 ⟨rfl, hb3⟩
    obtain ⟨g0, g1, g2, g3⟩ := box3 w.heap.size a0_0 a0_1 a0_2 hb3 (by first | assumption | simp) (by first | assumption | simp [go_sem]) (by first | assumption | simp [go_sem]) (by first | assumption | simp [go_sem])
    go_wp2_with fail
    go_region_held3 (fun w' => w'.cell? ⟨w.heap.size, 0, none⟩ = some (.int .i64 a0_0) ∧ w'.cell? ⟨w.heap.size, 1, none⟩ = some (.int .i64 a0_1) ∧ w'.cell? ⟨w.heap.size, 2, none⟩ = some (.string a0_2)) (go_keep)
      (first | (go_at_call 9; refine (H3.out _).mono ?_; rintro e w4 ⟨rfl, hb4⟩; obtain ⟨g0, g1, g2, g3⟩ := box3 w.heap.size a0_0 a0_1 a0_2 hb4 (by first | assumption | (simp; omega)) (by first | assumption | simp [go_sem, *]) (by first | assumption | simp [go_sem, *]) (by first | assumption | simp [go_sem, *]); obtain ⟨c4, d4⟩ := bcell hb4; have hz4 : w3.heap.size < w4.heap.size := Nat.lt_of_lt_of_le (by simp) hb4.size) | (go_at_call 10; refine (H4.out _).mono ?_; rintro e w5 ⟨rfl, hb5⟩; obtain ⟨g0, g1, g2, g3⟩ := box3 w.heap.size a0_0 a0_1 a0_2 hb5 (by first | assumption | (simp; omega)) (by first | assumption | simp [go_sem, *]) (by first | assumption | simp [go_sem, *]) (by first | assumption | simp [go_sem, *]); obtain ⟨c5, d5⟩ := bcell hb5; have hz5 := hb5.size))
    go_wp2_with fail
    go_ret
    exact ⟨rfl, b_trans (b_trans (b_thenD hb1) hb2) (b_trans hb3 (b_trans (b_thenD hb4) hb5))⟩

/-! ### The row's step -/
set_option maxRecDepth 100000 in
theorem lifted (os : Os) (started : os.Started) (H : Type) (enc : TypeId × Value → H) :
    ReturnsInHanded {} Try.checked os 3 .any (Rows.valueChecksSpec.pre6 enc Try.prog Try.f3 Rows.valueChecksRow.domain false) (Rows.valueChecksSpec.post enc Try.prog Try.f3 false true false false) := by
  refine returnsInHanded_of_change (C := Try.checked) own started (by kernel_rfl) Try.func3
    (ChangeSpec.witness6 (enc := enc) (C := Try.checked) false ⟨#[], #[.agg #[.int .i64 0, .int .i64 0, .string ⟨#[]⟩], .int .i64 0], []⟩ 8 (by kernel_rfl) (by kernel_rfl) (by kernel_rfl) (by kernel_rfl)) ?_
  intro W base args ds gs before hval0 hW hcnd _
  have hval : ∀ (j : Nat) t v, Try.f3.params[j]? = some t → args[j]? = some v → Value.okWide Try.prog W .any base t v := hval0
  have hW' := hW
  obtain ⟨p, q, hA0, hV, rfl, hfz, hnd⟩ := hW
  have hA : DataW.TrodAll enc Try.prog W 0 (fun _ => true) true Try.f3.params.toList args.toList ds p := hA0
  rw [Try.params3] at hA hval
  obtain ⟨v0, vs0, d0, ds0, p0, q0, hargs, rfl, rfl, h0, r0⟩ := trodAll_cons hA
  obtain ⟨v1, vs1, d1, ds1, p1, q1, rfl, rfl, rfl, h1, r1⟩ := trodAll_cons r0
  obtain ⟨rfl, rfl, rfl⟩ := trodAll_nil r1
  obtain rfl : args = #[v0, v1] := by cases args; simp_all
  obtain ⟨rfl, rfl⟩ := trodVars_none hV
  have k0 := h0
  have lt0 : ∀ x ∈ p0, x.block < W.heap.size := by obtain ⟨m, hm⟩ := k0; exact DataW.trod_lt m _ _ _ hm
  obtain ⟨a0_0, a0_1, a0_2, rfl, w0_0, w0_1, w0_2⟩ := open23 (hval 0 23 v0 rfl rfl) h0
  have k1 := h1
  have lt1 : ∀ x ∈ p1, x.block < W.heap.size := by obtain ⟨m, hm⟩ := k1; exact DataW.trod_lt m _ _ _ hm
  obtain ⟨a1, rfl, rfl, rfl, w1⟩ := open_int Try.underlying3 (hval 1 3 v1 rfl rfl) h1
  clear hA0 hval0
  refine (walk a0_0 a0_1 a0_2 a1 w0_0 w0_1 w0_2 w1 W).mono fun e W' ⟨he, bel⟩ => ?_
  subst he
  exact ⟨_, rfl, _, _, _, [], _, [], hW', trodAll_mk1 (shut_bool Try.underlying4 _), (trodAll_cons_mk (Below.trod laidOut (by kernel_rfl) (of_decide_eq_true (by kernel_rfl)) k0 bel lt0) (trodAll_cons_mk (Below.trod laidOut (by kernel_rfl) (of_decide_eq_true (by kernel_rfl)) k1 bel lt1) trodAll_mk0)), rfl, bel.frame _, fun h => by cases h⟩

theorem over : Rows.valueChecksRow.holds Try.pinned (OpenSpec.ofChange Rows.valueChecksSpec) :=
  OpenClaim.holds_of_wide 3 Try.f3 rfl rfl rfl rfl rfl rfl rfl ⟨rfl, rfl, rfl, rfl, rfl⟩ rfl rfl rfl rfl rfl (by kernel_rfl) Try.func3 (by kernel_rfl)
    (of_decide_eq_true (by kernel_rfl)) (by unfold Func.isWrapper; first | (rw [if_pos (by decide +kernel)]; kernel_rfl) | (rw [if_neg (by decide +kernel)]; exact ⟨rfl, rfl⟩))
    (fun os started H enc _ => lifted os started H enc)

theorem proved : Rows.ValueChecksSaid := over
#print axioms proved
end Go.Proofs.Ytlcilibelbmeeaa.valueChecks
