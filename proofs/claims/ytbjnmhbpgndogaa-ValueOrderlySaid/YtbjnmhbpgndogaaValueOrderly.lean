/- What is proved: the Go law lychwaykeep.ValueOrderly returns true for all its arguments, and leaves them as they were. No condition. -/
import Derived.Test.YtbjnmhbpgndogaaRows
import Derived.Test.YtbjnmhbpgndogaaVoReg
import Derived.Test.YtbjnmhbpgndogaaValueCmp
import Derived.Test.YtbjnmhbpgndogaaKit
import Derived.Test.YtbjnmhbpgndogaaRawValue
import Derived.WalkKit
import Derived.ProofKit
import Derived.OpenShut
import Derived.Deep.RegionHeld3
import Derived.Deep.DrawnRows
import Derived.Deep.DeepCutAuto
import Derived.Deep.QuietTactic
import Derived.BigQuiet
import Derived.WalkSpells
import Derived.WalkLawsBesides
import Derived.Lib.Hide
import Derived.Outline
import Derived.ShutString
import Derived.ChangeOld
import Derived.Below
namespace Go.Proofs.Ytbjnmhbpgndogaa.valueOrderly
open NumM ValM Kit ValCmp RawV Within Vo RegI
open Go.ChangeShapes Go.WideShapes Go.ChangeAt Go.RowKit
open Go.ChangeMaps (open_string shut_string)
set_option linter.unusedVariables false

theorem own : ownKnob Try.prog.godebug = none := by kernel_rfl
theorem laidOut : laidOutB Try.prog = true := by kernel_rfl

theorem list4 {α : Type} {cs : List α} (h : cs.length = 4) : ∃ d0 d1 d2 d3, cs = [d0, d1, d2, d3] := by
  match cs, h with
  | [d0, d1, d2, d3], _ => exact ⟨d0, d1, d2, d3, rfl⟩
theorem row23 {H : Type} {enc : TypeId × Value → H} {W : World} {cs : List Value} {fuel : Nat} {y : DataW H × List MemPlace}
    (h : DataW.trod enc Try.prog W 0 (fun _ => true) true fuel 23 cs = some y) :
    ∃ (x0 : Int) (x1 : Int) (x2 : Int) (x3 : ByteArray), cs = [.int .i64 x0, .int .i64 x1, .int .i64 x2, .string x3] ∧ (Lit.int .i64 x0).wf = true ∧ (Lit.int .i64 x1).wf = true ∧ (Lit.int .i64 x2).wf = true ∧ x3.size ≤ maxLen := by
  obtain ⟨ys, n, hx, _, hl, hlen, hf⟩ := DataW.trod_struct Try.underlying23 h
  have hC : Try.prog.cellsOf 23 = 4 := by kernel_rfl
  rw [hC] at hl
  have g0 := hf 0 _ rfl
  have c0 : Try.prog.cellsOf 3 = 1 := by kernel_rfl
  have g1 := hf 1 _ rfl
  have c1 : Try.prog.cellsOf 3 = 1 := by kernel_rfl
  have g2 := hf 2 _ rfl
  have c2 : Try.prog.cellsOf 3 = 1 := by kernel_rfl
  have g3 := hf 3 _ rfl
  have c3 : Try.prog.cellsOf 9 = 1 := by kernel_rfl
  obtain ⟨d0, d1, d2, d3, rfl⟩ := list4 hl
  obtain ⟨y0, y1, y2, y3, rfl⟩ := list4 (show ys.length = 4 from hlen)
  simp [c0] at g0
  obtain ⟨x0, e0, _, f0⟩ := DataW.trod_int Try.underlying3 g0
  simp only [List.cons.injEq, and_true] at e0
  subst e0
  simp [c1] at g1
  obtain ⟨x1, e1, _, f1⟩ := DataW.trod_int Try.underlying3 g1
  simp only [List.cons.injEq, and_true] at e1
  subst e1
  simp [c2] at g2
  obtain ⟨x2, e2, _, f2⟩ := DataW.trod_int Try.underlying3 g2
  simp only [List.cons.injEq, and_true] at e2
  subst e2
  simp [c3] at g3
  obtain ⟨x3, e3, _, f3⟩ := DataW.trod_string Try.underlying9 g3
  simp only [List.cons.injEq, and_true] at e3
  subst e3
  exact ⟨x0, x1, x2, x3, rfl, f0, f1, f2, f3⟩
theorem open23 {H : Type} {enc : TypeId × Value → H} {W : World} {base : Nat} {v : Value} {d : DataW H} {p : List MemPlace}
    (hv : Value.okWide Try.prog W .any base 23 v) (h : DataW.Trod enc Try.prog W 0 (fun _ => true) true 23 v d p) :
    ∃ (x0 : Int) (x1 : Int) (x2 : Int) (x3 : ByteArray), v = .agg #[.int .i64 x0, .int .i64 x1, .int .i64 x2, .string x3] ∧ (Lit.int .i64 x0).wf = true ∧ (Lit.int .i64 x1).wf = true ∧ (Lit.int .i64 x2).wf = true ∧ x3.size ≤ maxLen := by
  obtain ⟨cs, rfl, hsz⟩ := okWide_struct Try.underlying23 hv
  obtain ⟨fuel, hf⟩ := h
  obtain ⟨x0, x1, x2, x3, e, f⟩ := row23 hf
  have e' : cs.toList = _ := e
  obtain rfl : cs = #[.int .i64 x0, .int .i64 x1, .int .i64 x2, .string x3] := by rw [← Array.toArray_toList (xs := cs), e']
  exact ⟨x0, x1, x2, x3, rfl, f⟩

/-! ### The walk -/
theorem ord_cases (k n m : Int) (s t : List UInt8) : ordV k n m s t = -1 ∨ ordV k n m s t = 0 ∨ ordV k n m s t = 1 := by
  unfold ordV
  by_cases h : k = 3
  · rw [if_pos h]; exact StrM.cmp_cases s t
  · rw [if_neg h]; rcases StrM.int_cases n m with ⟨_, h⟩ | ⟨_, h⟩ | ⟨_, h⟩ <;> omega
theorem ord_swap (k n m : Int) (s t : List UInt8) : ordV k m n t s = - ordV k n m s t := by
  unfold ordV
  by_cases h : k = 3
  · rw [if_pos h, if_pos h]; exact StrM.cmp_swap s t
  · rw [if_neg h, if_neg h]
    rcases StrM.int_cases n m with ⟨g, h⟩ | ⟨g, h⟩ | ⟨g, h⟩ <;> rcases StrM.int_cases m n with ⟨g', h'⟩ | ⟨g', h'⟩ | ⟨g', h'⟩ <;> omega
theorem ord_trans (k n m l : Int) (s t u : List UInt8) (h1 : ordV k n m s t ≤ 0) (h2 : ordV k m l t u ≤ 0) : ordV k n l s u ≤ 0 := by
  unfold ordV at *
  by_cases h : k = 3
  · rw [if_pos h] at *; exact StrM.cmp_trans s t u h1 h2
  · rw [if_neg h] at *
    rcases StrM.int_cases n m with ⟨g, e⟩ | ⟨g, e⟩ | ⟨g, e⟩ <;> rcases StrM.int_cases m l with ⟨g', e'⟩ | ⟨g', e'⟩ | ⟨g', e'⟩ <;> rcases StrM.int_cases n l with ⟨g2, e2⟩ | ⟨g2, e2⟩ | ⟨g2, e2⟩ <;> omega
theorem ord_zero (k n m : Int) (s t : ByteArray) (h1 : knownB k n s.data.toList = true) (h2 : knownB k m t.data.toList = true) :
    (ordV k n m s.data.toList t.data.toList = 0 ∧ n = m ∧ s = t) ∨ (ordV k n m s.data.toList t.data.toList ≠ 0 ∧ n ≠ m) ∨ (ordV k n m s.data.toList t.data.toList ≠ 0 ∧ n = m ∧ s.data.toList ≠ t.data.toList) := by
  by_cases h : k = 3
  · subst h
    obtain rfl := known_text h1
    obtain rfl := known_text h2
    have e : ordV 3 0 0 s.data.toList t.data.toList = Lib.compareBytes s.data.toList t.data.toList := by unfold ordV; rw [if_pos rfl]
    rw [e]
    by_cases g : s.data.toList = t.data.toList
    · exact .inl ⟨(StrM.cmp_zero _ _).2 g, rfl, WideShapes.bytes_inj g⟩
    · exact .inr (.inr ⟨fun h => g ((StrM.cmp_zero _ _).1 h), rfl, g⟩)
  · obtain rfl := known_plain h h1
    obtain rfl := known_plain h h2
    have e : ordV k n m (ByteArray.mk #[]).data.toList (ByteArray.mk #[]).data.toList = Lib.compareInt n m := by unfold ordV; rw [if_neg h]
    rw [e]
    rcases StrM.int_cases n m with ⟨g, e⟩ | ⟨g, e⟩ | ⟨g, e⟩
    · exact .inr (.inl ⟨by omega, by omega⟩)
    · exact .inl ⟨e, g, rfl⟩
    · exact .inr (.inl ⟨by omega, by omega⟩)
set_option maxRecDepth 100000 in
set_option maxHeartbeats 64000000 in
theorem walk (a0 : Int) (a1_0 : Int) (a1_1 : Int) (a1_2 : Int) (a1_3 : ByteArray) (a2_0 : Int) (a2_1 : Int) (a2_2 : Int) (a2_3 : ByteArray) (a3_0 : Int) (a3_1 : Int) (a3_2 : Int) (a3_3 : ByteArray) (w0 : (Lit.int .i64 a0).wf = true) (w1_0 : (Lit.int .i64 a1_0).wf = true) (w1_1 : (Lit.int .i64 a1_1).wf = true) (w1_2 : (Lit.int .i64 a1_2).wf = true) (w1_3 : a1_3.size ≤ maxLen) (w2_0 : (Lit.int .i64 a2_0).wf = true) (w2_1 : (Lit.int .i64 a2_1).wf = true) (w2_2 : (Lit.int .i64 a2_2).wf = true) (w2_3 : a2_3.size ≤ maxLen) (w3_0 : (Lit.int .i64 a3_0).wf = true) (w3_1 : (Lit.int .i64 a3_1).wf = true) (w3_2 : (Lit.int .i64 a3_2).wf = true) (w3_3 : a3_3.size ≤ maxLen) (w : World) :
    Calls Try.prog 3 #[.int .i64 a0, .agg #[.int .i64 a1_0, .int .i64 a1_1, .int .i64 a1_2, .string a1_3], .agg #[.int .i64 a2_0, .int .i64 a2_1, .int .i64 a2_2, .string a2_3], .agg #[.int .i64 a3_0, .int .i64 a3_1, .int .i64 a3_2, .string a3_3]] w fun e w' => e = .returned (.bool true) ∧ Below w.heap.size w w' := by
  obtain ⟨q, hq⟩ : ∃ q, pick a0 3 = q := ⟨_, rfl⟩
  have c0 := fun W => picked_any a0 3 W w0 (by omega) (by omega)
  have hb := pick_bd a0 3 (by omega)
  rw [hq] at c0 hb
  obtain ⟨hb1, hb2⟩ := hb
  have c1 := fun W => value_any (1 + q) a1_0 a1_1 a1_2 a1_3 W w1_0 w1_1 w1_3
  have c2 := fun W => value_any (1 + q) a2_0 a2_1 a2_2 a2_3 W w2_0 w2_1 w2_3
  have c3 := fun W => value_any (1 + q) a3_0 a3_1 a3_2 a3_3 W w3_0 w3_1 w3_3
  obtain ⟨k, n1, t1, n2, t2, n3, t3, e0, e1, e2, e3, e4, e5, e6⟩ : ∃ k n1 t1 n2 t2 n3 t3, vK (1 + q) = k ∧ vN (1 + q) a1_0 a1_1 = n1 ∧ vS (1 + q) a1_3 = t1 ∧ vN (1 + q) a2_0 a2_1 = n2 ∧ vS (1 + q) a2_3 = t2 ∧ vN (1 + q) a3_0 a3_1 = n3 ∧ vS (1 + q) a3_3 = t3 := ⟨_, _, _, _, _, _, _, rfl, rfl, rfl, rfl, rfl, rfl, rfl⟩
  rw [e0, e1, e2] at c1
  rw [e0, e3, e4] at c2
  rw [e0, e5, e6] at c3
  have C0 := Lib.hid c0
  have C1 := Lib.hid c1
  have C2 := Lib.hid c2
  have C3 := Lib.hid c3
  clear c0 c1 c2 c3 hq w0 w1_0 w1_1 w1_2 w1_3 w2_0 w2_1 w2_2 w2_3 w3_0 w3_1 w3_2 w3_3
  have E := Lib.hid (And.intro e0 (And.intro e1 (And.intro e2 (And.intro e3 (And.intro e4 (And.intro e5 e6))))))
  clear e0 e1 e2 e3 e4 e5 e6
  go_enter Try.func3, Try.ntmps3
  have z1 := ((RV.new w a1_0 a1_1 a1_2 a1_3).below (b_new _ (.cells #[.int .i64 a2_0, .int .i64 a2_1, .int .i64 a2_2, .string a2_3] 23))).below (b_new _ (.cells #[.int .i64 a3_0, .int .i64 a3_1, .int .i64 a3_2, .string a3_3] 23))
  have z2 := (RV.new (w.alloc (.cells #[.int .i64 a1_0, .int .i64 a1_1, .int .i64 a1_2, .string a1_3] 23)) a2_0 a2_1 a2_2 a2_3).below (b_new _ (.cells #[.int .i64 a3_0, .int .i64 a3_1, .int .i64 a3_2, .string a3_3] 23))
  have z3 := RV.new ((w.alloc (.cells #[.int .i64 a1_0, .int .i64 a1_1, .int .i64 a1_2, .string a1_3] 23)).alloc (.cells #[.int .i64 a2_0, .int .i64 a2_1, .int .i64 a2_2, .string a2_3] 23)) a3_0 a3_1 a3_2 a3_3
  simp only [World.size_alloc] at z2 z3
  have hbW := b_more (b_more (b_new w (.cells #[.int .i64 a1_0, .int .i64 a1_1, .int .i64 a1_2, .string a1_3] 23)) (.cells #[.int .i64 a2_0, .int .i64 a2_1, .int .i64 a2_2, .string a2_3] 23)) (.cells #[.int .i64 a3_0, .int .i64 a3_1, .int .i64 a3_2, .string a3_3] 23)
  obtain ⟨W, hW⟩ : ∃ W, ((w.alloc (.cells #[.int .i64 a1_0, .int .i64 a1_1, .int .i64 a1_2, .string a1_3] 23)).alloc (.cells #[.int .i64 a2_0, .int .i64 a2_1, .int .i64 a2_2, .string a2_3] 23)).alloc (.cells #[.int .i64 a3_0, .int .i64 a3_1, .int .i64 a3_2, .string a3_3] 23) = W := ⟨_, rfl⟩
  rw [hW] at z1 z2 z3 hbW
  have HW := Lib.hid hW
  have HBW := Lib.hid hbW
  clear hW
  go_upto_region 1 with fail
  rw [HW.out]
  go_wp2_with fail
  refine (C0.out _).mono ?_; rintro e w9 ⟨rfl, rfl⟩
  obtain ⟨B1, hB1⟩ : ∃ B, w.heap.size = B := ⟨_, rfl⟩
  obtain ⟨B2, hB2⟩ : ∃ B, w.heap.size + 1 = B := ⟨_, rfl⟩
  obtain ⟨B3, hB3⟩ : ∃ B, w.heap.size + 1 + 1 = B := ⟨_, rfl⟩
  rw [hB1] at z1
  rw [hB2] at z2
  rw [hB3] at z3
  have hcl : ∀ V, Below W.heap.size W V → V.cell? ⟨B1, 0, none⟩ = some (.int .i64 a1_0) ∧ V.cell? ⟨B1, 1, none⟩ = some (.int .i64 a1_1) ∧ V.cell? ⟨B1, 2, none⟩ = some (.int .i64 a1_2) ∧ V.cell? ⟨B1, 3, none⟩ = some (.string a1_3) ∧ V.cell? ⟨B2, 0, none⟩ = some (.int .i64 a2_0) ∧ V.cell? ⟨B2, 1, none⟩ = some (.int .i64 a2_1) ∧ V.cell? ⟨B2, 2, none⟩ = some (.int .i64 a2_2) ∧ V.cell? ⟨B2, 3, none⟩ = some (.string a2_3) ∧ V.cell? ⟨B3, 0, none⟩ = some (.int .i64 a3_0) ∧ V.cell? ⟨B3, 1, none⟩ = some (.int .i64 a3_1) ∧ V.cell? ⟨B3, 2, none⟩ = some (.int .i64 a3_2) ∧ V.cell? ⟨B3, 3, none⟩ = some (.string a3_3) := fun V hV => by
    obtain ⟨x0, x1, x2, x3⟩ := (z1.below hV).cells
    obtain ⟨x4, x5, x6, x7⟩ := (z2.below hV).cells
    obtain ⟨x8, x9, x10, x11⟩ := (z3.below hV).cells
    exact ⟨x0, x1, x2, x3, x4, x5, x6, x7, x8, x9, x10, x11⟩
  have HC := Lib.hid hcl
  have HBs := Lib.hid (And.intro hB1 (And.intro hB2 hB3))
  clear hcl z1 z2 z3 hbW hB1 hB2 hB3
  go_upto_region 2 with fail
  rw [HBs.out.2.2, HBs.out.2.1, HBs.out.1]
  go_cut [9, 10, 11] (fun s9 s10 s11 wx => ∃ G1 G2 G3 : Nat, s9 = .pointer (some ⟨G1, 0, none⟩) ∧ s10 = .pointer (some ⟨G2, 0, none⟩) ∧ s11 = .pointer (some ⟨G3, 0, none⟩) ∧ BV wx G1 k n1 t1 ∧ BV wx G2 k n2 t2 ∧ BV wx G3 k n3 t3 ∧ Below W.heap.size W wx)
  case first =>
    obtain ⟨T, t0, t1', t2', t3', t4, t5, t6, t7, t8⟩ : ∃ T : Nat → Value, T 0 = .int .i64 (1 + q) ∧ T 1 = .agg #[.int .i64 a1_0, .int .i64 a1_1, .int .i64 a1_2, .string a1_3] ∧ T 2 = .agg #[.int .i64 k, .int .i64 n1, .string t1] ∧
        T 3 = .int .i64 (1 + q) ∧ T 4 = .agg #[.int .i64 a2_0, .int .i64 a2_1, .int .i64 a2_2, .string a2_3] ∧ T 5 = .agg #[.int .i64 k, .int .i64 n2, .string t2] ∧
        T 6 = .int .i64 (1 + q) ∧ T 7 = .agg #[.int .i64 a3_0, .int .i64 a3_1, .int .i64 a3_2, .string a3_3] ∧ T 8 = .agg #[.int .i64 k, .int .i64 n3, .string t3] :=
      ⟨fun i => ([.int .i64 (1 + q), .agg #[.int .i64 a1_0, .int .i64 a1_1, .int .i64 a1_2, .string a1_3], .agg #[.int .i64 k, .int .i64 n1, .string t1], .int .i64 (1 + q), .agg #[.int .i64 a2_0, .int .i64 a2_1, .int .i64 a2_2, .string a2_3], .agg #[.int .i64 k, .int .i64 n2, .string t2], .int .i64 (1 + q), .agg #[.int .i64 a3_0, .int .i64 a3_1, .int .i64 a3_2, .string a3_3], .agg #[.int .i64 k, .int .i64 n3, .string t3]] : List Value).getD i undef, rfl, rfl, rfl, rfl, rfl, rfl, rfl, rfl, rfl⟩
    have hen : ∀ (args : Array Value) (w : World), (callFunc 5 args).run Try.prog w = .ok (.enter 5 args) w := fun _ _ => by kernel_rfl
    refine region_fill [(0, 25), (1, 26), (2, 27), (3, 28), (4, 29), (5, 30), (6, 31), (7, 32), (8, 33), (9, 9), (10, 10), (11, 11)] (J W T k n1 t1 n2 t2 n3 t3) (fun f => by simp only [fill, Act.put, List.setIfInBounds_toArray, List.set_cons_zero, List.set_cons_succ]; rfl) (by kernel_rfl) (by kernel_rfl) (by kernel_rfl) (fun f => j_start W _ f) ?_ ?_
    · intro F hF
      refine ⟨?_, ?_, ?_, ?_, ?_, ?_, ?_, ?_, ?_, ?_, ?_, ?_, ?_, ?_, ?_, trivial⟩
      · as_aux_lemma =>
        intro D f wx hJ hD hdep K hK
        exact stepF_val rfl (op_move rfl (v := .int .i64 (1 + q)) (by rw [hF]; kernel_rfl)) (by rw [hF, hF]; kernel_rfl) (hK (updf f 0 (.int .i64 (1 + q))) _ (j_is hJ 0 _ (by omega) t0 (Below.refl _ _)))
      · as_aux_lemma =>
        intro D f wx hJ hD hdep K hK
        obtain ⟨x0, x1, x2, x3, x4, x5, x6, x7, x8, x9, x10, x11⟩ := HC.out wx hJ.1
        have hl : (Instr.loadAt 23 (.pointer (some ⟨B1, 0, none⟩))).run Try.prog wx = .ok (.agg #[.int .i64 a1_0, .int .i64 a1_1, .int .i64 a1_2, .string a1_3]) wx := by simp [go_sem, x0, x1, x2, x3]
        exact stepF_val rfl (op_load rfl (p := .pointer (some ⟨B1, 0, none⟩)) (by rw [hF]; kernel_rfl) hl) (by rw [hF, hF]; kernel_rfl) (hK (updf f 1 (.agg #[.int .i64 a1_0, .int .i64 a1_1, .int .i64 a1_2, .string a1_3])) _ (j_is hJ 1 _ (by omega) t1' (Below.refl _ _)))
      · as_aux_lemma =>
        intro D f wx hJ hD hdep K hK
        have e0 := (tab hJ 0 (by omega) (dep hdep 0 (by kernel_rfl))).trans t0
        have e1 := (tab hJ 1 (by omega) (dep hdep 1 (by kernel_rfl))).trans t1'
        exact stepF_call rfl (op_enter rfl rfl (xs := #[.int .i64 (1 + q), .agg #[.int .i64 a1_0, .int .i64 a1_1, .int .i64 a1_2, .string a1_3]]) (by rw [hF, ← e0, ← e1]; kernel_rfl) hen) (C1.out _) (f' := updf f 2 (.agg #[.int .i64 k, .int .i64 n1, .string t1])) (by rw [hF, hF]; kernel_rfl) (fun w1 hbn => hK _ _ (j_is hJ 2 _ (by omega) t2' hbn))
      · as_aux_lemma =>
        intro D f wx hJ hD hdep K hK
        exact stepF_val rfl (op_move rfl (v := .int .i64 (1 + q)) (by rw [hF]; kernel_rfl)) (by rw [hF, hF]; kernel_rfl) (hK (updf f 3 (.int .i64 (1 + q))) _ (j_is hJ 3 _ (by omega) t3' (Below.refl _ _)))
      · as_aux_lemma =>
        intro D f wx hJ hD hdep K hK
        obtain ⟨x0, x1, x2, x3, x4, x5, x6, x7, x8, x9, x10, x11⟩ := HC.out wx hJ.1
        have hl : (Instr.loadAt 23 (.pointer (some ⟨B2, 0, none⟩))).run Try.prog wx = .ok (.agg #[.int .i64 a2_0, .int .i64 a2_1, .int .i64 a2_2, .string a2_3]) wx := by simp [go_sem, x4, x5, x6, x7]
        exact stepF_val rfl (op_load rfl (p := .pointer (some ⟨B2, 0, none⟩)) (by rw [hF]; kernel_rfl) hl) (by rw [hF, hF]; kernel_rfl) (hK (updf f 4 (.agg #[.int .i64 a2_0, .int .i64 a2_1, .int .i64 a2_2, .string a2_3])) _ (j_is hJ 4 _ (by omega) t4 (Below.refl _ _)))
      · as_aux_lemma =>
        intro D f wx hJ hD hdep K hK
        have e0 := (tab hJ 3 (by omega) (dep hdep 3 (by kernel_rfl))).trans t3'
        have e1 := (tab hJ 4 (by omega) (dep hdep 4 (by kernel_rfl))).trans t4
        exact stepF_call rfl (op_enter rfl rfl (xs := #[.int .i64 (1 + q), .agg #[.int .i64 a2_0, .int .i64 a2_1, .int .i64 a2_2, .string a2_3]]) (by rw [hF, ← e0, ← e1]; kernel_rfl) hen) (C2.out _) (f' := updf f 5 (.agg #[.int .i64 k, .int .i64 n2, .string t2])) (by rw [hF, hF]; kernel_rfl) (fun w1 hbn => hK _ _ (j_is hJ 5 _ (by omega) t5 hbn))
      · as_aux_lemma =>
        intro D f wx hJ hD hdep K hK
        exact stepF_val rfl (op_move rfl (v := .int .i64 (1 + q)) (by rw [hF]; kernel_rfl)) (by rw [hF, hF]; kernel_rfl) (hK (updf f 6 (.int .i64 (1 + q))) _ (j_is hJ 6 _ (by omega) t6 (Below.refl _ _)))
      · as_aux_lemma =>
        intro D f wx hJ hD hdep K hK
        obtain ⟨x0, x1, x2, x3, x4, x5, x6, x7, x8, x9, x10, x11⟩ := HC.out wx hJ.1
        have hl : (Instr.loadAt 23 (.pointer (some ⟨B3, 0, none⟩))).run Try.prog wx = .ok (.agg #[.int .i64 a3_0, .int .i64 a3_1, .int .i64 a3_2, .string a3_3]) wx := by simp [go_sem, x8, x9, x10, x11]
        exact stepF_val rfl (op_load rfl (p := .pointer (some ⟨B3, 0, none⟩)) (by rw [hF]; kernel_rfl) hl) (by rw [hF, hF]; kernel_rfl) (hK (updf f 7 (.agg #[.int .i64 a3_0, .int .i64 a3_1, .int .i64 a3_2, .string a3_3])) _ (j_is hJ 7 _ (by omega) t7 (Below.refl _ _)))
      · as_aux_lemma =>
        intro D f wx hJ hD hdep K hK
        have e0 := (tab hJ 6 (by omega) (dep hdep 6 (by kernel_rfl))).trans t6
        have e1 := (tab hJ 7 (by omega) (dep hdep 7 (by kernel_rfl))).trans t7
        exact stepF_call rfl (op_enter rfl rfl (xs := #[.int .i64 (1 + q), .agg #[.int .i64 a3_0, .int .i64 a3_1, .int .i64 a3_2, .string a3_3]]) (by rw [hF, ← e0, ← e1]; kernel_rfl) hen) (C3.out _) (f' := updf f 8 (.agg #[.int .i64 k, .int .i64 n3, .string t3])) (by rw [hF, hF]; kernel_rfl) (fun w1 hbn => hK _ _ (j_is hJ 8 _ (by omega) t8 hbn))
      · as_aux_lemma =>
        intro D f wx hJ hD hdep K hK
        exact stepF_val rfl (v := .pointer (some ⟨wx.heap.size, 0, none⟩)) (run_allocV rfl) (by rw [hF, hF]; kernel_rfl) (hK (updf f 9 (.pointer (some ⟨wx.heap.size, 0, none⟩))) _ (j_new1 hJ hD (BV.new wx 0 0 ⟨#[]⟩) rfl (b_new _ _)))
      · as_aux_lemma =>
        intro D f wx hJ hD hdep K hK
        exact stepF_val rfl (v := .pointer (some ⟨wx.heap.size, 0, none⟩)) (run_allocV rfl) (by rw [hF, hF]; kernel_rfl) (hK (updf f 10 (.pointer (some ⟨wx.heap.size, 0, none⟩))) _ (j_new2 hJ hD (BV.new wx 0 0 ⟨#[]⟩) rfl (b_new _ _)))
      · as_aux_lemma =>
        intro D f wx hJ hD hdep K hK
        exact stepF_val rfl (v := .pointer (some ⟨wx.heap.size, 0, none⟩)) (run_allocV rfl) (by rw [hF, hF]; kernel_rfl) (hK (updf f 11 (.pointer (some ⟨wx.heap.size, 0, none⟩))) _ (j_new3 hJ hD (BV.new wx 0 0 ⟨#[]⟩) rfl (b_new _ _)))
      · as_aux_lemma =>
        intro D f wx hJ hD hdep K hK
        obtain ⟨G, eg, ⟨k0, n0, u0, hB0⟩, hst⟩ := j_sto1 hJ (dep hdep 9 (by kernel_rfl))
        have ev := (tab hJ 2 (by omega) (dep hdep 2 (by kernel_rfl))).trans t2'
        obtain ⟨Y, hr, hB, hk, hb⟩ := store_V wx G k n1 t1 k0 n0 u0 hB0
        exact stepF_skip rfl rfl (op_store rfl (p := .pointer (some ⟨G, 0, none⟩)) (v := .agg #[.int .i64 k, .int .i64 n1, .string t1]) (by rw [hF, ← eg]; kernel_rfl) (by rw [hF, ← ev]; kernel_rfl) hr) (hK f _ (hst Y hB hk hb))
      · as_aux_lemma =>
        intro D f wx hJ hD hdep K hK
        obtain ⟨G, eg, ⟨k0, n0, u0, hB0⟩, hst⟩ := j_sto2 hJ (dep hdep 10 (by kernel_rfl))
        have ev := (tab hJ 5 (by omega) (dep hdep 5 (by kernel_rfl))).trans t5
        obtain ⟨Y, hr, hB, hk, hb⟩ := store_V wx G k n2 t2 k0 n0 u0 hB0
        exact stepF_skip rfl rfl (op_store rfl (p := .pointer (some ⟨G, 0, none⟩)) (v := .agg #[.int .i64 k, .int .i64 n2, .string t2]) (by rw [hF, ← eg]; kernel_rfl) (by rw [hF, ← ev]; kernel_rfl) hr) (hK f _ (hst Y hB hk hb))
      · as_aux_lemma =>
        intro D f wx hJ hD hdep K hK
        obtain ⟨G, eg, ⟨k0, n0, u0, hB0⟩, hst⟩ := j_sto3 hJ (dep hdep 11 (by kernel_rfl))
        have ev := (tab hJ 8 (by omega) (dep hdep 8 (by kernel_rfl))).trans t8
        obtain ⟨Y, hr, hB, hk, hb⟩ := store_V wx G k n3 t3 k0 n0 u0 hB0
        exact stepF_skip rfl rfl (op_store rfl (p := .pointer (some ⟨G, 0, none⟩)) (v := .agg #[.int .i64 k, .int .i64 n3, .string t3]) (by rw [hF, ← eg]; kernel_rfl) (by rw [hF, ← ev]; kernel_rfl) hr) (hK f _ (hst Y hB hk hb))
    · intro D f wx hJ hall
      obtain ⟨G1, G2, G3, e9, e10, e11, b1, b2, b3, hb⟩ := j_end hJ (fun i hi => hall i hi)
      simp only [e9, e10, e11]
      go_wp2_with fail
      go_meet
      exact ⟨G1, G2, G3, rfl, rfl, rfl, b1, b2, b3, hb⟩
  case rest =>
      obtain ⟨G1, G2, G3, rfl, rfl, rfl, v1, v2, v3, hbw⟩ := hcut
      obtain ⟨p10, p11, p12⟩ := v1.cells
      obtain ⟨p20, p21, p22⟩ := v2.cells
      obtain ⟨p30, p31, p32⟩ := v3.cells
      have g1 := v1.lt
      have g2 := v2.lt
      have g3 := v3.lt
      have hbl := HBW.out
      obtain ⟨e0, e1, e2, e3, e4, e5, e6⟩ := E.out
      have hk1 := v_known (1 + q) a1_0 a1_1 a1_3
      have hk2 := v_known (1 + q) a2_0 a2_1 a2_3
      have hk3 := v_known (1 + q) a3_0 a3_1 a3_3
      rw [e0, e1, e2] at hk1
      rw [e0, e3, e4] at hk2
      rw [e0, e5, e6] at hk3
      have hbb := Lib.hid (b_trans hbl hbw)
      clear E e0 e1 e2 e3 e4 e5 e6 C0 C1 C2 C3 hbl hbw hb1 hb2 v1 v2 v3 HC
      have k12 := fun W => compare_good k n1 n2 t1 t2 W hk1 hk2
      have k21 := fun W => compare_good k n2 n1 t2 t1 W hk2 hk1
      have k23 := fun W => compare_good k n2 n3 t2 t3 W hk2 hk3
      have k13 := fun W => compare_good k n1 n3 t1 t3 W hk1 hk3
      have k00 : ∀ W : World, Calls Try.prog 6 #[.agg #[.int .i64 1, .int .i64 1, .string ⟨#[]⟩], .agg #[.int .i64 1, .int .i64 2, .string ⟨#[]⟩]] W fun e w' => e = .returned (.tuple #[.int .i64 (-1), .int .i64 0]) ∧ Below W.heap.size W w' := fun W => compare_good 1 1 2 ⟨#[]⟩ ⟨#[]⟩ W (by decide) (by decide)
      rw [ord_swap k n1 n2 t1.data.toList t2.data.toList] at k21
      have htr := ord_trans k n1 n2 n3 t1.data.toList t2.data.toList t3.data.toList
      have hz := ord_zero k n1 n2 t1 t2 hk1 hk2
      have hx3 := ord_cases k n1 n2 t1.data.toList t2.data.toList
      obtain ⟨x, hx⟩ : ∃ x, ordV k n1 n2 t1.data.toList t2.data.toList = x := ⟨_, rfl⟩
      obtain ⟨z, hzz⟩ : ∃ z, ordV k n2 n3 t2.data.toList t3.data.toList = z := ⟨_, rfl⟩
      obtain ⟨v, hvv⟩ : ∃ v, ordV k n1 n3 t1.data.toList t3.data.toList = v := ⟨_, rfl⟩
      rw [hx] at k12 k21 htr hz hx3
      rw [hzz] at k23 htr
      rw [hvv] at k13 htr
      have K12 := Lib.hid k12
      have K21 := Lib.hid k21
      have K23 := Lib.hid k23
      have K13 := Lib.hid k13
      have K00 := Lib.hid k00
      have hx1 : -1 ≤ x := by omega
      have hx2 : x ≤ 1 := by omega
      have hfin : 0 < x ∨ (x ≤ 0 ∧ 0 < z) ∨ (x ≤ 0 ∧ z ≤ 0 ∧ v ≤ 0) := by
        by_cases a : 0 < x
        · exact .inl a
        · by_cases b : 0 < z
          · exact .inr (.inl ⟨by omega, b⟩)
          · exact .inr (.inr ⟨by omega, by omega, htr (by omega) (by omega)⟩)
      have hcase : ((x == 0) = true ∧ n1 = n2 ∧ t1 = t2) ∨ ((x == 0) = false ∧ (n1 == n2) = false) ∨ ((x == 0) = false ∧ n1 = n2 ∧ (t1.toList == t2.toList) = false) := by
        rcases hz with ⟨a, b, c⟩ | ⟨a, b⟩ | ⟨a, b, c⟩
        · exact .inl ⟨beq_iff_eq.2 a, b, c⟩
        · exact .inr (.inl ⟨beq_eq_false_iff_ne.2 a, beq_eq_false_iff_ne.2 b⟩)
        · refine .inr (.inr ⟨beq_eq_false_iff_ne.2 a, b, ?_⟩)
          rw [ByteArray.toList_eq, ByteArray.toList_eq]; exact beq_eq_false_iff_ne.2 c
      clear k12 k21 k23 k13 k00 hk1 hk2 hk3 htr hz hx3 hx hzz hvv
      go_wp2_with fail
      refine (K12.out _).mono ?_; rintro e w1 ⟨rfl, b1⟩
      obtain ⟨p10, p11, p12, g1⟩ := box3 G1 k n1 t1 b1 g1 p10 p11 p12
      obtain ⟨p20, p21, p22, g2⟩ := box3 G2 k n2 t2 b1 g2 p20 p21 p22
      obtain ⟨p30, p31, p32, g3⟩ := box3 G3 k n3 t3 b1 g3 p30 p31 p32
      have hbb1 := Lib.hid (b_trans hbb.out b1)
      clear b1
      go_wp2_with fail
      refine (K21.out _).mono ?_; rintro e w2 ⟨rfl, b1⟩
      obtain ⟨p10, p11, p12, g1⟩ := box3 G1 k n1 t1 b1 g1 p10 p11 p12
      obtain ⟨p20, p21, p22, g2⟩ := box3 G2 k n2 t2 b1 g2 p20 p21 p22
      obtain ⟨p30, p31, p32, g3⟩ := box3 G3 k n3 t3 b1 g3 p30 p31 p32
      have hbb2 := Lib.hid (b_trans hbb1.out b1)
      clear b1
      go_wp2_with fail
      refine (K23.out _).mono ?_; rintro e w3 ⟨rfl, b1⟩
      obtain ⟨p10, p11, p12, g1⟩ := box3 G1 k n1 t1 b1 g1 p10 p11 p12
      obtain ⟨p20, p21, p22, g2⟩ := box3 G2 k n2 t2 b1 g2 p20 p21 p22
      obtain ⟨p30, p31, p32, g3⟩ := box3 G3 k n3 t3 b1 g3 p30 p31 p32
      have hbb3 := Lib.hid (b_trans hbb2.out b1)
      clear b1
      go_wp2_with fail
      refine (K13.out _).mono ?_; rintro e w4 ⟨rfl, b1⟩
      obtain ⟨p10, p11, p12, g1⟩ := box3 G1 k n1 t1 b1 g1 p10 p11 p12
      obtain ⟨p20, p21, p22, g2⟩ := box3 G2 k n2 t2 b1 g2 p20 p21 p22
      have hbb4 := Lib.hid (b_trans hbb3.out b1)
      clear b1
      go_wp2_with fail
      refine (K00.out _).mono ?_; rintro e w5 ⟨rfl, b1⟩
      obtain ⟨p10, p11, p12, g1⟩ := box3 G1 k n1 t1 b1 g1 p10 p11 p12
      obtain ⟨p20, p21, p22, g2⟩ := box3 G2 k n2 t2 b1 g2 p20 p21 p22
      have hbb5 := Lib.hid (b_trans hbb4.out b1)
      clear b1
      rcases hcase with ⟨x1, rfl, rfl⟩ | ⟨x1, x2⟩ | ⟨x1, rfl, x2⟩
      all_goals
        rcases hfin with f1 | ⟨f1, f2⟩ | ⟨f1, f2, f3⟩
        all_goals
          go_wp2_with fail
          go_ret
          exact ⟨rfl, hbb5.out⟩

/-! ### The row's step -/
set_option maxRecDepth 100000 in
theorem lifted (os : Os) (started : os.Started) (H : Type) (enc : TypeId × Value → H) :
    ReturnsInHanded {} Try.checked os 3 .any (Rows.valueOrderlySpec.pre6 enc Try.prog Try.f3 Rows.valueOrderlyRow.domain false) (Rows.valueOrderlySpec.post enc Try.prog Try.f3 false true false false) := by
  refine returnsInHanded_of_change (C := Try.checked) own started (by kernel_rfl) Try.func3
    (ChangeSpec.witness6 (enc := enc) (C := Try.checked) false ⟨#[], #[.int .i64 0, .agg #[.int .i64 0, .int .i64 0, .int .i64 0, .string ⟨#[]⟩], .agg #[.int .i64 0, .int .i64 0, .int .i64 0, .string ⟨#[]⟩], .agg #[.int .i64 0, .int .i64 0, .int .i64 0, .string ⟨#[]⟩]], []⟩ 8 (by kernel_rfl) (by kernel_rfl) (by kernel_rfl) (by kernel_rfl)) ?_
  intro W base args ds gs before hval0 hW hcnd _
  have hval : ∀ (j : Nat) t v, Try.f3.params[j]? = some t → args[j]? = some v → Value.okWide Try.prog W .any base t v := hval0
  have hW' := hW
  obtain ⟨p, q, hA0, hV, rfl, hfz, hnd⟩ := hW
  have hA : DataW.TrodAll enc Try.prog W 0 (fun _ => true) true Try.f3.params.toList args.toList ds p := hA0
  rw [Try.params3] at hA hval
  obtain ⟨v0, vs0, d0, ds0, p0, q0, hargs, rfl, rfl, h0, r0⟩ := trodAll_cons hA
  obtain ⟨v1, vs1, d1, ds1, p1, q1, rfl, rfl, rfl, h1, r1⟩ := trodAll_cons r0
  obtain ⟨v2, vs2, d2, ds2, p2, q2, rfl, rfl, rfl, h2, r2⟩ := trodAll_cons r1
  obtain ⟨v3, vs3, d3, ds3, p3, q3, rfl, rfl, rfl, h3, r3⟩ := trodAll_cons r2
  obtain ⟨rfl, rfl, rfl⟩ := trodAll_nil r3
  obtain rfl : args = #[v0, v1, v2, v3] := by cases args; simp_all
  obtain ⟨rfl, rfl⟩ := trodVars_none hV
  have k0 := h0
  have lt0 : ∀ x ∈ p0, x.block < W.heap.size := by obtain ⟨m, hm⟩ := k0; exact DataW.trod_lt m _ _ _ hm
  obtain ⟨a0, rfl, rfl, rfl, w0⟩ := open_int Try.underlying3 (hval 0 3 v0 rfl rfl) h0
  have k1 := h1
  have lt1 : ∀ x ∈ p1, x.block < W.heap.size := by obtain ⟨m, hm⟩ := k1; exact DataW.trod_lt m _ _ _ hm
  obtain ⟨a1_0, a1_1, a1_2, a1_3, rfl, w1_0, w1_1, w1_2, w1_3⟩ := open23 (hval 1 23 v1 rfl rfl) h1
  have k2 := h2
  have lt2 : ∀ x ∈ p2, x.block < W.heap.size := by obtain ⟨m, hm⟩ := k2; exact DataW.trod_lt m _ _ _ hm
  obtain ⟨a2_0, a2_1, a2_2, a2_3, rfl, w2_0, w2_1, w2_2, w2_3⟩ := open23 (hval 2 23 v2 rfl rfl) h2
  have k3 := h3
  have lt3 : ∀ x ∈ p3, x.block < W.heap.size := by obtain ⟨m, hm⟩ := k3; exact DataW.trod_lt m _ _ _ hm
  obtain ⟨a3_0, a3_1, a3_2, a3_3, rfl, w3_0, w3_1, w3_2, w3_3⟩ := open23 (hval 3 23 v3 rfl rfl) h3
  clear hA0 hval0
  refine (walk a0 a1_0 a1_1 a1_2 a1_3 a2_0 a2_1 a2_2 a2_3 a3_0 a3_1 a3_2 a3_3 w0 w1_0 w1_1 w1_2 w1_3 w2_0 w2_1 w2_2 w2_3 w3_0 w3_1 w3_2 w3_3 W).mono fun e W' ⟨he, bel⟩ => ?_
  subst he
  exact ⟨_, rfl, _, _, _, [], _, [], hW', trodAll_mk1 (shut_bool Try.underlying4 _), (trodAll_cons_mk (Below.trod laidOut (by kernel_rfl) (of_decide_eq_true (by kernel_rfl)) k0 bel lt0) (trodAll_cons_mk (Below.trod laidOut (by kernel_rfl) (of_decide_eq_true (by kernel_rfl)) k1 bel lt1) (trodAll_cons_mk (Below.trod laidOut (by kernel_rfl) (of_decide_eq_true (by kernel_rfl)) k2 bel lt2) (trodAll_cons_mk (Below.trod laidOut (by kernel_rfl) (of_decide_eq_true (by kernel_rfl)) k3 bel lt3) trodAll_mk0)))), rfl, bel.frame _, fun h => by cases h⟩

theorem over : Rows.valueOrderlyRow.holds Try.pinned (OpenSpec.ofChange Rows.valueOrderlySpec) :=
  OpenClaim.holds_of_wide 3 Try.f3 rfl rfl rfl rfl rfl rfl rfl ⟨rfl, rfl, rfl, rfl, rfl⟩ rfl rfl rfl rfl rfl (by kernel_rfl) Try.func3 (by kernel_rfl)
    (of_decide_eq_true (by kernel_rfl)) (by unfold Func.isWrapper; first | (rw [if_pos (by decide +kernel)]; kernel_rfl) | (rw [if_neg (by decide +kernel)]; exact ⟨rfl, rfl⟩))
    (fun os started H enc _ => lifted os started H enc)

theorem proved : Rows.ValueOrderlySaid := over
#print axioms proved
end Go.Proofs.Ytbjnmhbpgndogaa.valueOrderly
