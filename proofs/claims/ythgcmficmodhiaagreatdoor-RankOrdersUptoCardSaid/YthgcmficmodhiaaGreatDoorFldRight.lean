/- Package field: whether a field may be by itself; the reference's. -/
import Derived.Test.YthgcmficmodhiaaGreatDoorFld
import Derived.Test.YthgcmficmodhiaaGreatDoorExCheck
import Derived.Test.YthgcmficmodhiaaGreatDoorExRef
import Derived.Test.YthgcmficmodhiaaGreatDoorLexBytes
import Derived.Test.YthgcmficmodhiaaGreatDoorValue
namespace Go.Proofs.YthgcmficmodhiaaGreatDoor.FldR
open Go.RowKit
open ValM LexM NumM ExM Kit ExL ExN ExC RawV Within RawL GenL FldP
set_option linter.unusedVariables false

/-- No formula. -/
def bareB (d : Nd) (n : Nat) : Bool := decide (d.op = 0) && decide (d.k = 0) && decide (d.n = 0) && decide (d.s = ⟨#[]⟩) && decide (d.nm = ⟨#[]⟩) && decide (n = 0)
/-- P9.2. -/
def rightE (f : GenL.Fd) (x : Ex) : Int :=
  if LexB.nameE f.nm.data.toList ≠ 0 then LexB.nameE f.nm.data.toList
  else if isT f.kind = true ∧ isT f.ty = true then (if f.kind = 1 then (if bareB f.d f.n = true then 0 else 3) else x.checkE)
  else 2
theorem isT_iff {k : Int} : isT k = true ↔ 1 ≤ k ∧ k ≤ 3 := by unfold isT; simp; omega
theorem empty_t {s : ByteArray} (h : s = ⟨#[]⟩) : s.toList.isEmpty = true := by rw [h, ByteArray.toList_eq]; rfl
theorem empty_n {s : ByteArray} (h : s ≠ ⟨#[]⟩) : s.toList.isEmpty = false := by
  cases hs : s.toList with
  | nil =>
    exfalso
    apply h
    rw [ByteArray.toList_eq] at hs
    exact ByteArray.ext (Array.ext' hs)
  | cons a l => rfl
set_option maxHeartbeats 1000000 in
theorem isKind_any (k : Int) (w : World) : Calls Tryz.prog 46 #[.int .i64 k] w fun e w' => e = .returned (.bool (isT k)) ∧ w = w' := by
  by_cases h1 : k = 1
  · subst h1
    go_enter Tryz.func46, Tryz.ntmps46
    go_wp2
    go_ret
    exact ⟨rfl, rfl⟩
  · by_cases h2 : k = 2
    · subst h2
      go_enter Tryz.func46, Tryz.ntmps46
      go_wp2
      go_ret
      exact ⟨rfl, rfl⟩
    · by_cases h3 : k = 3
      · subst h3
        go_enter Tryz.func46, Tryz.ntmps46
        go_wp2
        go_ret
        exact ⟨rfl, rfl⟩
      · have e : isT k = false := by unfold isT; simp [h1, h2, h3]
        rw [e]
        have t1 : (k == 1) = false := beq_eq_false_iff_ne.2 h1
        have t2 : (k == 2) = false := beq_eq_false_iff_ne.2 h2
        have t3 : (k == 3) = false := beq_eq_false_iff_ne.2 h3
        clear e h1 h2 h3
        go_enter Tryz.func46, Tryz.ntmps46
        go_wp2
        go_ret
        exact ⟨rfl, rfl⟩
set_option maxHeartbeats 2000000 in
theorem isAbsent_any (d : Nd) (A : Option Addr) (n c : Nat) (w : World) : Calls Tryz.prog 49 #[.agg #[.int .i64 d.op, .int .i64 d.k, .int .i64 d.n, .string d.s, .string d.nm, .slice A n c]] w fun e w' => e = .returned (.bool (bareB d n)) ∧ Below w.heap.size w w' := by
  obtain ⟨b, hb⟩ : ∃ b, bareB d n = b := ⟨_, rfl⟩
  rw [hb]
  unfold bareB at hb
  by_cases h1 : d.op = 0
  · have t1 : (d.op == 0) = true := beq_iff_eq.2 h1
    rw [decide_eq_true h1, Bool.true_and] at hb
    clear h1
    by_cases h2 : d.k = 0 ∧ d.n = 0 ∧ d.s = ⟨#[]⟩
    · obtain ⟨h2, h3, h4⟩ := h2
      have t2 : (d.k == 0) = true := beq_iff_eq.2 h2
      have t3 : (d.n == 0) = true := beq_iff_eq.2 h3
      have t4 := empty_t h4
      rw [decide_eq_true h2, decide_eq_true h3, decide_eq_true h4, Bool.true_and, Bool.true_and, Bool.true_and] at hb
      clear h2 h3 h4
      by_cases h5 : d.nm = ⟨#[]⟩
      · have t5 := empty_t h5
        rw [decide_eq_true h5, Bool.true_and] at hb
        clear h5
        have t6 : ((n : Int) == 0) = b := by
          rw [← hb]
          by_cases h6 : n = 0
          · subst h6; rfl
          · rw [decide_eq_false h6]; exact beq_eq_false_iff_ne.2 (by omega)
        clear hb
        cases b
        all_goals
          go_enter Tryz.func49, Tryz.ntmps49
          go_wp2
          go_ret
          exact ⟨rfl, b_new _ _⟩
      · have t5 := empty_n h5
        rw [decide_eq_false h5, Bool.false_and] at hb
        subst hb
        clear h5
        go_enter Tryz.func49, Tryz.ntmps49
        go_wp2
        go_ret
        exact ⟨rfl, b_new _ _⟩
    · have e : b = false := by
        rw [← hb]
        cases e1 : decide (d.k = 0) <;> cases e2 : decide (d.n = 0) <;> cases e3 : decide (d.s = ⟨#[]⟩) <;> simp_all
      subst e
      clear hb
      by_cases g2 : d.k = 0
      · have t2 : (d.k == 0) = true := beq_iff_eq.2 g2
        by_cases g3 : d.n = 0
        · have t3 : (d.n == 0) = true := beq_iff_eq.2 g3
          have t4 := empty_n fun g4 => h2 ⟨g2, g3, g4⟩
          clear h2 g2 g3
          go_enter Tryz.func49, Tryz.ntmps49
          go_wp2
          go_ret
          exact ⟨rfl, b_new _ _⟩
        · have t3 : (d.n == 0) = false := beq_eq_false_iff_ne.2 g3
          clear h2 g2 g3
          go_enter Tryz.func49, Tryz.ntmps49
          go_wp2
          go_ret
          exact ⟨rfl, b_new _ _⟩
      · have t2 : (d.k == 0) = false := beq_eq_false_iff_ne.2 g2
        clear h2 g2
        go_enter Tryz.func49, Tryz.ntmps49
        go_wp2
        go_ret
        exact ⟨rfl, b_new _ _⟩
  · have t1 : (d.op == 0) = false := beq_eq_false_iff_ne.2 h1
    rw [decide_eq_false h1] at hb
    simp only [Bool.false_and] at hb
    subst hb
    clear h1
    go_enter Tryz.func49, Tryz.ntmps49
    go_wp2
    go_ret
    exact ⟨rfl, b_new _ _⟩

def rightHead (w : World) (f : GenL.Fd) : World := w.alloc (.cells #[.string f.nm, .int .i64 f.kind, .int .i64 f.ty, .int .i64 f.d.op, .int .i64 f.d.k, .int .i64 f.d.n, .string f.d.s, .string f.d.nm, .slice f.A f.n f.c] 48)
theorem head_cells (w : World) (f : GenL.Fd) (V : World) (hV : Below (rightHead w f).heap.size (rightHead w f) V) : V.cell? ⟨w.heap.size, 0, none⟩ = some (.string f.nm) ∧ V.cell? ⟨w.heap.size, 1, none⟩ = some (.int .i64 f.kind) ∧ V.cell? ⟨w.heap.size, 2, none⟩ = some (.int .i64 f.ty) ∧ V.cell? ⟨w.heap.size, 3, none⟩ = some (.int .i64 f.d.op) ∧ V.cell? ⟨w.heap.size, 4, none⟩ = some (.int .i64 f.d.k) ∧ V.cell? ⟨w.heap.size, 5, none⟩ = some (.int .i64 f.d.n) ∧ V.cell? ⟨w.heap.size, 6, none⟩ = some (.string f.d.s) ∧ V.cell? ⟨w.heap.size, 7, none⟩ = some (.string f.d.nm) ∧ V.cell? ⟨w.heap.size, 8, none⟩ = some (.slice f.A f.n f.c) := by
  have e1 : V.heap[w.heap.size]? = _ := (hV.block _ (by show _ < (w.alloc _).heap.size; simp)).trans (World.alloc_heap_new w (.cells #[.string f.nm, .int .i64 f.kind, .int .i64 f.ty, .int .i64 f.d.op, .int .i64 f.d.k, .int .i64 f.d.n, .string f.d.s, .string f.d.nm, .slice f.A f.n f.c] 48))
  exact ⟨by simp [World.cell?, e1], by simp [World.cell?, e1], by simp [World.cell?, e1], by simp [World.cell?, e1], by simp [World.cell?, e1], by simp [World.cell?, e1], by simp [World.cell?, e1], by simp [World.cell?, e1], by simp [World.cell?, e1]⟩
set_option maxHeartbeats 4000000 in
theorem right_any (f : GenL.Fd) (x : Ex) (w : World) (hs : f.nm.size ≤ maxLen) (his : Is w x f.d f.A f.n) (hT : Tab w) :
    Calls Tryz.prog 30 #[.agg #[.string f.nm, .int .i64 f.kind, .int .i64 f.ty, .int .i64 f.d.op, .int .i64 f.d.k, .int .i64 f.d.n, .string f.d.s, .string f.d.nm, .slice f.A f.n f.c]] w fun e w' => e = .returned (.int .i64 (rightE f x)) ∧ Below w.heap.size w w' := by
  obtain ⟨R, hR⟩ : ∃ R, rightE f x = R := ⟨_, rfl⟩
  rw [hR]
  obtain ⟨W, hW⟩ : ∃ W, w.alloc (.cells #[.string f.nm, .int .i64 f.kind, .int .i64 f.ty, .int .i64 f.d.op, .int .i64 f.d.k, .int .i64 f.d.n, .string f.d.s, .string f.d.nm, .slice f.A f.n f.c] 48) = W := ⟨_, rfl⟩
  have hb0 := b_new w (.cells #[.string f.nm, .int .i64 f.kind, .int .i64 f.ty, .int .i64 f.d.op, .int .i64 f.d.k, .int .i64 f.d.n, .string f.d.s, .string f.d.nm, .slice f.A f.n f.c] 48)
  have hcell := head_cells w f
  unfold rightHead at hcell
  rw [hW] at hb0 hcell
  have hnm := fun V => LexB.name_any f.nm V hs
  have hck : ∀ V : World, Below W.heap.size W V → Calls Tryz.prog 48 #[.agg #[.int .i64 f.d.op, .int .i64 f.d.k, .int .i64 f.d.n, .string f.d.s, .string f.d.nm, .slice f.A f.n f.c]] V fun e w' => e = .returned (.int .i64 x.checkE) ∧ Below V.heap.size V w' := fun V hV =>
    check_any x f.d f.A f.n f.c V (his.below (b_trans hb0 hV)) (hT.below (b_trans hb0 hV))
  have hki := fun V => isKind_any f.kind V
  have hab := fun V => isAbsent_any f.d f.A f.n f.c V
  unfold rightE at hR
  generalize LexB.nameE f.nm.data.toList = ne at hnm hR
  have HB0 := Lib.hid hb0
  have HCell := Lib.hid hcell
  have HNm := Lib.hid hnm
  have HCk := Lib.hid hck
  have HKi := Lib.hid hki
  have HAb := Lib.hid hab
  have HW := Lib.hid hW
  obtain ⟨q0, q1, q2, q3, q4, q5, q6, q7, q8⟩ := hcell W (Below.refl _ _)
  clear hb0 hcell hnm hck hki hab hW his hT
  by_cases h1 : ne = 0
  · subst h1
    rw [if_neg (by simp)] at hR
    cases hk : isT f.kind with
    | false =>
      rw [hk, if_neg (by simp)] at hR
      subst hR
      rw [hk] at HKi
      clear hk
      go_enter Tryz.func30, Tryz.ntmps30
      go_wp2_with fail
      rw [HW.out]
      refine (HNm.out _).mono ?_; rintro e w1 ⟨rfl, rfl⟩
      go_wp2_with fail
      refine (HKi.out _).mono ?_; rintro e w1 ⟨rfl, rfl⟩
      go_wp2_with fail
      go_ret
      exact ⟨rfl, HB0.out⟩
    | true =>
      rw [hk] at hR HKi
      clear hk
      cases hy : isT f.ty with
      | false =>
        rw [hy, if_neg (by simp)] at hR
        subst hR
        have hz := fun V => Val.zero_out f.ty V hy
        have HZ := Lib.hid hz
        clear hz hy
        go_enter Tryz.func30, Tryz.ntmps30
        go_wp2_with fail
        rw [HW.out]
        refine (HNm.out _).mono ?_; rintro e w1 ⟨rfl, rfl⟩
        go_wp2_with fail
        refine (HKi.out _).mono ?_; rintro e w1 ⟨rfl, rfl⟩
        go_wp2_with fail
        refine (HZ.out _).mono ?_; rintro e w2 ⟨rfl, hb2⟩
        obtain ⟨cA, cB⟩ := bcell hb2
        have HB2 := Lib.hid hb2
        clear hb2
        go_wp2_with fail
        go_ret
        exact ⟨rfl, b_more (b_trans HB0.out HB2.out) _⟩
      | true =>
        rw [hy, if_pos ⟨rfl, rfl⟩] at hR
        have hz := fun V => Val.zero_in f.ty V hy
        have HZ := Lib.hid hz
        clear hz hy
        by_cases h3 : f.kind = 1
        · rw [if_pos h3] at hR
          have t3 : (f.kind != 1) = false := by rw [h3]; rfl
          clear h3
          obtain ⟨b, hb⟩ : ∃ b, bareB f.d f.n = b := ⟨_, rfl⟩
          rw [hb] at hR HAb
          clear hb
          go_enter Tryz.func30, Tryz.ntmps30
          go_wp2_with fail
          rw [HW.out]
          refine (HNm.out _).mono ?_; rintro e w1 ⟨rfl, rfl⟩
          go_wp2_with fail
          refine (HKi.out _).mono ?_; rintro e w1 ⟨rfl, rfl⟩
          go_wp2_with fail
          refine (HZ.out _).mono ?_; rintro e w2 ⟨rfl, hb2⟩
          obtain ⟨W2, hW2⟩ : ∃ V, w2.alloc (.cells #[.int .i64 f.ty, .int .i64 0, .string ⟨#[]⟩] 43) = V := ⟨_, rfl⟩
          have hb3 := b_more hb2 (.cells #[.int .i64 f.ty, .int .i64 0, .string ⟨#[]⟩] 43)
          rw [hW2] at hb3
          obtain ⟨k0, k1, k2, k3, k4, k5, k6, k7, k8⟩ := HCell.out W2 hb3
          have HB3 := Lib.hid hb3
          have HW2 := Lib.hid hW2
          clear hb2 hb3 hW2
          go_upto_region 7 with fail
          rw [HW2.out]
          go_wp2_with fail
          refine (HAb.out _).mono ?_; rintro e w4 ⟨rfl, hb4⟩
          have HB4 := Lib.hid (b_trans HB0.out (b_trans HB3.out hb4))
          clear hb4
          cases b
          all_goals
            simp at hR
            subst hR
            go_wp2_with fail
            go_ret
            exact ⟨rfl, HB4.out⟩
        · rw [if_neg h3] at hR
          subst hR
          have t3 : (f.kind != 1) = true := by simpa using h3
          clear h3
          go_enter Tryz.func30, Tryz.ntmps30
          go_wp2_with fail
          rw [HW.out]
          refine (HNm.out _).mono ?_; rintro e w1 ⟨rfl, rfl⟩
          go_wp2_with fail
          refine (HKi.out _).mono ?_; rintro e w1 ⟨rfl, rfl⟩
          go_wp2_with fail
          refine (HZ.out _).mono ?_; rintro e w2 ⟨rfl, hb2⟩
          obtain ⟨W2, hW2⟩ : ∃ V, w2.alloc (.cells #[.int .i64 f.ty, .int .i64 0, .string ⟨#[]⟩] 43) = V := ⟨_, rfl⟩
          have hb3 := b_more hb2 (.cells #[.int .i64 f.ty, .int .i64 0, .string ⟨#[]⟩] 43)
          rw [hW2] at hb3
          obtain ⟨k0, k1, k2, k3, k4, k5, k6, k7, k8⟩ := HCell.out W2 hb3
          have HB3 := Lib.hid hb3
          have HW2 := Lib.hid hW2
          clear hb2 hb3 hW2
          go_upto_region 7 with fail
          rw [HW2.out]
          go_wp2_with fail
          refine (HCk.out _ HB3.out).mono ?_; rintro e w4 ⟨rfl, hb4⟩
          have HB4 := Lib.hid (b_trans HB0.out (b_trans HB3.out hb4))
          clear hb4
          go_wp2_with fail
          go_ret
          exact ⟨rfl, HB4.out⟩
  · rw [if_pos h1] at hR
    subst hR
    have t1 : (ne != 0) = true := by simpa using h1
    clear h1
    go_enter Tryz.func30, Tryz.ntmps30
    go_wp2_with fail
    rw [HW.out]
    refine (HNm.out _).mono ?_; rintro e w1 ⟨rfl, rfl⟩
    go_wp2_with fail
    go_ret
    exact ⟨rfl, HB0.out⟩

set_option maxHeartbeats 2000000 in
theorem refBare_any (d : Nd) (A : Option Addr) (n c : Nat) (w : World) : Calls Tryz.prog 58 #[.agg #[.int .i64 d.op, .int .i64 d.k, .int .i64 d.n, .string d.s, .string d.nm, .slice A n c]] w fun e w' => e = .returned (.bool (bareB d n)) ∧ Below w.heap.size w w' := by
  obtain ⟨b, hb⟩ : ∃ b, bareB d n = b := ⟨_, rfl⟩
  rw [hb]
  unfold bareB at hb
  by_cases h1 : d.op = 0
  · have t1 : (d.op == 0) = true := beq_iff_eq.2 h1
    rw [decide_eq_true h1, Bool.true_and] at hb
    clear h1
    by_cases h5 : d.nm = ⟨#[]⟩
    · have t5 := empty_t h5
      rw [decide_eq_true h5, Bool.and_true] at hb
      clear h5
      by_cases g2 : d.k = 0
      · have t2 : (d.k == 0) = true := beq_iff_eq.2 g2
        by_cases g3 : d.n = 0
        · have t3 : (d.n == 0) = true := beq_iff_eq.2 g3
          by_cases g4 : d.s = ⟨#[]⟩
          · have t4 := empty_t g4
            rw [decide_eq_true g2, decide_eq_true g3, decide_eq_true g4] at hb
            simp only [Bool.true_and, Bool.and_self] at hb
            have t6 : ((n : Int) == 0) = b := by
              rw [← hb]
              by_cases h6 : n = 0
              · subst h6; rfl
              · rw [decide_eq_false h6]; exact beq_eq_false_iff_ne.2 (by omega)
            clear hb g2 g3 g4
            cases b
            all_goals
              go_enter Tryz.func58, Tryz.ntmps58
              go_wp2
              go_ret
              exact ⟨rfl, b_new _ _⟩
          · have t4 := empty_n g4
            rw [decide_eq_false g4] at hb
            simp only [Bool.and_false, Bool.false_and] at hb
            subst hb
            clear g2 g3 g4
            go_enter Tryz.func58, Tryz.ntmps58
            go_wp2
            go_ret
            exact ⟨rfl, b_new _ _⟩
        · have t3 : (d.n == 0) = false := beq_eq_false_iff_ne.2 g3
          rw [decide_eq_false g3] at hb
          simp only [Bool.and_false, Bool.false_and] at hb
          subst hb
          clear g2 g3
          go_enter Tryz.func58, Tryz.ntmps58
          go_wp2
          go_ret
          exact ⟨rfl, b_new _ _⟩
      · have t2 : (d.k == 0) = false := beq_eq_false_iff_ne.2 g2
        rw [decide_eq_false g2] at hb
        simp only [Bool.false_and] at hb
        subst hb
        clear g2
        go_enter Tryz.func58, Tryz.ntmps58
        go_wp2
        go_ret
        exact ⟨rfl, b_new _ _⟩
    · have t5 := empty_n h5
      rw [decide_eq_false h5] at hb
      simp only [Bool.and_false, Bool.false_and] at hb
      subst hb
      clear h5
      go_enter Tryz.func58, Tryz.ntmps58
      go_wp2
      go_ret
      exact ⟨rfl, b_new _ _⟩
  · have t1 : (d.op == 0) = false := beq_eq_false_iff_ne.2 h1
    rw [decide_eq_false h1] at hb
    simp only [Bool.false_and] at hb
    subst hb
    clear h1
    go_enter Tryz.func58, Tryz.ntmps58
    go_wp2
    go_ret
    exact ⟨rfl, b_new _ _⟩

set_option maxHeartbeats 4000000 in
theorem refFault_any (f : GenL.Fd) (x : Ex) (w : World) (hs : f.nm.size ≤ maxLen) (hx : x.nodes ≤ 1000000000000) (his : Is w x f.d f.A f.n) :
    Calls Tryz.prog 39 #[.agg #[.string f.nm, .int .i64 f.kind, .int .i64 f.ty, .int .i64 f.d.op, .int .i64 f.d.k, .int .i64 f.d.n, .string f.d.s, .string f.d.nm, .slice f.A f.n f.c]] w fun e w' => e = .returned (.int .i64 (rightE f x)) ∧ Below w.heap.size w w' := by
  obtain ⟨R, hR⟩ : ∃ R, rightE f x = R := ⟨_, rfl⟩
  rw [hR]
  obtain ⟨W, hW⟩ : ∃ W, w.alloc (.cells #[.string f.nm, .int .i64 f.kind, .int .i64 f.ty, .int .i64 f.d.op, .int .i64 f.d.k, .int .i64 f.d.n, .string f.d.s, .string f.d.nm, .slice f.A f.n f.c] 48) = W := ⟨_, rfl⟩
  have hb0 := b_new w (.cells #[.string f.nm, .int .i64 f.kind, .int .i64 f.ty, .int .i64 f.d.op, .int .i64 f.d.k, .int .i64 f.d.n, .string f.d.s, .string f.d.nm, .slice f.A f.n f.c] 48)
  have hcell := head_cells w f
  unfold rightHead at hcell
  rw [hW] at hb0 hcell
  have hnm := fun V => LexB.refName_any f.nm V hs
  have hck : ∀ V : World, Below W.heap.size W V → Calls Tryz.prog 57 #[.agg #[.int .i64 f.d.op, .int .i64 f.d.k, .int .i64 f.d.n, .string f.d.s, .string f.d.nm, .slice f.A f.n f.c]] V fun e w' => e = .returned (.int .i64 x.checkE) ∧ Below V.heap.size V w' := fun V hV =>
    ExR.fault_any x f.d f.A f.n f.c V hx (his.below (b_trans hb0 hV))
  have hab := fun V => refBare_any f.d f.A f.n f.c V
  unfold rightE at hR
  generalize LexB.nameE f.nm.data.toList = ne at hnm hR
  have HB0 := Lib.hid hb0
  have HCell := Lib.hid hcell
  have HNm := Lib.hid hnm
  have HCk := Lib.hid hck
  have HAb := Lib.hid hab
  have HW := Lib.hid hW
  clear hb0 hcell hnm hck hab hW his
  by_cases h1 : ne = 0
  · subst h1
    rw [if_neg (by simp)] at hR
    by_cases hkt : isT f.kind = true ∧ isT f.ty = true
    · rw [if_pos hkt] at hR
      obtain ⟨a1, a2⟩ := isT_iff.1 hkt.1
      obtain ⟨a3, a4⟩ := isT_iff.1 hkt.2
      clear hkt
      by_cases h3 : f.kind = 1
      · rw [if_pos h3] at hR
        have t3 : ¬ 1 < f.kind := by omega
        clear h3
        obtain ⟨b, hb⟩ : ∃ b, bareB f.d f.n = b := ⟨_, rfl⟩
        rw [hb] at hR HAb
        clear hb
        go_enter Tryz.func39, Tryz.ntmps39
        go_wp2_with fail
        rw [HW.out]
        refine (HNm.out _).mono ?_; rintro e w1 ⟨rfl, hb1⟩
        obtain ⟨q0, q1, q2, q3, q4, q5, q6, q7, q8⟩ := HCell.out w1 hb1
        have HB1 := Lib.hid hb1
        clear hb1
        go_wp2_with fail
        refine (HAb.out _).mono ?_; rintro e w4 ⟨rfl, hb4⟩
        have HB4 := Lib.hid (b_trans HB0.out (b_trans HB1.out hb4))
        clear hb4
        cases b
        all_goals
          simp at hR
          subst hR
          go_wp2_with fail
          go_ret
          exact ⟨rfl, HB4.out⟩
      · rw [if_neg h3] at hR
        subst hR
        have t3 : 1 < f.kind := by omega
        clear h3
        go_enter Tryz.func39, Tryz.ntmps39
        go_wp2_with fail
        rw [HW.out]
        refine (HNm.out _).mono ?_; rintro e w1 ⟨rfl, hb1⟩
        obtain ⟨q0, q1, q2, q3, q4, q5, q6, q7, q8⟩ := HCell.out w1 hb1
        have HB1 := Lib.hid hb1
        clear hb1
        go_wp2_with fail
        refine (HCk.out _ HB1.out).mono ?_; rintro e w4 ⟨rfl, hb4⟩
        have HB4 := Lib.hid (b_trans HB0.out (b_trans HB1.out hb4))
        clear hb4
        go_wp2_with fail
        go_ret
        exact ⟨rfl, HB4.out⟩
    · rw [if_neg hkt] at hR
      subst hR
      have hor : f.kind < 1 ∨ (1 ≤ f.kind ∧ 3 < f.kind) ∨ (1 ≤ f.kind ∧ f.kind ≤ 3 ∧ f.ty < 1) ∨ (1 ≤ f.kind ∧ f.kind ≤ 3 ∧ 1 ≤ f.ty ∧ 3 < f.ty) := by
        rw [isT_iff, isT_iff] at hkt; omega
      clear hkt
      rcases hor with h | ⟨h, h2⟩ | ⟨h, h2, h3⟩ | ⟨h, h2, h3, h4⟩
      · have t1 : f.kind < 1 := h
        go_enter Tryz.func39, Tryz.ntmps39
        go_wp2_with fail
        rw [HW.out]
        refine (HNm.out _).mono ?_; rintro e w1 ⟨rfl, hb1⟩
        obtain ⟨q0, q1, q2, q3, q4, q5, q6, q7, q8⟩ := HCell.out w1 hb1
        have HB1 := Lib.hid hb1
        clear hb1
        go_wp2_with fail
        go_ret
        exact ⟨rfl, b_trans HB0.out HB1.out⟩
      · have t1 : ¬ f.kind < 1 := by omega
        have t2 : 3 < f.kind := h2
        go_enter Tryz.func39, Tryz.ntmps39
        go_wp2_with fail
        rw [HW.out]
        refine (HNm.out _).mono ?_; rintro e w1 ⟨rfl, hb1⟩
        obtain ⟨q0, q1, q2, q3, q4, q5, q6, q7, q8⟩ := HCell.out w1 hb1
        have HB1 := Lib.hid hb1
        clear hb1
        go_wp2_with fail
        go_ret
        exact ⟨rfl, b_trans HB0.out HB1.out⟩
      · have t1 : ¬ f.kind < 1 := by omega
        have t2 : ¬ 3 < f.kind := by omega
        have t3 : f.ty < 1 := h3
        go_enter Tryz.func39, Tryz.ntmps39
        go_wp2_with fail
        rw [HW.out]
        refine (HNm.out _).mono ?_; rintro e w1 ⟨rfl, hb1⟩
        obtain ⟨q0, q1, q2, q3, q4, q5, q6, q7, q8⟩ := HCell.out w1 hb1
        have HB1 := Lib.hid hb1
        clear hb1
        go_wp2_with fail
        go_ret
        exact ⟨rfl, b_trans HB0.out HB1.out⟩
      · have t1 : ¬ f.kind < 1 := by omega
        have t2 : ¬ 3 < f.kind := by omega
        have t3 : ¬ f.ty < 1 := by omega
        have t4 : 3 < f.ty := h4
        go_enter Tryz.func39, Tryz.ntmps39
        go_wp2_with fail
        rw [HW.out]
        refine (HNm.out _).mono ?_; rintro e w1 ⟨rfl, hb1⟩
        obtain ⟨q0, q1, q2, q3, q4, q5, q6, q7, q8⟩ := HCell.out w1 hb1
        have HB1 := Lib.hid hb1
        clear hb1
        go_wp2_with fail
        go_ret
        exact ⟨rfl, b_trans HB0.out HB1.out⟩
  · rw [if_pos h1] at hR
    subst hR
    have t1 : (ne != 0) = true := by simpa using h1
    clear h1
    go_enter Tryz.func39, Tryz.ntmps39
    go_wp2_with fail
    rw [HW.out]
    refine (HNm.out _).mono ?_; rintro e w1 ⟨rfl, hb1⟩
    obtain ⟨q0, q1, q2, q3, q4, q5, q6, q7, q8⟩ := HCell.out w1 hb1
    have HB1 := Lib.hid hb1
    clear hb1
    go_wp2_with fail
    go_ret
    exact ⟨rfl, b_trans HB0.out HB1.out⟩
end Go.Proofs.YthgcmficmodhiaaGreatDoor.FldR
