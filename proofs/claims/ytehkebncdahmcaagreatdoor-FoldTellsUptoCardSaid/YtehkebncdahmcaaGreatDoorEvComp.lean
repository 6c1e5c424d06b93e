/- Contract of eval.computed. -/
import Derived.Test.YtehkebncdahmcaaGreatDoorEvOps
import Derived.Test.YtehkebncdahmcaaGreatDoorEx
namespace Go.Proofs.YtehkebncdahmcaaGreatDoor.EvC
open Go.RowKit
open NumM ValM StrM ExM TyM EvM Kit Ev ExL
set_option linter.unusedVariables false

/-- Three cells at an address are a value. -/
def VAt (w : World) (a : Addr) (v : Vl) : Prop :=
  w.cell? a = some (.int .i64 v.k) ∧ w.cell? ⟨a.block, a.off + 1, none⟩ = some (.int .i64 v.n) ∧ w.cell? ⟨a.block, a.off + 2, none⟩ = some (.string v.s)
theorem VAt.below {w w' : World} {a : Addr} {v : Vl} (h : VAt w a v) (hb : Below w.heap.size w w') : VAt w' a v := by
  have hl := cell_lt' h.1
  exact ⟨(hb.cell (p := a) hl).trans h.1, (hb.cell (p := ⟨a.block, a.off + 1, none⟩) hl).trans h.2.1, (hb.cell (p := ⟨a.block, a.off + 2, none⟩) hl).trans h.2.2⟩
/-- A block of values. -/
def Vals (w : World) (b : Nat) (vs : List Vl) : Prop := ∀ i (h : i < vs.length), VAt w ⟨b, i * 3, none⟩ vs[i]
theorem Vals.below {w w' : World} {b : Nat} {vs : List Vl} (h : Vals w b vs) (hb : Below w.heap.size w w') : Vals w' b vs := fun i hi => (h i hi).below hb

/-- A cell of an old block over new ones. -/
theorem over {W : World} {p : Addr} {v : Value} (h : W.cell? p = some v) : (∀ o, (W.alloc o).cell? p = some v) ∧ (∀ o o', ((W.alloc o).alloc o').cell? p = some v) ∧ (∀ o o' o'', (((W.alloc o).alloc o').alloc o'').cell? p = some v) := by
  have hl := cell_lt' h
  exact ⟨fun o => ((b_new W o).cell (p := p) hl).trans h, fun o o' => ((b_more (b_new W o) o').cell (p := p) hl).trans h, fun o o' o'' => ((b_more (b_more (b_new W o) o') o'').cell (p := p) hl).trans h⟩
/-- The result's own block behind a call. -/
theorem zero3 {w w1 : World} {o o' : Obj} (hb : Below (((w.alloc (.cells #[.int .i64 0, .int .i64 0, .string ⟨#[]⟩] 23)).alloc o).alloc o').heap.size (((w.alloc (.cells #[.int .i64 0, .int .i64 0, .string ⟨#[]⟩] 23)).alloc o).alloc o') w1) :
    w1.cell? ⟨w.heap.size, 0, none⟩ = some (.int .i64 0) ∧ w1.cell? ⟨w.heap.size, 1, none⟩ = some (.int .i64 0) ∧ w1.cell? ⟨w.heap.size, 2, none⟩ = some (.string ⟨#[]⟩) := by
  have h0 : (w.alloc (.cells #[.int .i64 0, .int .i64 0, .string ⟨#[]⟩] 23)).cell? ⟨w.heap.size, 0, none⟩ = some (.int .i64 0) := by simp [go_sem]
  have h1 : (w.alloc (.cells #[.int .i64 0, .int .i64 0, .string ⟨#[]⟩] 23)).cell? ⟨w.heap.size, 1, none⟩ = some (.int .i64 0) := by simp [go_sem]
  have h2 : (w.alloc (.cells #[.int .i64 0, .int .i64 0, .string ⟨#[]⟩] 23)).cell? ⟨w.heap.size, 2, none⟩ = some (.string ⟨#[]⟩) := by simp [go_sem]
  exact ⟨(hb.cell (p := ⟨w.heap.size, 0, none⟩) (by simp; omega)).trans ((over h0).2.1 _ _), (hb.cell (p := ⟨w.heap.size, 1, none⟩) (by simp; omega)).trans ((over h1).2.1 _ _), (hb.cell (p := ⟨w.heap.size, 2, none⟩) (by simp; omega)).trans ((over h2).2.1 _ _)⟩
theorem comp_3 (a b : Vl) (g c : Nat) (w : World) (h : Vals w g [b]) :
    Calls Tryz.prog 77 #[.int .i64 3, .slice (some ⟨g, 0, none⟩) 1 c] w fun e w' => e = .returned (.tuple #[.agg #[.int .i64 (compR 3 a b).1.k, .int .i64 (compR 3 a b).1.n, .string (compR 3 a b).1.s], .int .i64 (compR 3 a b).2]) ∧ Below w.heap.size w w' := by
  obtain ⟨h3, h4, h5⟩ := h 0 (by simp)
  have hc : ∀ W, Calls Tryz.prog 92 _ W _ := fun W => ar_9 ⟨1, 0, ⟨#[]⟩⟩ b W
  have hq : compR 3 a b = arR 9 ⟨1, 0, ⟨#[]⟩⟩ b := rfl
  rw [← hq] at hc
  obtain ⟨R, hR⟩ : ∃ R, compR 3 a b = R := ⟨_, rfl⟩
  rw [hR] at hc ⊢
  obtain ⟨⟨rk, rn, rs⟩, re⟩ := R
  obtain ⟨k, n, s⟩ := a
  obtain ⟨j, m, t⟩ := b
  simp only [List.getElem_cons_zero, Nat.zero_mul, Nat.zero_add] at h3 h4 h5 hc ⊢
  have HC := Lib.hid hc
  clear hc hR h
  obtain ⟨p3, q3, r3⟩ := over h3
  obtain ⟨p4, q4, r4⟩ := over h4
  obtain ⟨p5, q5, r5⟩ := over h5
  go_enter Tryz.func77, Tryz.ntmps77
  go_wp2_with fail
  go_region
  all_goals (clear p3 q3 r3 h3 p4 q4 r4 h4 p5 q5 r5 h5; go_wp2_with fail; refine (HC.out _).mono ?_; rintro e w1 ⟨rfl, hb0⟩; have hb1 := b_undrew hb0; have hx := zero3 hb1; obtain ⟨x0, x1, x2⟩ := hx; obtain ⟨c1, d1⟩ := bcell hb1; have z1 := zlt hb1; have hb2 : Below w.heap.size w w1 := b_then (b_then (b_then hb1)); go_wp2_with fail; refine bodyPost_ret (v := .tuple #[.agg #[.int .i64 rk, .int .i64 rn, .string rs], .int .i64 re]) (by simp [results, Tryz.results77, go_sem, x0, x1, x2]) rfl ⟨rfl, b_set3 hb2 _ (by omega) _ _ _⟩)
theorem comp_4 (a b : Vl) (g c : Nat) (w : World) (hb : b.ok) (h : Vals w g [b]) :
    Calls Tryz.prog 77 #[.int .i64 4, .slice (some ⟨g, 0, none⟩) 1 c] w fun e w' => e = .returned (.tuple #[.agg #[.int .i64 (compR 4 a b).1.k, .int .i64 (compR 4 a b).1.n, .string (compR 4 a b).1.s], .int .i64 (compR 4 a b).2]) ∧ Below w.heap.size w w' := by
  obtain ⟨h3, h4, h5⟩ := h 0 (by simp)
  have hc := fun W => negation_any b hb W
  have hq : compR 4 a b = notR b := rfl
  rw [← hq] at hc
  clear hb
  obtain ⟨R, hR⟩ : ∃ R, compR 4 a b = R := ⟨_, rfl⟩
  rw [hR] at hc ⊢
  obtain ⟨⟨rk, rn, rs⟩, re⟩ := R
  obtain ⟨k, n, s⟩ := a
  obtain ⟨j, m, t⟩ := b
  simp only [List.getElem_cons_zero, Nat.zero_mul, Nat.zero_add] at h3 h4 h5 hc ⊢
  have HC := Lib.hid hc
  clear hc hR h
  obtain ⟨p3, q3, r3⟩ := over h3
  obtain ⟨p4, q4, r4⟩ := over h4
  obtain ⟨p5, q5, r5⟩ := over h5
  go_enter Tryz.func77, Tryz.ntmps77
  go_wp2_with fail
  go_region
  all_goals (clear p3 q3 r3 h3 p4 q4 r4 h4 p5 q5 r5 h5; go_wp2_with fail; refine (HC.out _).mono ?_; rintro e w1 ⟨rfl, hb0⟩; have hb1 := b_undrew hb0; have hx := zero3 hb1; obtain ⟨x0, x1, x2⟩ := hx; obtain ⟨c1, d1⟩ := bcell hb1; have z1 := zlt hb1; have hb2 : Below w.heap.size w w1 := b_then (b_then (b_then hb1)); go_wp2_with fail; refine bodyPost_ret (v := .tuple #[.agg #[.int .i64 rk, .int .i64 rn, .string rs], .int .i64 re]) (by simp [results, Tryz.results77, go_sem, x0, x1, x2]) rfl ⟨rfl, b_set3 hb2 _ (by omega) _ _ _⟩)
theorem comp_18 (a b : Vl) (g c : Nat) (w : World) (hb : b.s.size ≤ 40) (h : Vals w g [b]) :
    Calls Tryz.prog 77 #[.int .i64 18, .slice (some ⟨g, 0, none⟩) 1 c] w fun e w' => e = .returned (.tuple #[.agg #[.int .i64 (compR 18 a b).1.k, .int .i64 (compR 18 a b).1.n, .string (compR 18 a b).1.s], .int .i64 (compR 18 a b).2]) ∧ Below w.heap.size w w' := by
  obtain ⟨h3, h4, h5⟩ := h 0 (by simp)
  have hc := fun W => length_any b hb W
  have hq : compR 18 a b = lenR b := rfl
  rw [← hq] at hc
  clear hb
  obtain ⟨R, hR⟩ : ∃ R, compR 18 a b = R := ⟨_, rfl⟩
  rw [hR] at hc ⊢
  obtain ⟨⟨rk, rn, rs⟩, re⟩ := R
  obtain ⟨k, n, s⟩ := a
  obtain ⟨j, m, t⟩ := b
  simp only [List.getElem_cons_zero, Nat.zero_mul, Nat.zero_add] at h3 h4 h5 hc ⊢
  have HC := Lib.hid hc
  clear hc hR h
  obtain ⟨p3, q3, r3⟩ := over h3
  obtain ⟨p4, q4, r4⟩ := over h4
  obtain ⟨p5, q5, r5⟩ := over h5
  go_enter Tryz.func77, Tryz.ntmps77
  go_wp2_with fail
  go_region
  all_goals (clear p3 q3 r3 h3 p4 q4 r4 h4 p5 q5 r5 h5; go_wp2_with fail; refine (HC.out _).mono ?_; rintro e w1 ⟨rfl, hb0⟩; have hb1 := b_undrew hb0; have hx := zero3 hb1; obtain ⟨x0, x1, x2⟩ := hx; obtain ⟨c1, d1⟩ := bcell hb1; have z1 := zlt hb1; have hb2 : Below w.heap.size w w1 := b_then (b_then (b_then hb1)); go_wp2_with fail; refine bodyPost_ret (v := .tuple #[.agg #[.int .i64 rk, .int .i64 rn, .string rs], .int .i64 re]) (by simp [results, Tryz.results77, go_sem, x0, x1, x2]) rfl ⟨rfl, b_set3 hb2 _ (by omega) _ _ _⟩)
theorem comp_5 (a b : Vl) (g c : Nat) (w : World) (h : Vals w g [a, b]) :
    Calls Tryz.prog 77 #[.int .i64 5, .slice (some ⟨g, 0, none⟩) 2 c] w fun e w' => e = .returned (.tuple #[.agg #[.int .i64 (compR 5 a b).1.k, .int .i64 (compR 5 a b).1.n, .string (compR 5 a b).1.s], .int .i64 (compR 5 a b).2]) ∧ Below w.heap.size w w' := by
  obtain ⟨h0, h1, h2⟩ := h 0 (by simp)
  obtain ⟨h3, h4, h5⟩ := h 1 (by simp)
  have hc := fun W => ar_5 a b W
  have hq : compR 5 a b = arR 5 a b := rfl
  rw [← hq] at hc
  obtain ⟨R, hR⟩ : ∃ R, compR 5 a b = R := ⟨_, rfl⟩
  rw [hR] at hc ⊢
  obtain ⟨⟨rk, rn, rs⟩, re⟩ := R
  obtain ⟨k, n, s⟩ := a
  obtain ⟨j, m, t⟩ := b
  simp only [List.getElem_cons_zero, List.getElem_cons_succ, Nat.zero_mul, Nat.one_mul, Nat.zero_add, Nat.reduceAdd] at h0 h1 h2 h3 h4 h5 hc ⊢
  have HC := Lib.hid hc
  clear hc hR h
  obtain ⟨p0, q0, r0⟩ := over h0
  obtain ⟨p1, q1, r1⟩ := over h1
  obtain ⟨p2, q2, r2⟩ := over h2
  obtain ⟨p3, q3, r3⟩ := over h3
  obtain ⟨p4, q4, r4⟩ := over h4
  obtain ⟨p5, q5, r5⟩ := over h5
  go_enter Tryz.func77, Tryz.ntmps77
  go_wp2_with fail
  go_region
  all_goals (clear p0 q0 r0 h0 p1 q1 r1 h1 p2 q2 r2 h2 p3 q3 r3 h3 p4 q4 r4 h4 p5 q5 r5 h5; go_wp2_with fail; refine (HC.out _).mono ?_; rintro e w1 ⟨rfl, hb0⟩; have hb1 := b_undrew hb0; have hx := zero3 hb1; obtain ⟨x0, x1, x2⟩ := hx; obtain ⟨c1, d1⟩ := bcell hb1; have z1 := zlt hb1; have hb2 : Below w.heap.size w w1 := b_then (b_then (b_then hb1)); go_wp2_with fail; refine bodyPost_ret (v := .tuple #[.agg #[.int .i64 rk, .int .i64 rn, .string rs], .int .i64 re]) (by simp [results, Tryz.results77, go_sem, x0, x1, x2]) rfl ⟨rfl, b_set3 hb2 _ (by omega) _ _ _⟩)
theorem comp_6 (a b : Vl) (g c : Nat) (w : World) (h : Vals w g [a, b]) :
    Calls Tryz.prog 77 #[.int .i64 6, .slice (some ⟨g, 0, none⟩) 2 c] w fun e w' => e = .returned (.tuple #[.agg #[.int .i64 (compR 6 a b).1.k, .int .i64 (compR 6 a b).1.n, .string (compR 6 a b).1.s], .int .i64 (compR 6 a b).2]) ∧ Below w.heap.size w w' := by
  obtain ⟨h0, h1, h2⟩ := h 0 (by simp)
  obtain ⟨h3, h4, h5⟩ := h 1 (by simp)
  have hc := fun W => ar_6 a b W
  have hq : compR 6 a b = arR 6 a b := rfl
  rw [← hq] at hc
  obtain ⟨R, hR⟩ : ∃ R, compR 6 a b = R := ⟨_, rfl⟩
  rw [hR] at hc ⊢
  obtain ⟨⟨rk, rn, rs⟩, re⟩ := R
  obtain ⟨k, n, s⟩ := a
  obtain ⟨j, m, t⟩ := b
  simp only [List.getElem_cons_zero, List.getElem_cons_succ, Nat.zero_mul, Nat.one_mul, Nat.zero_add, Nat.reduceAdd] at h0 h1 h2 h3 h4 h5 hc ⊢
  have HC := Lib.hid hc
  clear hc hR h
  obtain ⟨p0, q0, r0⟩ := over h0
  obtain ⟨p1, q1, r1⟩ := over h1
  obtain ⟨p2, q2, r2⟩ := over h2
  obtain ⟨p3, q3, r3⟩ := over h3
  obtain ⟨p4, q4, r4⟩ := over h4
  obtain ⟨p5, q5, r5⟩ := over h5
  go_enter Tryz.func77, Tryz.ntmps77
  go_wp2_with fail
  go_region
  all_goals (clear p0 q0 r0 h0 p1 q1 r1 h1 p2 q2 r2 h2 p3 q3 r3 h3 p4 q4 r4 h4 p5 q5 r5 h5; go_wp2_with fail; refine (HC.out _).mono ?_; rintro e w1 ⟨rfl, hb0⟩; have hb1 := b_undrew hb0; have hx := zero3 hb1; obtain ⟨x0, x1, x2⟩ := hx; obtain ⟨c1, d1⟩ := bcell hb1; have z1 := zlt hb1; have hb2 : Below w.heap.size w w1 := b_then (b_then (b_then hb1)); go_wp2_with fail; refine bodyPost_ret (v := .tuple #[.agg #[.int .i64 rk, .int .i64 rn, .string rs], .int .i64 re]) (by simp [results, Tryz.results77, go_sem, x0, x1, x2]) rfl ⟨rfl, b_set3 hb2 _ (by omega) _ _ _⟩)
theorem comp_7 (a b : Vl) (g c : Nat) (w : World) (h : Vals w g [a, b]) :
    Calls Tryz.prog 77 #[.int .i64 7, .slice (some ⟨g, 0, none⟩) 2 c] w fun e w' => e = .returned (.tuple #[.agg #[.int .i64 (compR 7 a b).1.k, .int .i64 (compR 7 a b).1.n, .string (compR 7 a b).1.s], .int .i64 (compR 7 a b).2]) ∧ Below w.heap.size w w' := by
  obtain ⟨h0, h1, h2⟩ := h 0 (by simp)
  obtain ⟨h3, h4, h5⟩ := h 1 (by simp)
  have hc := fun W => ar_7 a b W
  have hq : compR 7 a b = arR 7 a b := rfl
  rw [← hq] at hc
  obtain ⟨R, hR⟩ : ∃ R, compR 7 a b = R := ⟨_, rfl⟩
  rw [hR] at hc ⊢
  obtain ⟨⟨rk, rn, rs⟩, re⟩ := R
  obtain ⟨k, n, s⟩ := a
  obtain ⟨j, m, t⟩ := b
  simp only [List.getElem_cons_zero, List.getElem_cons_succ, Nat.zero_mul, Nat.one_mul, Nat.zero_add, Nat.reduceAdd] at h0 h1 h2 h3 h4 h5 hc ⊢
  have HC := Lib.hid hc
  clear hc hR h
  obtain ⟨p0, q0, r0⟩ := over h0
  obtain ⟨p1, q1, r1⟩ := over h1
  obtain ⟨p2, q2, r2⟩ := over h2
  obtain ⟨p3, q3, r3⟩ := over h3
  obtain ⟨p4, q4, r4⟩ := over h4
  obtain ⟨p5, q5, r5⟩ := over h5
  go_enter Tryz.func77, Tryz.ntmps77
  go_wp2_with fail
  go_region
  all_goals (clear p0 q0 r0 h0 p1 q1 r1 h1 p2 q2 r2 h2 p3 q3 r3 h3 p4 q4 r4 h4 p5 q5 r5 h5; go_wp2_with fail; refine (HC.out _).mono ?_; rintro e w1 ⟨rfl, hb0⟩; have hb1 := b_undrew hb0; have hx := zero3 hb1; obtain ⟨x0, x1, x2⟩ := hx; obtain ⟨c1, d1⟩ := bcell hb1; have z1 := zlt hb1; have hb2 : Below w.heap.size w w1 := b_then (b_then (b_then hb1)); go_wp2_with fail; refine bodyPost_ret (v := .tuple #[.agg #[.int .i64 rk, .int .i64 rn, .string rs], .int .i64 re]) (by simp [results, Tryz.results77, go_sem, x0, x1, x2]) rfl ⟨rfl, b_set3 hb2 _ (by omega) _ _ _⟩)
theorem comp_8 (a b : Vl) (g c : Nat) (w : World) (h : Vals w g [a, b]) :
    Calls Tryz.prog 77 #[.int .i64 8, .slice (some ⟨g, 0, none⟩) 2 c] w fun e w' => e = .returned (.tuple #[.agg #[.int .i64 (compR 8 a b).1.k, .int .i64 (compR 8 a b).1.n, .string (compR 8 a b).1.s], .int .i64 (compR 8 a b).2]) ∧ Below w.heap.size w w' := by
  obtain ⟨h0, h1, h2⟩ := h 0 (by simp)
  obtain ⟨h3, h4, h5⟩ := h 1 (by simp)
  have hc := fun W => ar_8 a b W
  have hq : compR 8 a b = arR 8 a b := rfl
  rw [← hq] at hc
  obtain ⟨R, hR⟩ : ∃ R, compR 8 a b = R := ⟨_, rfl⟩
  rw [hR] at hc ⊢
  obtain ⟨⟨rk, rn, rs⟩, re⟩ := R
  obtain ⟨k, n, s⟩ := a
  obtain ⟨j, m, t⟩ := b
  simp only [List.getElem_cons_zero, List.getElem_cons_succ, Nat.zero_mul, Nat.one_mul, Nat.zero_add, Nat.reduceAdd] at h0 h1 h2 h3 h4 h5 hc ⊢
  have HC := Lib.hid hc
  clear hc hR h
  obtain ⟨p0, q0, r0⟩ := over h0
  obtain ⟨p1, q1, r1⟩ := over h1
  obtain ⟨p2, q2, r2⟩ := over h2
  obtain ⟨p3, q3, r3⟩ := over h3
  obtain ⟨p4, q4, r4⟩ := over h4
  obtain ⟨p5, q5, r5⟩ := over h5
  go_enter Tryz.func77, Tryz.ntmps77
  go_wp2_with fail
  go_region
  all_goals (clear p0 q0 r0 h0 p1 q1 r1 h1 p2 q2 r2 h2 p3 q3 r3 h3 p4 q4 r4 h4 p5 q5 r5 h5; go_wp2_with fail; refine (HC.out _).mono ?_; rintro e w1 ⟨rfl, hb0⟩; have hb1 := b_undrew hb0; have hx := zero3 hb1; obtain ⟨x0, x1, x2⟩ := hx; obtain ⟨c1, d1⟩ := bcell hb1; have z1 := zlt hb1; have hb2 : Below w.heap.size w w1 := b_then (b_then (b_then hb1)); go_wp2_with fail; refine bodyPost_ret (v := .tuple #[.agg #[.int .i64 rk, .int .i64 rn, .string rs], .int .i64 re]) (by simp [results, Tryz.results77, go_sem, x0, x1, x2]) rfl ⟨rfl, b_set3 hb2 _ (by omega) _ _ _⟩)
theorem comp_9 (a b : Vl) (g c : Nat) (w : World) (h : Vals w g [a, b]) :
    Calls Tryz.prog 77 #[.int .i64 9, .slice (some ⟨g, 0, none⟩) 2 c] w fun e w' => e = .returned (.tuple #[.agg #[.int .i64 (compR 9 a b).1.k, .int .i64 (compR 9 a b).1.n, .string (compR 9 a b).1.s], .int .i64 (compR 9 a b).2]) ∧ Below w.heap.size w w' := by
  obtain ⟨h0, h1, h2⟩ := h 0 (by simp)
  obtain ⟨h3, h4, h5⟩ := h 1 (by simp)
  have hc := fun W => ar_9 a b W
  have hq : compR 9 a b = arR 9 a b := rfl
  rw [← hq] at hc
  obtain ⟨R, hR⟩ : ∃ R, compR 9 a b = R := ⟨_, rfl⟩
  rw [hR] at hc ⊢
  obtain ⟨⟨rk, rn, rs⟩, re⟩ := R
  obtain ⟨k, n, s⟩ := a
  obtain ⟨j, m, t⟩ := b
  simp only [List.getElem_cons_zero, List.getElem_cons_succ, Nat.zero_mul, Nat.one_mul, Nat.zero_add, Nat.reduceAdd] at h0 h1 h2 h3 h4 h5 hc ⊢
  have HC := Lib.hid hc
  clear hc hR h
  obtain ⟨p0, q0, r0⟩ := over h0
  obtain ⟨p1, q1, r1⟩ := over h1
  obtain ⟨p2, q2, r2⟩ := over h2
  obtain ⟨p3, q3, r3⟩ := over h3
  obtain ⟨p4, q4, r4⟩ := over h4
  obtain ⟨p5, q5, r5⟩ := over h5
  go_enter Tryz.func77, Tryz.ntmps77
  go_wp2_with fail
  go_region
  all_goals (clear p0 q0 r0 h0 p1 q1 r1 h1 p2 q2 r2 h2 p3 q3 r3 h3 p4 q4 r4 h4 p5 q5 r5 h5; go_wp2_with fail; refine (HC.out _).mono ?_; rintro e w1 ⟨rfl, hb0⟩; have hb1 := b_undrew hb0; have hx := zero3 hb1; obtain ⟨x0, x1, x2⟩ := hx; obtain ⟨c1, d1⟩ := bcell hb1; have z1 := zlt hb1; have hb2 : Below w.heap.size w w1 := b_then (b_then (b_then hb1)); go_wp2_with fail; refine bodyPost_ret (v := .tuple #[.agg #[.int .i64 rk, .int .i64 rn, .string rs], .int .i64 re]) (by simp [results, Tryz.results77, go_sem, x0, x1, x2]) rfl ⟨rfl, b_set3 hb2 _ (by omega) _ _ _⟩)
theorem comp_10 (a b : Vl) (g c : Nat) (w : World) (ha : a.s.size ≤ 40) (hb : b.s.size ≤ 40) (h : Vals w g [a, b]) :
    Calls Tryz.prog 77 #[.int .i64 10, .slice (some ⟨g, 0, none⟩) 2 c] w fun e w' => e = .returned (.tuple #[.agg #[.int .i64 (compR 10 a b).1.k, .int .i64 (compR 10 a b).1.n, .string (compR 10 a b).1.s], .int .i64 (compR 10 a b).2]) ∧ Below w.heap.size w w' := by
  obtain ⟨h0, h1, h2⟩ := h 0 (by simp)
  obtain ⟨h3, h4, h5⟩ := h 1 (by simp)
  have hc := fun W => joined_any a b ha hb W
  have hq : compR 10 a b = joinR a b := rfl
  rw [← hq] at hc
  clear ha hb
  obtain ⟨R, hR⟩ : ∃ R, compR 10 a b = R := ⟨_, rfl⟩
  rw [hR] at hc ⊢
  obtain ⟨⟨rk, rn, rs⟩, re⟩ := R
  obtain ⟨k, n, s⟩ := a
  obtain ⟨j, m, t⟩ := b
  simp only [List.getElem_cons_zero, List.getElem_cons_succ, Nat.zero_mul, Nat.one_mul, Nat.zero_add, Nat.reduceAdd] at h0 h1 h2 h3 h4 h5 hc ⊢
  have HC := Lib.hid hc
  clear hc hR h
  obtain ⟨p0, q0, r0⟩ := over h0
  obtain ⟨p1, q1, r1⟩ := over h1
  obtain ⟨p2, q2, r2⟩ := over h2
  obtain ⟨p3, q3, r3⟩ := over h3
  obtain ⟨p4, q4, r4⟩ := over h4
  obtain ⟨p5, q5, r5⟩ := over h5
  go_enter Tryz.func77, Tryz.ntmps77
  go_wp2_with fail
  go_region
  all_goals (clear p0 q0 r0 h0 p1 q1 r1 h1 p2 q2 r2 h2 p3 q3 r3 h3 p4 q4 r4 h4 p5 q5 r5 h5; go_wp2_with fail; refine (HC.out _).mono ?_; rintro e w1 ⟨rfl, hb0⟩; have hb1 := b_undrew hb0; have hx := zero3 hb1; obtain ⟨x0, x1, x2⟩ := hx; obtain ⟨c1, d1⟩ := bcell hb1; have z1 := zlt hb1; have hb2 : Below w.heap.size w w1 := b_then (b_then (b_then hb1)); go_wp2_with fail; refine bodyPost_ret (v := .tuple #[.agg #[.int .i64 rk, .int .i64 rn, .string rs], .int .i64 re]) (by simp [results, Tryz.results77, go_sem, x0, x1, x2]) rfl ⟨rfl, b_set3 hb2 _ (by omega) _ _ _⟩)
theorem comp_cmp (a b : Vl) (g c : Nat) (w : World) (op : Int) (hop : 11 ≤ op ∧ op ≤ 14) (ha : knownB a.k a.n a.s.data.toList = true) (hb : knownB b.k b.n b.s.data.toList = true) (h : Vals w g [a, b]) :
    Calls Tryz.prog 77 #[.int .i64 op, .slice (some ⟨g, 0, none⟩) 2 c] w fun e w' => e = .returned (.tuple #[.agg #[.int .i64 (compR op a b).1.k, .int .i64 (compR op a b).1.n, .string (compR op a b).1.s], .int .i64 (compR op a b).2]) ∧ Below w.heap.size w w' := by
  obtain ⟨h0, h1, h2⟩ := h 0 (by simp)
  obtain ⟨h3, h4, h5⟩ := h 1 (by simp)
  have hc := fun W => comparison_any op hop a b ha hb W
  have hq : compR op a b = cmpR op a b := by unfold compR; rw [if_neg (by omega), if_neg (by omega), if_neg (by omega), if_neg (by omega), if_neg (by omega)]
  rw [← hq] at hc
  clear ha hb hq
  obtain ⟨R, hR⟩ : ∃ R, compR op a b = R := ⟨_, rfl⟩
  rw [hR] at hc ⊢
  obtain ⟨⟨rk, rn, rs⟩, re⟩ := R
  obtain ⟨k, n, s⟩ := a
  obtain ⟨j, m, t⟩ := b
  simp only [List.getElem_cons_zero, List.getElem_cons_succ, Nat.zero_mul, Nat.one_mul, Nat.zero_add, Nat.reduceAdd] at h0 h1 h2 h3 h4 h5 hc ⊢
  have HC := Lib.hid hc
  clear hc hR h
  have u3 : (op == 3) = false := beq_eq_false_iff_ne.2 (by omega)
  have u4 : (op == 4) = false := beq_eq_false_iff_ne.2 (by omega)
  have u5 : (op == 5) = false := beq_eq_false_iff_ne.2 (by omega)
  have u6 : (op == 6) = false := beq_eq_false_iff_ne.2 (by omega)
  have u7 : (op == 7) = false := beq_eq_false_iff_ne.2 (by omega)
  have u8 : (op == 8) = false := beq_eq_false_iff_ne.2 (by omega)
  have u9 : (op == 9) = false := beq_eq_false_iff_ne.2 (by omega)
  have u10 : (op == 10) = false := beq_eq_false_iff_ne.2 (by omega)
  have u18 : (op == 18) = false := beq_eq_false_iff_ne.2 (by omega)
  clear hop
  obtain ⟨p0, q0, r0⟩ := over h0
  obtain ⟨p1, q1, r1⟩ := over h1
  obtain ⟨p2, q2, r2⟩ := over h2
  obtain ⟨p3, q3, r3⟩ := over h3
  obtain ⟨p4, q4, r4⟩ := over h4
  obtain ⟨p5, q5, r5⟩ := over h5
  go_enter Tryz.func77, Tryz.ntmps77
  go_wp2_with fail
  go_region
  all_goals (clear p0 q0 r0 h0 p1 q1 r1 h1 p2 q2 r2 h2 p3 q3 r3 h3 p4 q4 r4 h4 p5 q5 r5 h5; go_wp2_with fail; refine (HC.out _).mono ?_; rintro e w1 ⟨rfl, hb0⟩; have hb1 := b_undrew hb0; have hx := zero3 hb1; obtain ⟨x0, x1, x2⟩ := hx; obtain ⟨c1, d1⟩ := bcell hb1; have z1 := zlt hb1; have hb2 : Below w.heap.size w w1 := b_then (b_then (b_then hb1)); go_wp2_with fail; refine bodyPost_ret (v := .tuple #[.agg #[.int .i64 rk, .int .i64 rn, .string rs], .int .i64 re]) (by simp [results, Tryz.results77, go_sem, x0, x1, x2]) rfl ⟨rfl, b_set3 hb2 _ (by omega) _ _ _⟩)
end Go.Proofs.YtehkebncdahmcaaGreatDoor.EvC
