/- Package field: whether a field may be by itself; the reference's. -/
import Derived.Test.YthgcmficmodhiaaDoorFld
import Derived.Test.YthgcmficmodhiaaDoorExCheck
import Derived.Test.YthgcmficmodhiaaDoorExRef
import Derived.Test.YthgcmficmodhiaaDoorLexBytes
import Derived.Test.YthgcmficmodhiaaDoorValue
namespace Go.Proofs.YthgcmficmodhiaaDoor.FldR
open Go.RowKit
open ValM LexM NumM ExM Kit ExL ExN ExC RawV Within RawL GenL FldP
set_option linter.unusedVariables false

/-- No formula. -/
def bareB (d : Nd) (n : Nat) : Bool := decide (d.op = 0) && decide (d.k = 0) && decide (d.n = 0) && decide (d.s = ⟨#[]⟩) && decide (d.nm = ⟨#[]⟩) && decide (n = 0)
/-- P9.2. -/
def rightE (f : GenL.Fd) (x : Ex) : Int :=
  if LexB.nameE f.nm.data.toList ≠ 0 then LexB.nameE f.nm.data.toList
  else if isT f.kind = true ∧ isT f.ty = true then (if f.kind = 1 then (if bareB f.d f.n = true then 0 else 3) else x.checkE)
  else 2
theorem isT_iff {k : Int} : isT k = true ↔ 1 ≤ k ∧ k ≤ 3 := by unfold isT; simp; omega
theorem empty_t {s : ByteArray} (h : s = ⟨#[]⟩) : s.toList.isEmpty = true := by rw [h, ByteArray.toList_eq]; rfl
theorem empty_n {s : ByteArray} (h : s ≠ ⟨#[]⟩) : s.toList.isEmpty = false := by
  cases hs : s.toList with
  | nil =>
    exfalso
    apply h
    rw [ByteArray.toList_eq] at hs
    exact ByteArray.ext (Array.ext' hs)
  | cons a l => rfl
def rightHead (w : World) (f : GenL.Fd) : World := w.alloc (.cells #[.string f.nm, .int .i64 f.kind, .int .i64 f.ty, .int .i64 f.d.op, .int .i64 f.d.k, .int .i64 f.d.n, .string f.d.s, .string f.d.nm, .slice f.A f.n f.c] 64)
theorem head_cells (w : World) (f : GenL.Fd) (V : World) (hV : Below (rightHead w f).heap.size (rightHead w f) V) : V.cell? ⟨w.heap.size, 0, none⟩ = some (.string f.nm) ∧ V.cell? ⟨w.heap.size, 1, none⟩ = some (.int .i64 f.kind) ∧ V.cell? ⟨w.heap.size, 2, none⟩ = some (.int .i64 f.ty) ∧ V.cell? ⟨w.heap.size, 3, none⟩ = some (.int .i64 f.d.op) ∧ V.cell? ⟨w.heap.size, 4, none⟩ = some (.int .i64 f.d.k) ∧ V.cell? ⟨w.heap.size, 5, none⟩ = some (.int .i64 f.d.n) ∧ V.cell? ⟨w.heap.size, 6, none⟩ = some (.string f.d.s) ∧ V.cell? ⟨w.heap.size, 7, none⟩ = some (.string f.d.nm) ∧ V.cell? ⟨w.heap.size, 8, none⟩ = some (.slice f.A f.n f.c) := by
  have e1 : V.heap[w.heap.size]? = _ := (hV.block _ (by show _ < (w.alloc _).heap.size; simp)).trans (World.alloc_heap_new w (.cells #[.string f.nm, .int .i64 f.kind, .int .i64 f.ty, .int .i64 f.d.op, .int .i64 f.d.k, .int .i64 f.d.n, .string f.d.s, .string f.d.nm, .slice f.A f.n f.c] 64))
  exact ⟨by simp [World.cell?, e1], by simp [World.cell?, e1], by simp [World.cell?, e1], by simp [World.cell?, e1], by simp [World.cell?, e1], by simp [World.cell?, e1], by simp [World.cell?, e1], by simp [World.cell?, e1], by simp [World.cell?, e1]⟩
set_option maxHeartbeats 2000000 in
theorem refBare_any (d : Nd) (A : Option Addr) (n c : Nat) (w : World) : Calls Tryd.prog 24 #[.agg #[.int .i64 d.op, .int .i64 d.k, .int .i64 d.n, .string d.s, .string d.nm, .slice A n c]] w fun e w' => e = .returned (.bool (bareB d n)) ∧ Below w.heap.size w w' := by
  obtain ⟨b, hb⟩ : ∃ b, bareB d n = b := ⟨_, rfl⟩
  rw [hb]
  unfold bareB at hb
  by_cases h1 : d.op = 0
  · have t1 : (d.op == 0) = true := beq_iff_eq.2 h1
    rw [decide_eq_true h1, Bool.true_and] at hb
    clear h1
    by_cases h5 : d.nm = ⟨#[]⟩
    · have t5 := empty_t h5
      rw [decide_eq_true h5, Bool.and_true] at hb
      clear h5
      by_cases g2 : d.k = 0
      · have t2 : (d.k == 0) = true := beq_iff_eq.2 g2
        by_cases g3 : d.n = 0
        · have t3 : (d.n == 0) = true := beq_iff_eq.2 g3
          by_cases g4 : d.s = ⟨#[]⟩
          · have t4 := empty_t g4
            rw [decide_eq_true g2, decide_eq_true g3, decide_eq_true g4] at hb
            simp only [Bool.true_and, Bool.and_self] at hb
            have t6 : ((n : Int) == 0) = b := by
              rw [← hb]
              by_cases h6 : n = 0
              · subst h6; rfl
              · rw [decide_eq_false h6]; exact beq_eq_false_iff_ne.2 (by omega)
            clear hb g2 g3 g4
            cases b
            all_goals
              go_enter Tryd.func24, Tryd.ntmps24
              go_wp2
              go_ret
              exact ⟨rfl, b_new _ _⟩
          · have t4 := empty_n g4
            rw [decide_eq_false g4] at hb
            simp only [Bool.and_false, Bool.false_and] at hb
            subst hb
            clear g2 g3 g4
            go_enter Tryd.func24, Tryd.ntmps24
            go_wp2
            go_ret
            exact ⟨rfl, b_new _ _⟩
        · have t3 : (d.n == 0) = false := beq_eq_false_iff_ne.2 g3
          rw [decide_eq_false g3] at hb
          simp only [Bool.and_false, Bool.false_and] at hb
          subst hb
          clear g2 g3
          go_enter Tryd.func24, Tryd.ntmps24
          go_wp2
          go_ret
          exact ⟨rfl, b_new _ _⟩
      · have t2 : (d.k == 0) = false := beq_eq_false_iff_ne.2 g2
        rw [decide_eq_false g2] at hb
        simp only [Bool.false_and] at hb
        subst hb
        clear g2
        go_enter Tryd.func24, Tryd.ntmps24
        go_wp2
        go_ret
        exact ⟨rfl, b_new _ _⟩
    · have t5 := empty_n h5
      rw [decide_eq_false h5] at hb
      simp only [Bool.and_false, Bool.false_and] at hb
      subst hb
      clear h5
      go_enter Tryd.func24, Tryd.ntmps24
      go_wp2
      go_ret
      exact ⟨rfl, b_new _ _⟩
  · have t1 : (d.op == 0) = false := beq_eq_false_iff_ne.2 h1
    rw [decide_eq_false h1] at hb
    simp only [Bool.false_and] at hb
    subst hb
    clear h1
    go_enter Tryd.func24, Tryd.ntmps24
    go_wp2
    go_ret
    exact ⟨rfl, b_new _ _⟩

end Go.Proofs.YthgcmficmodhiaaDoor.FldR
