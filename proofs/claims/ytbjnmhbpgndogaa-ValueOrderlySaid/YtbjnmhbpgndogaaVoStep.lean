/- Three values made in one statement: the steps of a region that draws its order, each to a new world. -/
import Derived.Test.YtbjnmhbpgndogaaProg
import Derived.Test.YtbjnmhbpgndogaaKit
import Derived.WalkKit
import Derived.ProofKit
import Derived.Below
import Derived.WalkSpells
import Derived.WalkLawsBesides
import Derived.Deep.RegionHeld3
import Derived.Deep.AppendLies
import Derived.Laws.OwnMore
import Derived.Laws.Rows
import Derived.RangeFuncRecord
import Derived.Deep.DrawnRows
import Derived.Deep.DeepCutAuto
namespace Go.Proofs.Ytbjnmhbpgndogaa.Vo
open Go.RowKit
open Kit
set_option linter.unusedVariables false

/-- A block of a value. -/
def BV (w : World) (B : Nat) (k n : Int) (s : ByteArray) : Prop := w.heap[B]? = some (.cells #[.int .i64 k, .int .i64 n, .string s] 26 (0, 0))
theorem BV.cells {w : World} {B : Nat} {k n : Int} {s : ByteArray} (h : BV w B k n s) : w.cell? ⟨B, 0, none⟩ = some (.int .i64 k) ∧ w.cell? ⟨B, 1, none⟩ = some (.int .i64 n) ∧ w.cell? ⟨B, 2, none⟩ = some (.string s) := by
  unfold BV at h
  exact ⟨by simp [World.cell?, h], by simp [World.cell?, h], by simp [World.cell?, h]⟩
theorem BV.frozen {w : World} {B : Nat} {k n : Int} {s : ByteArray} (h : BV w B k n s) (o : Nat) : w.frozen? ⟨B, o, none⟩ = false := by
  unfold BV at h; simp [World.frozen?, h]
theorem BV.lt {w : World} {B : Nat} {k n : Int} {s : ByteArray} (h : BV w B k n s) : B < w.heap.size := (Array.getElem?_eq_some_iff.1 h).1
theorem BV.below {w w' : World} {B : Nat} {k n : Int} {s : ByteArray} (h : BV w B k n s) (hb : Below w.heap.size w w') : BV w' B k n s := (hb.block B h.lt).trans h
theorem BV.new (w : World) (k n : Int) (s : ByteArray) : BV (w.alloc (.cells #[.int .i64 k, .int .i64 n, .string s] 26)) w.heap.size k n s := World.alloc_heap_new w _
theorem BV.far {w w' : World} {B g : Nat} {k n : Int} {s : ByteArray} (h : BV w B k n s) (hk : ∀ b, b ≠ g → w'.heap[b]? = w.heap[b]?) (hne : B ≠ g) : BV w' B k n s := (hk B hne).trans h
theorem bvA (w : World) : BV (w.alloc (.cells #[.int .i64 0, .int .i64 0, .string ⟨#[]⟩] 26)) w.heap.size 0 0 ⟨#[]⟩ := BV.new w 0 0 ⟨#[]⟩
theorem bvB (w : World) : BV ((w.alloc (.cells #[.int .i64 0, .int .i64 0, .string ⟨#[]⟩] 26)).alloc (.cells #[.int .i64 0, .int .i64 0, .string ⟨#[]⟩] 26)) w.heap.size 0 0 ⟨#[]⟩ := (bvA w).below (b_new _ _)
theorem bvC (w : World) : BV (((w.alloc (.cells #[.int .i64 0, .int .i64 0, .string ⟨#[]⟩] 26)).alloc (.cells #[.int .i64 0, .int .i64 0, .string ⟨#[]⟩] 26)).alloc (.cells #[.int .i64 0, .int .i64 0, .string ⟨#[]⟩] 26)) w.heap.size 0 0 ⟨#[]⟩ := (bvB w).below (b_new _ _)
theorem bvD (w : World) : BV ((w.alloc (.cells #[.int .i64 0, .int .i64 0, .string ⟨#[]⟩] 26)).alloc (.cells #[.int .i64 0, .int .i64 0, .string ⟨#[]⟩] 26)) (w.heap.size + 1) 0 0 ⟨#[]⟩ := by
  have := bvA (w.alloc (.cells #[.int .i64 0, .int .i64 0, .string ⟨#[]⟩] 26)); rw [World.size_alloc] at this; exact this
theorem bvE (w : World) : BV (((w.alloc (.cells #[.int .i64 0, .int .i64 0, .string ⟨#[]⟩] 26)).alloc (.cells #[.int .i64 0, .int .i64 0, .string ⟨#[]⟩] 26)).alloc (.cells #[.int .i64 0, .int .i64 0, .string ⟨#[]⟩] 26)) (w.heap.size + 1) 0 0 ⟨#[]⟩ := (bvD w).below (b_new _ _)
theorem bvF (w : World) : BV (((w.alloc (.cells #[.int .i64 0, .int .i64 0, .string ⟨#[]⟩] 26)).alloc (.cells #[.int .i64 0, .int .i64 0, .string ⟨#[]⟩] 26)).alloc (.cells #[.int .i64 0, .int .i64 0, .string ⟨#[]⟩] 26)) (w.heap.size + 1 + 1) 0 0 ⟨#[]⟩ := by
  have := bvD (w.alloc (.cells #[.int .i64 0, .int .i64 0, .string ⟨#[]⟩] 26)); rw [World.size_alloc] at this; exact this
theorem bv_at {V : World} {g : Nat} {k n : Int} {t : ByteArray} (h : V.heap.size = g) : BV (V.alloc (.cells #[.int .i64 k, .int .i64 n, .string t] 26)) g k n t := by subst h; exact BV.new V k n t
theorem bv_up {V : World} {g : Nat} {k n : Int} {t : ByteArray} (h : BV V g k n t) (o : Obj) : BV (V.alloc o) g k n t := h.below (b_new V o)
theorem bv_set {V : World} {g : Nat} {k0 n0 k n : Int} {t0 t : ByteArray} (h : BV V g k0 n0 t0) : BV (((V.setCell ⟨g, 0, none⟩ (.int .i64 k)).setCell ⟨g, 1, none⟩ (.int .i64 n)).setCell ⟨g, 2, none⟩ (.string t)) g k n t := by
  have e1 := heap_setCell_same V g 0 _ _ (.int .i64 k) h
  have e2 := heap_setCell_same _ g 1 _ _ (.int .i64 n) e1
  exact heap_setCell_same _ g 2 _ _ (.string t) e2
theorem bv_far {V : World} {g g' : Nat} {k n : Int} {t : ByteArray} {v0 v1 v2 : Value} (h : BV V g k n t) (hne : g ≠ g') : BV (((V.setCell ⟨g', 0, none⟩ v0).setCell ⟨g', 1, none⟩ v1).setCell ⟨g', 2, none⟩ v2) g k n t :=
  h.far (g := g') (fun b hb => (Below.heap_setCell _ ⟨g', 2, none⟩ _ b hb).trans ((Below.heap_setCell _ ⟨g', 1, none⟩ _ b hb).trans (Below.heap_setCell _ ⟨g', 0, none⟩ _ b hb))) hne
theorem sz3 {V : World} {g' : Nat} {v0 v1 v2 : Value} : (((V.setCell ⟨g', 0, none⟩ v0).setCell ⟨g', 1, none⟩ v1).setCell ⟨g', 2, none⟩ v2).heap.size = V.heap.size := by simp only [sz_set]
theorem szA (w : World) (o : Obj) : (w.alloc o).heap.size = w.heap.size + 1 := by simp
theorem be_set3 {B : Nat} {a V : World} {g' : Nat} {v0 v1 v2 : Value} (h : Below B a V) (hg : B ≤ g') : Below B a (((V.setCell ⟨g', 0, none⟩ v0).setCell ⟨g', 1, none⟩ v1).setCell ⟨g', 2, none⟩ v2) :=
  ((h.setCell (p := ⟨g', 0, none⟩) hg _).setCell (p := ⟨g', 1, none⟩) hg _).setCell (p := ⟨g', 2, none⟩) hg _
/-- A block of a raw thing. -/
def RV (w : World) (B : Nat) (k a b : Int) (t : ByteArray) : Prop := w.heap[B]? = some (.cells #[.int .i64 k, .int .i64 a, .int .i64 b, .string t] 23 (0, 0))
theorem RV.cells {w : World} {B : Nat} {k a b : Int} {t : ByteArray} (h : RV w B k a b t) : w.cell? ⟨B, 0, none⟩ = some (.int .i64 k) ∧ w.cell? ⟨B, 1, none⟩ = some (.int .i64 a) ∧ w.cell? ⟨B, 2, none⟩ = some (.int .i64 b) ∧ w.cell? ⟨B, 3, none⟩ = some (.string t) := by
  unfold RV at h
  exact ⟨by simp [World.cell?, h], by simp [World.cell?, h], by simp [World.cell?, h], by simp [World.cell?, h]⟩
theorem RV.lt {w : World} {B : Nat} {k a b : Int} {t : ByteArray} (h : RV w B k a b t) : B < w.heap.size := (Array.getElem?_eq_some_iff.1 h).1
theorem RV.below {w w' : World} {B : Nat} {k a b : Int} {t : ByteArray} (h : RV w B k a b t) (hb : Below w.heap.size w w') : RV w' B k a b t := (hb.block B h.lt).trans h
theorem RV.new (w : World) (k a b : Int) (t : ByteArray) : RV (w.alloc (.cells #[.int .i64 k, .int .i64 a, .int .i64 b, .string t] 23)) w.heap.size k a b t := World.alloc_heap_new w _
theorem b_step {wc w w' : World} (h : Below wc.heap.size wc w) (h' : Below w.heap.size w w') : Below wc.heap.size wc w' := h.trans (h'.mono h.size)
set_option maxHeartbeats 1000000 in
theorem run_allocV {w : World} {o : Oper} {ρ : Operand → Value} (ho : o.op = .alloc 26) : (execOp ρ o).run Try.prog w = .ok (.value (.pointer (some ⟨w.heap.size, 0, none⟩))) (w.alloc (.cells #[.int .i64 0, .int .i64 0, .string ⟨#[]⟩] 26)) := by
  unfold execOp; rw [ho]; simp [go_sem]
set_option maxHeartbeats 1000000 in
theorem store_V (w : World) (g : Nat) (k n : Int) (t : ByteArray) (k0 n0 : Int) (t0 : ByteArray) (hB : BV w g k0 n0 t0) :
    ∃ Y : World, (Instr.storeAt 26 (.pointer (some ⟨g, 0, none⟩)) (.agg #[.int .i64 k, .int .i64 n, .string t])).run Try.prog w = .ok () Y ∧ BV Y g k n t ∧ (∀ b, b ≠ g → Y.heap[b]? = w.heap[b]?) ∧ (∀ B, B ≤ g → ∀ V, Below B V w → Below B V Y) := by
  obtain ⟨c0, c1, c2⟩ := hB.cells
  have f0 := hB.frozen

  have e1 := heap_setCell_same w g 0 _ _ (.int .i64 k) hB
  have e2 := heap_setCell_same _ g 1 _ _ (.int .i64 n) e1
  have e3 := heap_setCell_same _ g 2 _ _ (.string t) e2
  refine ⟨((w.setCell ⟨g, 0, none⟩ (.int .i64 k)).setCell ⟨g, 1, none⟩ (.int .i64 n)).setCell ⟨g, 2, none⟩ (.string t), ?_, e3,
    (fun b hb => (Below.heap_setCell _ ⟨g, 2, none⟩ _ b hb).trans ((Below.heap_setCell _ ⟨g, 1, none⟩ _ b hb).trans (Below.heap_setCell _ ⟨g, 0, none⟩ _ b hb))),
    (fun B hg V hV => ((hV.setCell (p := ⟨g, 0, none⟩) hg _).setCell (p := ⟨g, 1, none⟩) hg _).setCell (p := ⟨g, 2, none⟩) hg _)⟩
  clear e1 e2 e3
  simp [go_sem, c0, c1, c2, f0]
end Go.Proofs.Ytbjnmhbpgndogaa.Vo
