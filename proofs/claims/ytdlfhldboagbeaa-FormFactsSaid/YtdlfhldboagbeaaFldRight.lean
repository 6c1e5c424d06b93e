/- Package field: whether a field may be by itself; the reference's. -/
import Derived.Test.YtdlfhldboagbeaaFld
import Derived.Test.YtdlfhldboagbeaaExCheck
import Derived.Test.YtdlfhldboagbeaaExRef
import Derived.Test.YtdlfhldboagbeaaLexBytes
import Derived.Test.YtdlfhldboagbeaaValue
namespace Go.Proofs.Ytdlfhldboagbeaa.FldR
open Go.RowKit
open ValM LexM NumM ExM Kit ExL ExN ExC RawV Within RawL GenL FldP
set_option linter.unusedVariables false

/-- No formula. -/
def bareB (d : Nd) (n : Nat) : Bool := decide (d.op = 0) && decide (d.k = 0) && decide (d.n = 0) && decide (d.s = ⟨#[]⟩) && decide (d.nm = ⟨#[]⟩) && decide (n = 0)
/-- P9.2. -/
def rightE (f : GenL.Fd) (x : Ex) : Int :=
  if LexB.nameE f.nm.data.toList ≠ 0 then LexB.nameE f.nm.data.toList
  else if isT f.kind = true ∧ isT f.ty = true then (if f.kind = 1 then (if bareB f.d f.n = true then 0 else 3) else x.checkE)
  else 2
theorem isT_iff {k : Int} : isT k = true ↔ 1 ≤ k ∧ k ≤ 3 := by unfold isT; simp; omega
theorem empty_t {s : ByteArray} (h : s = ⟨#[]⟩) : s.toList.isEmpty = true := by rw [h, ByteArray.toList_eq]; rfl
theorem empty_n {s : ByteArray} (h : s ≠ ⟨#[]⟩) : s.toList.isEmpty = false := by
  cases hs : s.toList with
  | nil =>
    exfalso
    apply h
    rw [ByteArray.toList_eq] at hs
    exact ByteArray.ext (Array.ext' hs)
  | cons a l => rfl
def rightHead (w : World) (f : GenL.Fd) : World := w.alloc (.cells #[.string f.nm, .int .i64 f.kind, .int .i64 f.ty, .int .i64 f.d.op, .int .i64 f.d.k, .int .i64 f.d.n, .string f.d.s, .string f.d.nm, .slice f.A f.n f.c] 56)
theorem head_cells (w : World) (f : GenL.Fd) (V : World) (hV : Below (rightHead w f).heap.size (rightHead w f) V) : V.cell? ⟨w.heap.size, 0, none⟩ = some (.string f.nm) ∧ V.cell? ⟨w.heap.size, 1, none⟩ = some (.int .i64 f.kind) ∧ V.cell? ⟨w.heap.size, 2, none⟩ = some (.int .i64 f.ty) ∧ V.cell? ⟨w.heap.size, 3, none⟩ = some (.int .i64 f.d.op) ∧ V.cell? ⟨w.heap.size, 4, none⟩ = some (.int .i64 f.d.k) ∧ V.cell? ⟨w.heap.size, 5, none⟩ = some (.int .i64 f.d.n) ∧ V.cell? ⟨w.heap.size, 6, none⟩ = some (.string f.d.s) ∧ V.cell? ⟨w.heap.size, 7, none⟩ = some (.string f.d.nm) ∧ V.cell? ⟨w.heap.size, 8, none⟩ = some (.slice f.A f.n f.c) := by
  have e1 : V.heap[w.heap.size]? = _ := (hV.block _ (by show _ < (w.alloc _).heap.size; simp)).trans (World.alloc_heap_new w (.cells #[.string f.nm, .int .i64 f.kind, .int .i64 f.ty, .int .i64 f.d.op, .int .i64 f.d.k, .int .i64 f.d.n, .string f.d.s, .string f.d.nm, .slice f.A f.n f.c] 56))
  exact ⟨by simp [World.cell?, e1], by simp [World.cell?, e1], by simp [World.cell?, e1], by simp [World.cell?, e1], by simp [World.cell?, e1], by simp [World.cell?, e1], by simp [World.cell?, e1], by simp [World.cell?, e1], by simp [World.cell?, e1]⟩
end Go.Proofs.Ytdlfhldboagbeaa.FldR
