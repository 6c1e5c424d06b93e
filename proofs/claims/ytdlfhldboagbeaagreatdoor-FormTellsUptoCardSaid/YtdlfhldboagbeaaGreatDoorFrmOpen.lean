/- An argument that is a form. -/
import Derived.Test.YtdlfhldboagbeaaGreatDoorPgOpen
namespace Go.Proofs.YtdlfhldboagbeaaGreatDoor.FrmO
open Go.ChangeShapes Go.WideShapes Go.ChangeAt Go.RowKit Go.Deep
open ExM ExL ExO GenL FrmM PgM
set_option linter.unusedVariables false

set_option maxRecDepth 100000 in
/-- A parameter that is a form: its fields and its pages. -/
theorem open_frm {H : Type} {enc : TypeId × Value → H} {W : World} {base : Nat} {v : Value} {d : DataW H} {p : List MemPlace}
    (hv : Value.okWide Tryz.prog W .any base 25 v) (h : DataW.Trod enc Tryz.prog W 0 (fun _ => true) true 25 v d p) :
    ∃ (A : Option Addr) (fs : List GenL.Fd) (c : Nat) (PA : Option Addr) (ps : List PE) (pc : Nat), v = .agg #[.slice A fs.length c, .slice PA ps.length pc] ∧
      (Flds W A fs ∧ (fs.length ≤ Rows.uptoBulk d ∧ fs.length ≤ maxLen ∧ fs.length ≤ c ∧ c ≤ maxLen) ∧ (∀ (i : Nat) (h : i < fs.length), fs[i].nm.size ≤ maxLen ∧ ∃ x, Is W x fs[i].d fs[i].A fs[i].n ∧ x.nodes ≤ Rows.uptoBulk d)) ∧
      (Pgs W PA ps ∧ (ps.length ≤ Rows.uptoBulk d ∧ ps.length ≤ maxLen ∧ ps.length ≤ pc ∧ pc ≤ maxLen) ∧ (∀ e ∈ ps, PgOk W e ∧ (e.fs.length ≤ e.fc ∧ e.fc ≤ maxLen) ∧ e.x.nodes ≤ Rows.uptoBulk d ∧ e.fs.length ≤ Rows.uptoBulk d)) := by
  obtain ⟨cs, rfl, hsz⟩ := okWide_struct Tryz.underlying25 hv
  obtain ⟨fuel, hf0⟩ := h
  obtain ⟨ys, f1, hfu, hx, hl, hlen, hf⟩ := DataW.trod_struct Tryz.underlying25 hf0
  have hC : Tryz.prog.cellsOf 25 = 2 := by kernel_rfl
  rw [hC] at hl
  obtain ⟨d0, d1, e⟩ : ∃ a b, cs.toList = [a, b] := by
    match cs.toList, hl with
    | [a, b], _ => exact ⟨a, b, rfl⟩
  obtain rfl : cs = #[d0, d1] := by rw [← Array.toArray_toList (xs := cs), e]
  obtain ⟨y0, y1, rfl⟩ : ∃ a b, ys = [a, b] := by
    match ys, (show ys.length = 2 from hlen) with
    | [a, b], _ => exact ⟨a, b, rfl⟩
  have g0 := hf 0 _ rfl
  have g1 := hf 1 _ rfl
  have c0 : Tryz.prog.cellsOf 22 = 1 := by kernel_rfl
  have c1 : Tryz.prog.cellsOf 23 = 1 := by kernel_rfl
  simp [c0] at g0
  simp [c1] at g1
  obtain ⟨A, fs, c, rfl, p1, p2, p3⟩ := FldO.row_flds g0
  obtain ⟨PA, ps, pc, rfl, q1, q2, q3⟩ := PgO.row_pgs g1
  have hb : Rows.uptoBulk y0.1 ≤ Rows.uptoBulk d ∧ Rows.uptoBulk y1.1 ≤ Rows.uptoBulk d := by
    have hx1 : d = .agg [y0.1, y1.1] := by injection hx
    rw [hx1]
    simp only [Rows.uptoBulk, Rows.uptoBulkAll]
    omega
  refine ⟨A, fs, c, PA, ps, pc, rfl, ⟨p1, ⟨by omega, p2.2⟩, fun i hi => ⟨(p3 i hi).1, (p3 i hi).2.imp fun x hh => ⟨hh.1, by omega⟩⟩⟩, ⟨q1, ⟨by omega, q2.2⟩, fun e he => ⟨(q3 e he).1, (q3 e he).2.1, by have := (q3 e he).2.2.1; omega, by have := (q3 e he).2.2.2; omega⟩⟩⟩
end Go.Proofs.YtdlfhldboagbeaaGreatDoor.FrmO
