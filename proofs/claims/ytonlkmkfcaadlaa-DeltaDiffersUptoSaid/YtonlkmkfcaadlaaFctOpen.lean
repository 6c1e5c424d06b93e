/- An argument that is a slice of facts. -/
import Derived.Test.YtonlkmkfcaadlaaExOpen
import Derived.Test.YtonlkmkfcaadlaaFctBase
import Derived.Test.YtonlkmkfcaadlaaRows
namespace Go.Proofs.Ytonlkmkfcaadlaa.FctO
open Go.ChangeShapes Go.WideShapes Go.ChangeAt Go.RowKit Go.Deep
open ExM ExL ExO EvM EvF
set_option linter.unusedVariables false

theorem row_val {H : Type} {enc : TypeId × Value → H} {W : World} {fuel : Nat} {cs : List Value} {y : DataW H × List MemPlace}
    (h : DataW.trod enc Try.prog W 0 (fun _ => true) true fuel 31 cs = some y) : ∃ v : Vl, cs = [.int .i64 v.k, .int .i64 v.n, .string v.s] ∧ v.s.size ≤ maxLen := by
  obtain ⟨ys, f1, hfu, hx, hl, hlen, hf⟩ := DataW.trod_struct Try.underlying31 h
  have hC : Try.prog.cellsOf 31 = 3 := by kernel_rfl
  rw [hC] at hl
  obtain ⟨d0, d1, d2, rfl⟩ := len3 hl
  obtain ⟨y0, y1, y2, rfl⟩ := len3 (show ys.length = 3 from hlen)
  have g0 := hf 0 _ rfl
  have g1 := hf 1 _ rfl
  have g2 := hf 2 _ rfl
  have c0 : Try.prog.cellsOf 3 = 1 := by kernel_rfl
  have c2 : Try.prog.cellsOf 9 = 1 := by kernel_rfl
  simp [c0] at g0 g1
  simp [c2] at g2
  obtain ⟨k, q0, _, w0⟩ := DataW.trod_int Try.underlying3 g0
  obtain ⟨n, q1, _, w1⟩ := DataW.trod_int Try.underlying3 g1
  obtain ⟨s, q2, _, w2⟩ := DataW.trod_string Try.underlying9 g2
  simp only [List.cons.injEq, and_true] at q0 q1 q2
  subst q0 q1 q2
  exact ⟨⟨k, n, s⟩, rfl, w2⟩
theorem addAdd' (p : Addr) (i j : Nat) (hi : i ≠ 0) : p.add i = ⟨p.block, p.off + i, none⟩ := by unfold Addr.add; rw [if_neg hi]
end Go.Proofs.Ytonlkmkfcaadlaa.FctO
