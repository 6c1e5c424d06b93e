/- An argument that is a slice of raw things. -/
import Derived.Test.YtdlfhldboagbeaaGreatDoorGenLeaf
import Derived.Deep.Slices
import Derived.OpenShut
import Derived.ChangeSame
import Derived.DataReads
namespace Go.Proofs.YtdlfhldboagbeaaGreatDoor.RawO
open Go.ChangeShapes Go.WideShapes Go.ChangeAt Go.RowKit Go.Deep
open RawL
set_option linter.unusedVariables false
theorem len4 {α : Type} {l : List α} (h : l.length = 4) : ∃ a b c d, l = [a, b, c, d] := by
  match l, h with
  | [a, b, c, d], _ => exact ⟨a, b, c, d, rfl⟩
theorem row_raw {H : Type} {enc : TypeId × Value → H} {W : World} {fuel : Nat} {cs : List Value} {y : DataW H × List MemPlace}
    (h : DataW.trod enc Tryz.prog W 0 (fun _ => true) true fuel 72 cs = some y) : ∃ k x z t, cs = [.int .i64 k, .int .i64 x, .int .i64 z, .string t] ∧ (Lit.int .i64 k).wf = true ∧ (Lit.int .i64 x).wf = true ∧ (Lit.int .i64 z).wf = true ∧ t.size ≤ maxLen := by
  obtain ⟨ys, f1, hfu, hx, hl, hlen, hf⟩ := DataW.trod_struct Tryz.underlying72 h
  have hC : Tryz.prog.cellsOf 72 = 4 := by kernel_rfl
  rw [hC] at hl
  obtain ⟨d0, d1, d2, d3, rfl⟩ := len4 hl
  obtain ⟨y0, y1, y2, y3, rfl⟩ := len4 (show ys.length = 4 from hlen)
  have g0 := hf 0 _ rfl
  have g1 := hf 1 _ rfl
  have g2 := hf 2 _ rfl
  have g3 := hf 3 _ rfl
  have c0 : Tryz.prog.cellsOf 3 = 1 := by kernel_rfl
  have c2 : Tryz.prog.cellsOf 9 = 1 := by kernel_rfl
  simp [c0] at g0 g1 g2
  simp [c2] at g3
  obtain ⟨k, e0, _, w0⟩ := DataW.trod_int Tryz.underlying3 g0
  obtain ⟨x, e1, _, w1⟩ := DataW.trod_int Tryz.underlying3 g1
  obtain ⟨z, e2, _, w2⟩ := DataW.trod_int Tryz.underlying3 g2
  obtain ⟨t, e3, _, w3⟩ := DataW.trod_string Tryz.underlying9 g3
  simp only [List.cons.injEq, and_true] at e0 e1 e2 e3
  subst e0 e1 e2 e3
  exact ⟨k, x, z, t, rfl, w0, w1, w2, w3⟩
set_option maxRecDepth 100000 in
theorem open_raws {H : Type} {enc : TypeId × Value → H} {W : World} {base : Nat} {v : Value} {d : DataW H} {p : List MemPlace}
    (hv : Value.okWide Tryz.prog W .any base 41 v) (h : DataW.Trod enc Tryz.prog W 0 (fun _ => true) true 41 v d p) :
    ∃ A n c, v = .slice A n c ∧ Raws W A n c := by
  obtain ⟨A, n, c, rfl⟩ := okWide_slice Tryz.underlying41 hv
  obtain ⟨fuel, hf⟩ := h
  have hC : Tryz.prog.cellsOf 72 = 4 := by kernel_rfl
  refine ⟨A, n, c, rfl, ?_⟩
  rcases open_slice Tryz.underlying41 hf with ⟨e, _⟩ | ⟨a, len, cap, m, f, D, Pl, e, _, hl, hc, hm, _, hel⟩
  · have e' : [Value.slice A n c] = [.slice none 0 0] := e
    injection e' with e1 _
    injection e1 with e1 e2 e3
    subst e1 e2 e3
    exact ⟨Nat.le_refl _, Nat.zero_le _, fun i hi => absurd hi (by omega)⟩
  · have e' : [Value.slice A n c] = [.slice (some a) len cap] := e
    injection e' with e1 _
    injection e1 with e1 e2 e3
    subst e1 e2 e3
    refine ⟨hl, hc, fun i hi => ?_⟩
    have hmi : i < m := by rw [hm]; split <;> omega
    obtain ⟨cs', hcs, htr⟩ := hel i hmi
    rw [hC] at hcs
    obtain ⟨_, hcl, hat⟩ := World.cells?_some hcs
    obtain ⟨k, x, z, t, rfl, w0, w1, w2, w3⟩ := row_raw htr
    have h0 := hat 0 (by decide); have h1 := hat 1 (by decide); have h2 := hat 2 (by decide); have h3 := hat 3 (by decide)
    have ad : ∀ (p : Addr) (j : Nat), j ≠ 0 → p.add j = ⟨p.block, p.off + j, none⟩ := fun p j hj => by unfold Addr.add; rw [if_neg hj]
    rw [ad _ _ (by decide)] at h1 h2 h3
    rw [show ∀ p : Addr, p.add 0 = p from fun p => by unfold Addr.add; rw [if_pos rfl]] at h0
    exact ⟨a, k, x, z, t, rfl, h0, h1, h2, h3, w0, w1, w2, w3⟩
end Go.Proofs.YtdlfhldboagbeaaGreatDoor.RawO
