/- A package-level array of rows (a string and two integers) that reads as it was laid. No program is named here. -/
import Derived.LaidLaws
import Derived.ChangeArms
import Derived.Lib.LaidTab
import Derived.ChangeOld
import Derived.WideShapes
namespace Go.Proofs.Ytonlkmkfcaadlaa.NotTab
open Go.ChangeShapes Go.WideShapes

abbrev Rw := List UInt8 × Int × Int
def rowD {H : Type} (z : Rw) : DataW H := .agg [.lit (.string z.1), .lit (.int .i64 z.2.1), .lit (.int .i64 z.2.2)]
def rowC (z : Rw) : List Value := [.string ⟨z.1.toArray⟩, .int .i64 z.2.1, .int .i64 z.2.2]
def datum {H : Type} (zs : List Rw) : DataW H := .agg (zs.map rowD)
def Is (P : Program) (w : World) (name : String) (zs : List Rw) : Prop := w.var? P name = some (zs.flatMap rowC).toArray

theorem len3 {α : Type} {l : List α} (h : l.length = 3) : ∃ a b c, l = [a, b, c] := by
  match l, h with
  | [a, b, c], _ => exact ⟨a, b, c, rfl⟩
theorem row_of {H : Type} {enc : TypeId × Value → H} {P : Program} {w : World} {base : Nat} {sp : Nat → Bool} {held : Bool} {fuel : Nat} {e : TypeId} {f0 f1 f2 : Field} {cs : List Value} {z : Rw} {p : List MemPlace}
    (he : P.underlying e = some (.struct #[f0, f1, f2])) (hce : P.cellsOf e = 3) (o0 : f0.offset = 0) (o1 : f1.offset = 1) (o2 : f2.offset = 2) (u0 : P.underlying f0.type = some .string) (u1 : P.underlying f1.type = some (.int .i64)) (u2 : P.underlying f2.type = some (.int .i64))
    (c0 : P.cellsOf f0.type = 1) (c1 : P.cellsOf f1.type = 1) (c2 : P.cellsOf f2.type = 1)
    (h : DataW.trod enc P w base sp held fuel e cs = some (rowD z, p)) : cs = rowC z := by
  obtain ⟨xs, n, _, hx, hl, hxl, hf⟩ := DataW.trod_struct he h
  rw [hce] at hl
  obtain ⟨a, b, c, rfl⟩ := len3 hl
  obtain ⟨y0, y1, y2, rfl⟩ := len3 (show xs.length = 3 from hxl)
  have g0 := hf 0 f0 rfl
  have g1 := hf 1 f1 rfl
  have g2 := hf 2 f2 rfl
  rw [o0, c0] at g0
  rw [o1, c1] at g1
  rw [o2, c2] at g2
  obtain ⟨s, e0, d0, _⟩ := DataW.trod_string u0 g0
  obtain ⟨i, e1, d1, _⟩ := DataW.trod_int u1 g1
  obtain ⟨j, e2, d2, _⟩ := DataW.trod_int u2 g2
  have hx1 := congrArg Prod.fst hx
  simp only [rowD, List.map_cons, List.map_nil, d0, d1, d2, DataW.agg.injEq, List.cons.injEq, DataW.lit.injEq, Lit.string.injEq, Lit.int.injEq, true_and, and_true] at hx1
  obtain ⟨h1, h2, h3⟩ := hx1
  simp at e0 e1 e2
  subst e0 e1 e2
  simp [rowC, h1, h2, h3]
theorem flat_at (zs : List Rw) : ∀ (i : Nat) (z : Rw), zs[i]? = some z → ∀ j, j < 3 → (zs.flatMap rowC)[i * 3 + j]? = (rowC z)[j]? := by
  induction zs with
  | nil => intro i z h; simp at h
  | cons y zs ih =>
    intro i z h j hj
    rw [List.flatMap_cons]
    cases i with
    | zero =>
      simp at h; subst h
      rw [List.getElem?_append_left (by simp [rowC]; omega)]; simp
    | succ i =>
      rw [List.getElem?_append_right (by simp [rowC]; omega), show (i + 1) * 3 + j - (rowC y).length = i * 3 + j by simp [rowC]; omega]
      exact ih i z (by simpa using h) j hj
theorem flat_len (zs : List Rw) : (zs.flatMap rowC).length = zs.length * 3 := by
  induction zs with
  | nil => rfl
  | cons y zs ih => rw [List.flatMap_cons, List.length_append, ih, List.length_cons]; show 3 + _ = _; omega
theorem cells_of {H : Type} {enc : TypeId × Value → H} {P : Program} {w : World} {base : Nat} {sp : Nat → Bool} {held : Bool} {fuel : Nat} {t e : TypeId} {f0 f1 f2 : Field} {n : Nat} {cs : List Value} {zs : List Rw} {p : List MemPlace}
    (ht : P.underlying t = some (.array n e)) (hct : P.cellsOf t = n * 3)
    (he : P.underlying e = some (.struct #[f0, f1, f2])) (hce : P.cellsOf e = 3) (o0 : f0.offset = 0) (o1 : f1.offset = 1) (o2 : f2.offset = 2) (u0 : P.underlying f0.type = some .string) (u1 : P.underlying f1.type = some (.int .i64)) (u2 : P.underlying f2.type = some (.int .i64))
    (c0 : P.cellsOf f0.type = 1) (c1 : P.cellsOf f1.type = 1) (c2 : P.cellsOf f2.type = 1)
    (h : DataW.trod enc P w base sp held fuel t cs = some (datum zs, p)) : cs = zs.flatMap rowC := by
  cases fuel with
  | zero => simp [DataW.trod] at h
  | succ fuel =>
    simp only [DataW.trod, ht, hce, hct] at h
    split at h
    · rename_i hl
      obtain ⟨xs, hm, hx⟩ := Option.map_eq_some_iff.1 h
      have hxs : xs.map (·.1) = zs.map (rowD (H := H)) := by
        have := congrArg Prod.fst hx
        simpa [datum] using this
      have hxl : xs.length = n := by simpa using Lib.mapM_length hm
      have hzl : zs.length = n := by
        have := congrArg List.length hxs
        simp at this
        omega
      apply List.ext_getElem?
      intro q
      by_cases hq : q < n * 3
      · obtain ⟨i, j, hj, rfl⟩ : ∃ i j, j < 3 ∧ q = i * 3 + j := ⟨q / 3, q % 3, Nat.mod_lt _ (by omega), by omega⟩
        have hi : i < n := by omega
        obtain ⟨b, hb, hf⟩ := Lib.mapM_at hm i i (by simp [hi])
        have hz : zs[i]? = some zs[i] := List.getElem?_eq_getElem (by omega)
        have h2 : (xs.map (·.1))[i]? = some b.1 := by simp [hb]
        rw [hxs, List.getElem?_map, hz] at h2
        simp only [Option.map_some, Option.some.injEq] at h2
        obtain ⟨b1, b2⟩ := b
        simp only at h2
        subst h2
        have hr := row_of he hce o0 o1 o2 u0 u1 u2 c0 c1 c2 hf
        rw [flat_at zs i _ hz j hj, ← hr, List.getElem?_take, if_pos hj, List.getElem?_drop]
      · rw [List.getElem?_eq_none (by omega), List.getElem?_eq_none (by rw [flat_len]; omega)]
    · cases h
theorem is_of_head {P : Program} {W : World} {name : String} {zs : List Rw} {rest : List (String × DataW Unit)} {g : Nat} {t e : TypeId} {f0 f1 f2 : Field} {n : Nat}
    (hg : P.globalNamed name = some g) (hty : (P.globals[g]?).map (·.type) = some t) (ht : P.underlying t = some (.array n e)) (hct : P.cellsOf t = n * 3)
    (he : P.underlying e = some (.struct #[f0, f1, f2])) (hce : P.cellsOf e = 3) (o0 : f0.offset = 0) (o1 : f1.offset = 1) (o2 : f2.offset = 2) (u0 : P.underlying f0.type = some .string) (u1 : P.underlying f1.type = some (.int .i64)) (u2 : P.underlying f2.type = some (.int .i64))
    (c0 : P.cellsOf f0.type = 1) (c1 : P.cellsOf f1.type = 1) (c2 : P.cellsOf f2.type = 1)
    (h : laidMet P ((name, datum zs) :: rest) W) : Is P W name zs := by
  obtain ⟨ps, ⟨g', t', cs, fuel, p, q, hg', ht', hvar, hd, _, _⟩, _⟩ := h
  obtain rfl := Option.some.inj (hg.symm.trans hg')
  obtain rfl := Option.some.inj (hty.symm.trans ht')
  unfold Is
  rw [hvar, ← cells_of ht hct he hce o0 o1 o2 u0 u1 u2 c0 c1 c2 hd]
theorem Is.cell {P : Program} {W : World} {name : String} {zs : List Rw} {g : Nat} (h : Is P W name zs) (hg : P.globalNamed name = some g) (i : Nat) (z : Rw) (hi : zs[i]? = some z) :
    W.cell? ⟨g, i * 3, none⟩ = some (.string ⟨z.1.toArray⟩) ∧ W.cell? ⟨g, i * 3 + 1, none⟩ = some (.int .i64 z.2.1) ∧ W.cell? ⟨g, i * 3 + 2, none⟩ = some (.int .i64 z.2.2) := by
  have f := fun j hj => flat_at zs i z hi j hj
  refine ⟨?_, ?_, ?_⟩
  · have := World.var?_cell hg h (i * 3)
    rw [this]; simpa [rowC] using f 0 (by omega)
  · have := World.var?_cell hg h (i * 3 + 1)
    rw [this]; simpa [rowC] using f 1 (by omega)
  · have := World.var?_cell hg h (i * 3 + 2)
    rw [this]; simpa [rowC] using f 2 (by omega)
/-- The rows of the notations. -/
def rows : List Rw := [([], 0, 0), ([], 6, 0), ([], 6, 0), ([45], 5, 1), ([110, 111, 116], 5, 1), ([42], 4, 2), ([47], 4, 2), ([37], 4, 2), ([43], 3, 2), ([45], 3, 2), ([38], 3, 2), ([60], 2, 2), ([60, 61], 2, 2), ([61], 2, 2), ([33, 61], 2, 2), ([97, 110, 100], 1, 2), ([111, 114], 0, 2), ([105, 102], 6, 3), ([108, 101, 110], 6, 1)]
end Go.Proofs.Ytonlkmkfcaadlaa.NotTab
