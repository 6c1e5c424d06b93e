/- The reference's typeOf, TypeOf, TypeFits. -/
import Derived.Test.YtdlfhldboagbeaaTyOf
import Derived.Test.YtdlfhldboagbeaaExRef
import Derived.Deep.DeepCutAuto
namespace Go.Proofs.Ytdlfhldboagbeaa.TyR
open Go.RowKit
open ExM Kit ExL GenL TyM Ty TyT TyO ExN
set_option linter.unusedVariables false
attribute [local go_sem] Go.undef

theorem uni_good {req ts : List Int} {want own : Int} (h0 : want ≠ 0) (ho : own ≠ 0) (hr : ∀ i, i < req.length → req.getD i 0 = want) (hl : ts.length = req.length) (h : ∀ i, i < ts.length → ts.getD i 0 = want) : applyR req own ts = (own, 0) := by
  unfold applyR
  rw [if_pos, settl, if_neg ho]
  intro i hi
  rw [hr i hi, settl, if_neg h0]
  exact h i (by omega)
theorem uni_bad {req ts : List Int} {want own : Int} (h0 : want ≠ 0) (hr : ∀ i, i < req.length → req.getD i 0 = want) (hl : ts.length = req.length) (i : Nat) (hi : i < ts.length) (h : ts.getD i 0 ≠ want) : applyR req own ts = (0, 9) := by
  unfold applyR
  rw [if_neg]
  intro g
  have := g i (by omega)
  rw [hr i (by omega), settl, if_neg h0] at this
  exact h this
theorem cmp_R (a b : Int) : applyR [0, 0] 2 [a, b] = if a = b then (2, 0) else (0, 9) := by
  unfold applyR
  by_cases h : a = b
  · rw [if_pos h, if_pos]; · rfl
    intro i hi
    match i, hi with
    | 0, _ => exact h
    | 1, _ => rfl
    | i + 2, hi => exact absurd hi (by simp)
  · rw [if_neg h, if_neg]
    intro g
    exact h (g 0 (by simp))
theorem if_R (a b c : Int) : applyR [2, 0, 0] 0 [a, b, c] = if a = 2 then (if b = c then (c, 0) else (0, 9)) else (0, 9) := by
  unfold applyR
  by_cases h : a = 2
  · rw [if_pos h]
    by_cases h2 : b = c
    · rw [if_pos h2, if_pos]; · rfl
      intro i hi
      match i, hi with
      | 0, _ => exact h
      | 1, _ => exact h2
      | 2, _ => rfl
      | i + 3, hi => exact absurd hi (by simp)
    · rw [if_neg h2, if_neg]
      intro g
      exact h2 (g 1 (by simp))
  · rw [if_neg h, if_neg]
    intro g
    exact h (g 0 (by simp))

/-- Between two operands. -/
structure RInv (w W1 : World) (fs : List GenL.Fd) (l : List Ex) (k : Nat) (v : Value) (wr : World) : Prop where
  le : k ≤ l.length
  err : errL (tyL (fts fs) (l.take k)) = 0
  row : wr.ownsRow (w.heap.size + 1) 3 1 v k (vals (tyL (fts fs) (l.take k)))
  below : Below (w.heap.size + 1) W1 wr
theorem RInv.step {w W1 : World} {fs : List GenL.Fd} {l : List Ex} {k : Nat} {v v' : Value} {wr w1 w3 : World} {o : Obj} (h : RInv w W1 fs l k v wr) (hs : W1.heap.size = w.heap.size + 1) (hk : k < l.length) (hb : Below wr.heap.size wr w1) (h0 : (Ex.ty (fts fs) l[k]).2 = 0)
    (ho : w3.ownsRow (w.heap.size + 1) 3 1 v' (k + 1) (vals (tyL (fts fs) (l.take k)) ++ [.int .i64 (Ex.ty (fts fs) l[k]).1])) (hg : (w1.alloc o).grownBy w3 v.ownBlock) : RInv w W1 fs l (k + 1) v' w3 := by
  have hsz := h.below.size
  have hbs := hb.size
  refine ⟨hk, by rw [errL_at _ l k hk h.err, h0], by rw [tyL_at _ l k hk, vals_snoc]; exact ho, ?_⟩
  exact ((h.below.trans (hb.mono (by omega))).alloc (by omega) _).grown hg (by simp; omega) (fun g hg => (h.row.lt g hg).1)
theorem RInv.kept {w W1 : World} {fs : List GenL.Fd} {l : List Ex} {k : Nat} {v : Value} {wr w1 : World} (h : RInv w W1 fs l k v wr) (hb : Below wr.heap.size wr w1) : w1.ownsRow (w.heap.size + 1) 3 1 v k (vals (tyL (fts fs) (l.take k))) := own_below h.row hb

end Go.Proofs.Ytdlfhldboagbeaa.TyR
