/- A region that draws its order and only adds to memory until its last operation: each result has a property of its own, that more memory does not take away. -/
import Derived.Test.YtdlfhldboagbeaaRegInv
import Derived.Below
namespace Go.Proofs.Ytdlfhldboagbeaa.RegI
open Go.RowKit
set_option linter.unusedVariables false

theorem op_index {P : Program} {w : World} {o : Oper} {ρ : Operand → Value} {t : TypeId} {x y : Operand} {p q v : Value} (ho : o.op = .indexAddr t x y) (hx : ρ x = p) (hy : ρ y = q) (h : (Instr.indexAt t p q).run P w = .ok v w) : (execOp ρ o).run P w = .ok (.value v) w := by
  unfold execOp; rw [ho]; subst hx; subst hy; simp only [Sem.run_bind, h]; rfl
theorem op_bin {P : Program} {w : World} {o : Oper} {ρ : Operand → Value} {b : BinOp} {t u : TypeId} {x y : Operand} {p q v : Value} (ho : o.op = .binOp b t x y u) (hx : ρ x = p) (hy : ρ y = q) (h : (do eqGuard b t x y p q; binOp b t p q : Sem Value).run P w = .ok v w) : (execOp ρ o).run P w = .ok (.value v) w := by
  unfold execOp; rw [ho]; subst hx; subst hy; simp only [Sem.run_bind] at h ⊢; rw [h]; rfl
theorem op_build {P : Program} {w : World} {o : Oper} {ρ : Operand → Value} {t : TypeId} {ps : Array (Nat × Operand)} {qs : Array (Nat × Value)} {v : Value} (ho : o.op = .build t ps) (hx : ps.map (fun (i, x) => (i, ρ x)) = qs) (h : (Instr.build t qs).run P w = .ok v w) : (execOp ρ o).run P w = .ok (.value v) w := by
  unfold execOp; rw [ho]; subst hx; simp only [Sem.run_bind, h]; rfl

def JM (W0 : World) (last : Nat) (V : Nat → Value → World → Prop) (Fin : (Nat → Value) → World → Prop) (D : Nat → Bool) (f : Nat → Value) (w : World) : Prop :=
  (D last = false ∧ Below W0.heap.size W0 w ∧ ∀ i, i < last → D i = true → V i (f i) w) ∨ (D last = true ∧ (∀ i, i < last → D i = true) ∧ Fin f w)
theorem jm_start {W0 W : World} {last : Nat} {V : Nat → Value → World → Prop} {Fin : (Nat → Value) → World → Prop} (h : Below W0.heap.size W0 W) (f : Nat → Value) : JM W0 last V Fin (fun _ => false) f W.drew :=
  .inl ⟨rfl, ⟨h.os, h.tape, h.output, h.size, h.block⟩, fun i _ h => by simp at h⟩
theorem jm_live {W0 : World} {last : Nat} {V : Nat → Value → World → Prop} {Fin : (Nat → Value) → World → Prop} {D : Nat → Bool} {f : Nat → Value} {w : World} (h : JM W0 last V Fin D f w) {i : Nat} (hi : i ≤ last) (hD : D i = false) : D last = false ∧ Below W0.heap.size W0 w ∧ ∀ i, i < last → D i = true → V i (f i) w := by
  rcases h with h | ⟨h1, h2, h3⟩
  · exact h
  · rcases Nat.lt_or_eq_of_le hi with hi | rfl
    · rw [h2 i hi] at hD; cases hD
    · rw [h1] at hD; cases hD
theorem jm_step {W0 : World} {last : Nat} {V : Nat → Value → World → Prop} {Fin : (Nat → Value) → World → Prop} {D : Nat → Bool} {f : Nat → Value} {w w' : World} (hm : ∀ i v w w', Below w.heap.size w w' → V i v w → V i v w') (h : JM W0 last V Fin D f w) {i : Nat} (hi : i < last) (hD : D i = false) {v : Value} (hb : Below w.heap.size w w') (hV : V i v w') : JM W0 last V Fin (upd D i) (updf f i v) w' := by
  obtain ⟨h1, h2, h3⟩ := jm_live h (Nat.le_of_lt hi) hD
  refine .inl ⟨by rw [upd_ne _ _ _ (by omega)]; exact h1, h2.trans (hb.mono h2.size), fun j hj hDj => ?_⟩
  by_cases e : j = i
  · subst e; rw [updf_at]; exact hV
  · rw [updf_ne _ _ _ _ e]; rw [upd_ne _ _ _ e] at hDj; exact hm _ _ _ _ hb (h3 j hj hDj)
theorem jm_last {W0 : World} {last : Nat} {V : Nat → Value → World → Prop} {Fin : (Nat → Value) → World → Prop} {D : Nat → Bool} {f : Nat → Value} {w : World} (hall : ∀ i, i < last → D i = true) (hF : Fin f w) : JM W0 last V Fin (upd D last) f w :=
  .inr ⟨upd_at _ _, fun i hi => by rw [upd_ne _ _ _ (by omega)]; exact hall i hi, hF⟩
theorem jm_end {W0 : World} {last : Nat} {V : Nat → Value → World → Prop} {Fin : (Nat → Value) → World → Prop} {D : Nat → Bool} {f : Nat → Value} {w : World} (h : JM W0 last V Fin D f w) (hD : D last = true) : Fin f w := by
  rcases h with ⟨h1, _⟩ | ⟨_, _, h⟩
  · rw [h1] at hD; cases hD
  · exact h
theorem b_ref (w : World) : Below w.heap.size w w := Below.refl _ _
end Go.Proofs.Ytdlfhldboagbeaa.RegI
