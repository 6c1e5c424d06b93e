/- Values where they lie: a slice of them. -/
import Derived.Test.YtonlkmkfcaadlaaKit
import Derived.Test.YtonlkmkfcaadlaaMaths
namespace Go.Proofs.Ytonlkmkfcaadlaa.VlS
open Go.RowKit
open EvM Kit
set_option linter.unusedVariables false

/-- A value where it lies. -/
def VlAt (w : World) (a : Addr) (v : Vl) : Prop := w.cell? a = some (.int .i64 v.k) ∧ w.cell? ⟨a.block, a.off + 1, none⟩ = some (.int .i64 v.n) ∧ w.cell? ⟨a.block, a.off + 2, none⟩ = some (.string v.s)
/-- A slice of values. -/
def Vls (w : World) (A : Option Addr) (vs : List Vl) : Prop := ∀ (i : Nat) (h : i < vs.length), ∃ ad, A = some ad ∧ VlAt w (ad.add (i * 3)) vs[i]
theorem VlAt.below {w w' : World} {a : Addr} {v : Vl} (h : VlAt w a v) (hb : Below w.heap.size w w') : VlAt w' a v :=
  ⟨(hb.cell (World.block_lt_of_cell? w _ h.1)).trans h.1, (hb.cell (World.block_lt_of_cell? w _ h.2.1)).trans h.2.1, (hb.cell (World.block_lt_of_cell? w _ h.2.2)).trans h.2.2⟩
theorem Vls.below {w w' : World} {A : Option Addr} {vs : List Vl} (h : Vls w A vs) (hb : Below w.heap.size w w') : Vls w' A vs := fun i hi => by
  obtain ⟨ad, e, h1⟩ := h i hi
  exact ⟨ad, e, h1.below hb⟩
/-! ### which of them differ -/
open Classical in
/-- The names of the first k fields whose values are not the same. -/
noncomputable def diffK (nm : Nat → ByteArray) (a b : Nat → Vl) : Nat → List ByteArray
  | 0 => []
  | k + 1 => if a k = b k then diffK nm a b k else diffK nm a b k ++ [nm k]
theorem diff_same {nm : Nat → ByteArray} {a b : Nat → Vl} {k : Nat} (h : a k = b k) : diffK nm a b (k + 1) = diffK nm a b k := if_pos h
theorem diff_other {nm : Nat → ByteArray} {a b : Nat → Vl} {k : Nat} (h : a k ≠ b k) : diffK nm a b (k + 1) = diffK nm a b k ++ [nm k] := if_neg h
theorem diff_len (nm : Nat → ByteArray) (a b : Nat → Vl) : ∀ k, (diffK nm a b k).length ≤ k
  | 0 => Nat.le_refl _
  | k + 1 => by
    have := diff_len nm a b k
    unfold diffK
    split
    · omega
    · rw [List.length_append]; simp; omega
theorem diff_mem (nm : Nat → ByteArray) (a b : Nat → Vl) (s : ByteArray) : ∀ k, s ∈ diffK nm a b k ↔ ∃ i, i < k ∧ nm i = s ∧ a i ≠ b i
  | 0 => by simp [diffK]
  | k + 1 => by
    by_cases h : a k = b k
    · rw [diff_same h, diff_mem nm a b s k]
      constructor
      · rintro ⟨i, h1, h2⟩; exact ⟨i, by omega, h2⟩
      · rintro ⟨i, h1, h2, h3⟩
        refine ⟨i, ?_, h2, h3⟩
        by_cases e : i = k
        · subst e; exact absurd h h3
        · omega
    · rw [diff_other h, List.mem_append, List.mem_singleton, diff_mem nm a b s k]
      constructor
      · rintro (⟨i, h1, h2⟩ | rfl)
        · exact ⟨i, by omega, h2⟩
        · exact ⟨k, by omega, rfl, h⟩
      · rintro ⟨i, h1, h2, h3⟩
        by_cases e : i = k
        · subst e; exact .inr h2.symm
        · exact .inl ⟨i, by omega, h2, h3⟩
theorem diff_none (nm : Nat → ByteArray) (a : Nat → Vl) : ∀ k, diffK nm a a k = []
  | 0 => rfl
  | k + 1 => by rw [diff_same rfl, diff_none nm a k]
def vAt (l : List Vl) (i : Nat) : Vl := (l[i]?).getD ⟨0, 0, ⟨#[]⟩⟩
theorem vAt_at {l : List Vl} {i : Nat} (h : i < l.length) : vAt l i = l[i] := by unfold vAt; rw [List.getElem?_eq_getElem h]; rfl
end Go.Proofs.Ytonlkmkfcaadlaa.VlS
