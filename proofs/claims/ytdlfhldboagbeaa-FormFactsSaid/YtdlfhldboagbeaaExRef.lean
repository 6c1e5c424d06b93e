/- The reference's ExprSize, argsOf, partFault, ExprFault. -/
import Derived.Test.YtdlfhldboagbeaaExCheck
import Derived.Test.YtdlfhldboagbeaaValue
import Derived.Deep.DeepCutAuto
import Derived.Deep.CutBlock
namespace Go.Proofs.Ytdlfhldboagbeaa.ExR
open Go.RowKit
open ValM LexM ExM Kit ExL ExN
set_option linter.unusedVariables false

/-- A node is right, as the reference says it. -/
theorem good_const {k n : Int} {s nm : ByteArray} {m : Nat} : nodeE ⟨1, k, n, s, nm⟩ m = if (decide (m = 0) && nm.data.toList.isEmpty && knownB k n s.data.toList && (!decide (k = 1) || decide (0 ≤ n))) = true then 0 else 3 := by
  unfold nodeE vOk nmOk
  rw [if_neg (show ¬ ((1 : Int) < 1 ∨ 18 < (1 : Int)) by omega), if_pos rfl, if_neg (show ¬ (1 : Int) = 2 by omega)]
  rw [show arity 1 = 0 from rfl]
  simp only [Bool.and_eq_true, Bool.or_eq_true, decide_eq_true_eq, Bool.not_eq_true', decide_eq_false_iff_not, Bool.and_eq_false_imp]
  congr 1
  apply propext
  constructor
  · rintro ⟨h1, ⟨h2, h3⟩, h4⟩; exact ⟨⟨⟨h1, h4⟩, h2⟩, by by_cases h : k = 1; right; have := h3 h; omega; left; exact h⟩
  · rintro ⟨⟨⟨h1, h4⟩, h2⟩, h3⟩; exact ⟨h1, ⟨h2, fun h => by rcases h3 with h5 | h5; exact absurd h h5; omega⟩, h4⟩

theorem good_other {op k n : Int} {s nm : ByteArray} {m : Nat} (h1 : ¬ op < 1) (h2 : ¬ 18 < op) (h3 : op ≠ 1) : nodeE ⟨op, k, n, s, nm⟩ m = if (decide (m = arity op) && (decide (k = 0) && decide (n = 0) && s.data.toList.isEmpty) && (if op = 2 then decide (LexB.nameE nm.data.toList = 0) else nm.data.toList.isEmpty)) = true then 0 else 3 := by
  unfold nodeE vOk nmOk
  rw [if_neg (show ¬ (op < 1 ∨ 18 < op) by omega), if_neg h3, nmB_iff]
  simp only [Bool.and_eq_true, decide_eq_true_eq, and_assoc]
theorem ifz (b : Bool) : decide ((if b = true then (0 : Int) else 3) = 0) = b := by cases b <;> rfl
end Go.Proofs.Ytdlfhldboagbeaa.ExR
