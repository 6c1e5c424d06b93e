/- Contracts of package value (chapter 2): Check, Known, Zero, Compare. Contracts of the reference of chapter 2: ValueFault, Known, ValueOrder. -/
import Derived.Test.YtonlkmkfcaadlaaChecked
import Derived.Test.YtonlkmkfcaadlaaNum
import Derived.Test.YtonlkmkfcaadlaaBase
import Derived.WalkKit
import Derived.WalkSpells
import Derived.ProofKit
import Derived.Lib.Hide
import Derived.WalkLawsBesides
import Derived.Outline
import Derived.Test.YtonlkmkfcaadlaaKit
import Derived.Deep.QuietTactic
import Derived.BigQuiet
namespace Go.Proofs.Ytonlkmkfcaadlaa.Val
open Go.RowKit
open NumM ValM
set_option linter.unusedVariables false

/-! ### checkNumber -/
/-! ### checkString -/
theorem empty_b (s : ByteArray) (h : 0 < s.size) : (!s.toList.isEmpty) = true ∧ s.toList.isEmpty = false := by
  have := not_nil s h
  have h2 : s.data.toList.isEmpty = false := List.isEmpty_eq_false_iff.2 this
  rw [ByteArray.toList_eq, h2]
  exact ⟨rfl, rfl⟩

/-! ### Check, Known, Zero -/
end Go.Proofs.Ytonlkmkfcaadlaa.Val
namespace Go.Proofs.Ytonlkmkfcaadlaa.ValRef
open Go.RowKit
open NumM ValM Kit
set_option linter.unusedVariables false

/-! ### ValueFault, by the kind -/
end Go.Proofs.Ytonlkmkfcaadlaa.ValRef
