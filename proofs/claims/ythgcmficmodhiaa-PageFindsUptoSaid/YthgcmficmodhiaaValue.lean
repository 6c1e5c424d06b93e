/- Contracts of package value (chapter 2): Check, Known, Zero, Compare. Contracts of the reference of chapter 2: ValueFault, Known, ValueOrder. -/
import Derived.Test.YthgcmficmodhiaaChecked
import Derived.Test.YthgcmficmodhiaaNum
import Derived.Test.YthgcmficmodhiaaBase
import Derived.WalkKit
import Derived.WalkSpells
import Derived.ProofKit
import Derived.Lib.Hide
import Derived.WalkLawsBesides
import Derived.Outline
import Derived.Test.YthgcmficmodhiaaNumFault
import Derived.Test.YthgcmficmodhiaaKit
import Derived.Deep.QuietTactic
import Derived.BigQuiet
namespace Go.Proofs.Ythgcmficmodhiaa.Val
open Go.RowKit
open NumM ValM
set_option linter.unusedVariables false

/-! ### checkNumber -/
/-! ### checkString -/
theorem empty_b (s : ByteArray) (h : 0 < s.size) : (!s.toList.isEmpty) = true ∧ s.toList.isEmpty = false := by
  have := not_nil s h
  have h2 : s.data.toList.isEmpty = false := List.isEmpty_eq_false_iff.2 this
  rw [ByteArray.toList_eq, h2]
  exact ⟨rfl, rfl⟩

/-! ### Check, Known, Zero -/
end Go.Proofs.Ythgcmficmodhiaa.Val
namespace Go.Proofs.Ythgcmficmodhiaa.ValRef
open Go.RowKit
open NumM ValM Kit
set_option linter.unusedVariables false

/-! ### ValueFault, by the kind -/
end Go.Proofs.Ythgcmficmodhiaa.ValRef
