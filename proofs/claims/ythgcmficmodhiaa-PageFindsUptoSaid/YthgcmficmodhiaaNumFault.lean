/- Contracts of the reference's NumFault (chapter 1), for all arguments. -/
import Derived.Test.YthgcmficmodhiaaChecked
import Derived.Test.YthgcmficmodhiaaBase
import Derived.WalkKit
import Derived.ProofKit
import Derived.Lib.Hide
namespace Go.Proofs.Ythgcmficmodhiaa.NumRef
open Go.RowKit
open NumM
set_option linter.unusedVariables false

theorem ret_int {k : IntKind} {a b : Int} (h : a = b) : Ending.returned (.int k a) = .returned (.int k b) := by rw [h]
theorem ret_pair {k : IntKind} {a b c d : Int} (h : a = b) (g : c = d) : Ending.returned (.tuple #[.int k a, .int k c]) = .returned (.tuple #[.int k b, .int k d]) := by rw [h, g]

end Go.Proofs.Ythgcmficmodhiaa.NumRef
