/- Contracts of package num (chapter 1): what each of its Go functions returns, for all arguments. Contracts of package num (chapter 1): Div and Mod, for all arguments. Contracts of the reference's NumFault (chapter 1), for all arguments. -/
import Derived.Test.YtonlkmkfcaadlaaChecked
import Derived.Test.YtonlkmkfcaadlaaBase
import Derived.WalkKit
import Derived.ProofKit
import Derived.Lib.Hide
import Derived.Deep.QuietTactic
import Derived.BigQuiet
import Derived.WalkSmall
namespace Go.Proofs.Ytonlkmkfcaadlaa.Num
open Go.RowKit
open NumM
set_option linter.unusedVariables false

theorem ret_int {k : IntKind} {a b : Int} (h : a = b) : Ending.returned (.int k a) = .returned (.int k b) := by rw [h]
theorem ret_pair {k : IntKind} {a b c d : Int} (h : a = b) (g : c = d) : Ending.returned (.tuple #[.int k a, .int k c]) = .returned (.tuple #[.int k b, .int k d]) := by rw [h, g]

/-- What a second call leaves alone, the two leave alone. -/
theorem _root_.Go.Proofs.Ytonlkmkfcaadlaa.below_trans {w w1 w2 : World} (h1 : Below w.heap.size w w1) (h2 : Below w1.heap.size w1 w2) : Below w.heap.size w w2 := h1.trans (h2.mono h1.size)

theorem hmf : ∀ (fn : Fn) (first cap : Array Value) (w : World), (Instr.makeFunc fn first cap).run Try.prog w = .ok (.func fn first cap) w := fun _ _ _ _ => rfl

/-! ### Add -/
/-! ### Sub -/
/-! ### Mul -/
end Go.Proofs.Ytonlkmkfcaadlaa.Num
namespace Go.Proofs.Ytonlkmkfcaadlaa.Num
open Go.RowKit
open NumM
set_option linter.unusedVariables false

/-! ### quotient -/
/-! ### Div -/
/-! ### Mod -/
end Go.Proofs.Ytonlkmkfcaadlaa.Num
namespace Go.Proofs.Ytonlkmkfcaadlaa.NumRef
open Go.RowKit
open NumM
set_option linter.unusedVariables false

theorem ret_int {k : IntKind} {a b : Int} (h : a = b) : Ending.returned (.int k a) = .returned (.int k b) := by rw [h]
theorem ret_pair {k : IntKind} {a b c d : Int} (h : a = b) (g : c = d) : Ending.returned (.tuple #[.int k a, .int k c]) = .returned (.tuple #[.int k b, .int k d]) := by rw [h, g]

end Go.Proofs.Ytonlkmkfcaadlaa.NumRef
