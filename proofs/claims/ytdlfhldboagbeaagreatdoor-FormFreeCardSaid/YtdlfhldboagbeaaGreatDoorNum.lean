/- Contracts of package num (chapter 1): what each of its Go functions returns, for all arguments. Contracts of package num (chapter 1): Div and Mod, for all arguments. Contracts of the reference's NumFault (chapter 1), for all arguments. -/
import Derived.Test.YtdlfhldboagbeaaGreatDoorChecked
import Derived.Test.YtdlfhldboagbeaaGreatDoorBase
import Derived.WalkKit
import Derived.ProofKit
import Derived.Lib.Hide
import Derived.Deep.QuietTactic
import Derived.BigQuiet
import Derived.WalkSmall
namespace Go.Proofs.YtdlfhldboagbeaaGreatDoor.Num
open Go.RowKit
open NumM
set_option linter.unusedVariables false

theorem ret_int {k : IntKind} {a b : Int} (h : a = b) : Ending.returned (.int k a) = .returned (.int k b) := by rw [h]
theorem ret_pair {k : IntKind} {a b c d : Int} (h : a = b) (g : c = d) : Ending.returned (.tuple #[.int k a, .int k c]) = .returned (.tuple #[.int k b, .int k d]) := by rw [h, g]

/-- What a second call leaves alone, the two leave alone. -/
theorem _root_.Go.Proofs.YtdlfhldboagbeaaGreatDoor.below_trans {w w1 w2 : World} (h1 : Below w.heap.size w w1) (h2 : Below w1.heap.size w1 w2) : Below w.heap.size w w2 := h1.trans (h2.mono h1.size)

theorem hmf : ∀ (fn : Fn) (first cap : Array Value) (w : World), (Instr.makeFunc fn first cap).run Tryz.prog w = .ok (.func fn first cap) w := fun _ _ _ _ => rfl

theorem check_in (n : Int) (w : World) (h1 : -1099511627776 ≤ n) (h2 : n ≤ 1099511627776) :
    Calls Tryz.prog 160 #[.int .i64 n] w fun e w' => e = .returned (.int .i64 0) ∧ w = w' := by
  go_enter Tryz.func160, Tryz.ntmps160
  go_wp2
  go_ret
  exact ⟨rfl, rfl⟩

theorem check_out (n : Int) (w : World) (h : n < -1099511627776 ∨ 1099511627776 < n) :
    Calls Tryz.prog 160 #[.int .i64 n] w fun e w' => e = .returned (.int .i64 7) ∧ w = w' := by
  rcases h with h | h
  · go_enter Tryz.func160, Tryz.ntmps160
    go_wp2
    go_ret
    exact ⟨rfl, rfl⟩
  · have h' : ¬ n < -1099511627776 := by omega
    go_enter Tryz.func160, Tryz.ntmps160
    go_wp2
    go_ret
    exact ⟨rfl, rfl⟩

/-- Check, for all numbers. -/
theorem check_any (n : Int) (w : World) :
    Calls Tryz.prog 160 #[.int .i64 n] w fun e w' => e = .returned (.int .i64 (if okN n then 0 else 7)) ∧ w = w' := by
  by_cases h : okN n = true
  · rw [if_pos h]; exact check_in n w (okN_iff.1 h).1 (okN_iff.1 h).2
  · rw [if_neg h]; exact check_out n w (okN_not.1 h)

/-! ### Add -/
/-! ### Sub -/
/-! ### Mul -/
end Go.Proofs.YtdlfhldboagbeaaGreatDoor.Num
namespace Go.Proofs.YtdlfhldboagbeaaGreatDoor.Num
open Go.RowKit
open NumM
set_option linter.unusedVariables false

/-! ### quotient -/
/-! ### Div -/
/-! ### Mod -/
end Go.Proofs.YtdlfhldboagbeaaGreatDoor.Num
namespace Go.Proofs.YtdlfhldboagbeaaGreatDoor.NumRef
open Go.RowKit
open NumM
set_option linter.unusedVariables false

theorem ret_int {k : IntKind} {a b : Int} (h : a = b) : Ending.returned (.int k a) = .returned (.int k b) := by rw [h]
theorem ret_pair {k : IntKind} {a b c d : Int} (h : a = b) (g : c = d) : Ending.returned (.tuple #[.int k a, .int k c]) = .returned (.tuple #[.int k b, .int k d]) := by rw [h, g]

theorem fault_in (n : Int) (w : World) (h1 : -1099511627776 ≤ n) (h2 : n ≤ 1099511627776) :
    Calls Tryz.prog 156 #[.int .i64 n] w fun e w' => e = .returned (.int .i64 0) ∧ w = w' := by
  go_enter Tryz.func156, Tryz.ntmps156
  go_wp2
  go_ret
  exact ⟨rfl, rfl⟩

theorem fault_out (n : Int) (w : World) (h : n < -1099511627776 ∨ 1099511627776 < n) :
    Calls Tryz.prog 156 #[.int .i64 n] w fun e w' => e = .returned (.int .i64 7) ∧ w = w' := by
  rcases h with h | h
  · have h' : ¬ 1099511627776 < n := by omega
    go_enter Tryz.func156, Tryz.ntmps156
    go_wp2
    go_ret
    exact ⟨rfl, rfl⟩
  · go_enter Tryz.func156, Tryz.ntmps156
    go_wp2
    go_ret
    exact ⟨rfl, rfl⟩

theorem fault_any (n : Int) (w : World) :
    Calls Tryz.prog 156 #[.int .i64 n] w fun e w' => e = .returned (.int .i64 (if okN n then 0 else 7)) ∧ w = w' := by
  by_cases h : okN n = true
  · rw [if_pos h]; exact fault_in n w (okN_iff.1 h).1 (okN_iff.1 h).2
  · rw [if_neg h]; exact fault_out n w (okN_not.1 h)

end Go.Proofs.YtdlfhldboagbeaaGreatDoor.NumRef
