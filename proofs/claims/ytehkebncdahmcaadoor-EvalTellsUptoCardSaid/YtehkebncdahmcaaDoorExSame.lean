/- Two formulas that are the same tree: sameExpr, SameExpr, slices.EqualFunc on operands. -/
import Derived.Test.YtehkebncdahmcaaDoorEx
import Derived.ChangeAlike
namespace Go.Proofs.YtehkebncdahmcaaDoor.ExS
open Go.RowKit
open ExM Kit ExL
set_option linter.unusedVariables false

/-- What a comparison of formulas promises at these formulas. -/
def SameAt (g : FuncId) (x : Ex) : Prop := ∀ (d : Nd) (A A' : Option Addr) (n n' c c' : Nat) (W : World), Is W x d A n → Is W x d A' n' →
  Calls Tryd.prog g #[.agg #[.int .i64 d.op, .int .i64 d.k, .int .i64 d.n, .string d.s, .string d.nm, .slice A n c], .agg #[.int .i64 d.op, .int .i64 d.k, .int .i64 d.n, .string d.s, .string d.nm, .slice A' n' c']] W fun e w' => e = .returned (.bool true) ∧ Below W.heap.size W w'
def Row (w : World) (A : Option Addr) (l : List Ex) : Prop := ∀ (j : Nat) (h : j < l.length), ∃ a d B n c, A = some a ∧ At w (a.add (j * 6)) d B n c ∧ Is w l[j] d B n
theorem Row.below {w w' : World} {A : Option Addr} {l : List Ex} (h : Row w A l) (hb : Below w.heap.size w w') : Row w' A l := fun j hj => by
  obtain ⟨a, d, B, n, c, e, ha, hi⟩ := h j hj
  exact ⟨a, d, B, n, c, e, ha.below hb, hi.below hb⟩
theorem is_d {w : World} {x : Ex} {d : Nd} {A : Option Addr} {n : Nat} (h : Is w x d A n) : d = x.d := by
  cases x; rw [is_mk] at h; exact h.1

end Go.Proofs.YtehkebncdahmcaaDoor.ExS
