/- The names of a formula's references, in preorder: names.visit, names.refs. Contract of names.Has. -/
import Derived.Test.YtdlfhldboagbeaaExCheck
import Derived.Test.YtdlfhldboagbeaaMaths
import Derived.Test.YtdlfhldboagbeaaNmPut
import Derived.RangeFuncBox
namespace Go.Proofs.Ytdlfhldboagbeaa.NmV
open Go.RowKit Go.Shelf
open ExM NmM Kit ExL ExV
set_option linter.unusedVariables false
attribute [local go_sem] Oper.semAt_some

/-- A name as it is handed out. -/
abbrev Nm := { s : ByteArray // s.size ≤ maxLen }
def encs (x : Nm) : Array Value := #[.string x.1]
def bare (l : List Nm) : List ByteArray := l.map Subtype.val
theorem bare_append (l m : List Nm) : bare (l ++ m) = bare l ++ bare m := List.map_append
theorem bare_len (l : List Nm) : (bare l).length = l.length := List.length_map _

def VOut (w0 : World) (n₁ : Nat) (J Jx : List Nm → World → Prop) (pre : List Nm) (P : List ByteArray) (W : World) (e : Ending) (W' : World) : Prop :=
  (e = .returned (.bool true) ∧ (∃ ys : List Nm, bare ys = P ∧ J (pre ++ ys) W') ∧ Kp w0.heap.size n₁ W W') ∨ (e = .returned (.bool false) ∧ ∃ q : List Nm, bare q <+: P ∧ Jx (pre ++ q) W')
structure VInv (w0 : World) (n₁ : Nat) (J : List Nm → World → Prop) (pre : List Nm) (P : List ByteArray) (W : World) (ys : List Nm) (wr : World) : Prop where
  is : bare ys = P
  j : J (pre ++ ys) wr
  kp : Kp w0.heap.size n₁ W wr
  below : Below w0.heap.size w0 wr
  le : n₁ ≤ wr.heap.size
theorem VInv.step {w0 : World} {n₁ : Nat} {J : List Nm → World → Prop} {pre : List Nm} {p0 : List ByteArray} {l : List Ex} {k : Nat} {W wr w2 : World} {ys zs : List Nm} {o : Obj} (h : VInv w0 n₁ J pre (p0 ++ refsL (l.take k)) W ys wr) (hk : k < l.length)
    (hz : bare zs = Ex.refs l[k]) (hj : J (pre ++ ys ++ zs) w2) (hp : Kp w0.heap.size n₁ (wr.alloc o) w2) : VInv w0 n₁ J pre (p0 ++ refsL (l.take (k + 1))) W (ys ++ zs) w2 := by
  have hp2 : Kp w0.heap.size n₁ wr w2 := (Kp.alloc o h.below.size).trans hp
  exact ⟨by rw [bare_append, h.is, hz, refsL_at l k hk, List.append_assoc], by rw [← List.append_assoc]; exact hj, h.kp.trans hp2, h.below.trans hp2.below, by have := hp2.below.size; have := h.le; omega⟩

end Go.Proofs.Ytdlfhldboagbeaa.NmV
namespace Go.Proofs.Ytdlfhldboagbeaa.NmH
open Go.RowKit Go.Shelf
open ExM NmM Kit ExL ExV NmV
set_option linter.unusedVariables false
attribute [local go_sem] Oper.semAt_some

theorem hasB_snoc (l : List ByteArray) (t s : ByteArray) : hasB (l ++ [t]) s = (hasB l s || decide (t = s)) := by rw [hasB_append, hasB_cons, hasB_nil, Bool.or_false]
theorem box1 (w : World) (o0 o1 o2 o3 : Obj) : ((((w.alloc o0).alloc o1).alloc o2).alloc o3).heap[w.heap.size]? = some o0 ∧ ((((w.alloc o0).alloc o1).alloc o2).alloc o3).heap[w.heap.size + 1]? = some o1 ∧ ((((w.alloc o0).alloc o1).alloc o2).alloc o3).heap[w.heap.size + 1 + 1]? = some o2 ∧ ((((w.alloc o0).alloc o1).alloc o2).alloc o3).heap[w.heap.size + 1 + 1 + 1]? = some o3 := NmP.box2 w o0 o1 o2 o3

end Go.Proofs.Ytdlfhldboagbeaa.NmH
