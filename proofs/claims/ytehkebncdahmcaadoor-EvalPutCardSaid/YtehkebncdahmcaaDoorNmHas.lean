/- Contract of names.Has. -/
import Derived.Test.YtehkebncdahmcaaDoorNmVisit
import Derived.Test.YtehkebncdahmcaaDoorExCheck
import Derived.Test.YtehkebncdahmcaaDoorNmPut
import Derived.RangeFuncBox
namespace Go.Proofs.YtehkebncdahmcaaDoor.NmH
open Go.RowKit Go.Shelf
open ExM NmM Kit ExL ExV NmV
set_option linter.unusedVariables false
attribute [local go_sem] Oper.semAt_some

theorem hasB_snoc (l : List ByteArray) (t s : ByteArray) : hasB (l ++ [t]) s = (hasB l s || decide (t = s)) := by rw [hasB_append, hasB_cons, hasB_nil, Bool.or_false]
theorem box1 (w : World) (o0 o1 o2 o3 : Obj) : ((((w.alloc o0).alloc o1).alloc o2).alloc o3).heap[w.heap.size]? = some o0 ∧ ((((w.alloc o0).alloc o1).alloc o2).alloc o3).heap[w.heap.size + 1]? = some o1 ∧ ((((w.alloc o0).alloc o1).alloc o2).alloc o3).heap[w.heap.size + 1 + 1]? = some o2 ∧ ((((w.alloc o0).alloc o1).alloc o2).alloc o3).heap[w.heap.size + 1 + 1 + 1]? = some o3 := NmP.box2 w o0 o1 o2 o3

end Go.Proofs.YtehkebncdahmcaaDoor.NmH
