/- Contracts of names.replaced, names.Put. Rows that a call owns: small lemmas. -/
import Derived.Test.YtonlkmkfcaadlaaNmCopy
import Derived.Test.YtonlkmkfcaadlaaExCheck
import Derived.Test.YtonlkmkfcaadlaaLexBytes
namespace Go.Proofs.Ytonlkmkfcaadlaa.NmP
open Go.RowKit Go.Shelf
open ExM NmM Kit ExL ExP ExV ExN NmC
set_option linter.unusedVariables false

theorem eqs_of (s t : ByteArray) : (s.toList == t.toList) = decide (s = t) := by
  rw [ByteArray.toList_eq, ByteArray.toList_eq]
  by_cases h : s = t
  · subst h; simp
  · rw [decide_eq_false h, beq_eq_false_iff_ne]
    intro e
    apply h
    cases s with | mk a => cases t with | mk b => exact congrArg _ (Array.toList_inj.1 e)
def zeroX : Array Value := #[.int .i64 0, .int .i64 0, .int .i64 0, .string ⟨#[]⟩, .string ⟨#[]⟩, .slice none 0 0]

theorem box2 (w : World) (o0 o1 o2 o3 : Obj) : ((((w.alloc o0).alloc o1).alloc o2).alloc o3).heap[w.heap.size]? = some o0 ∧ ((((w.alloc o0).alloc o1).alloc o2).alloc o3).heap[w.heap.size + 1]? = some o1 ∧ ((((w.alloc o0).alloc o1).alloc o2).alloc o3).heap[w.heap.size + 1 + 1]? = some o2 ∧ ((((w.alloc o0).alloc o1).alloc o2).alloc o3).heap[w.heap.size + 1 + 1 + 1]? = some o3 := by
  have a0 := World.alloc_heap_new w o0
  have a1 := World.alloc_heap_new (w.alloc o0) o1
  have a2 := World.alloc_heap_new ((w.alloc o0).alloc o1) o2
  have a3 := World.alloc_heap_new (((w.alloc o0).alloc o1).alloc o2) o3
  simp only [World.size_alloc] at a1 a2 a3
  have k := fun (v : World) (o : Obj) (b : Nat) (x : Obj) (h : v.heap[b]? = some x) => ((b_new v o).block b (Array.getElem?_eq_some_iff.1 h).1).trans h
  exact ⟨k _ _ _ _ (k _ _ _ _ (k _ _ _ _ a0)), k _ _ _ _ (k _ _ _ _ a1), k _ _ _ _ a2, a3⟩

/-- How a putting together ends. -/
def putR (n : ByteArray) (x y : Ex) : Int := putE n x y (LexB.nameE n.data.toList)
def putZ (n : ByteArray) (x y : Ex) : Ex := if putR n x y = 0 then Ex.put n y x else .mk ⟨0, 0, 0, ⟨#[]⟩, ⟨#[]⟩⟩ []
def PutOut (n : ByteArray) (x y : Ex) (w : World) (e : Ending) (w' : World) : Prop :=
  ∃ (d : Nd) (B : Option Addr) (m c : Nat), e = .returned (.tuple #[.agg #[.int .i64 d.op, .int .i64 d.k, .int .i64 d.n, .string d.s, .string d.nm, .slice B m c], .int .i64 (putR n x y)]) ∧ IsP (fun b => w.heap.size ≤ b) w' (putZ n x y) d B m ∧ Below w.heap.size w w'
theorem putOut_bad {n : ByteArray} {x y : Ex} {w w' : World} {q : Int} (hq : putR n x y = q) (h0 : q ≠ 0) (hb : Below w.heap.size w w') : PutOut n x y w (.returned (.tuple #[.agg #[.int .i64 0, .int .i64 0, .int .i64 0, .string ⟨#[]⟩, .string ⟨#[]⟩, .slice none 0 0], .int .i64 q])) w' := by
  subst hq
  refine ⟨⟨0, 0, 0, ⟨#[]⟩, ⟨#[]⟩⟩, none, 0, 0, rfl, ?_, hb⟩
  unfold putZ; rw [if_neg h0]
  exact isP_leaf _ _ _ _ (Nat.zero_le _) (Nat.zero_le _)
/-- Three boxes: two formulas, and room for a third. -/
structure Bx3 (w : World) (d dy : Nd) (A Ay : Option Addr) (m c my cy : Nat) (W : World) : Prop where
  b0 : Box W w.heap.size d A m c
  b1 : Box W (w.heap.size + 1) dy Ay my cy
  b2 : Box W (w.heap.size + 1 + 1) ⟨0, 0, 0, ⟨#[]⟩, ⟨#[]⟩⟩ none 0 0
theorem Bx3.below {w : World} {d dy : Nd} {A Ay : Option Addr} {m c my cy : Nat} {W W' : World} (h : Bx3 w d dy A Ay m c my cy W) (hb : Below W.heap.size W W') : Bx3 w d dy A Ay m c my cy W' := ⟨h.b0.below hb, h.b1.below hb, h.b2.below hb⟩
theorem Bx3.cells {w : World} {d dy : Nd} {A Ay : Option Addr} {m c my cy : Nat} {W : World} (h : Bx3 w d dy A Ay m c my cy W) :
    (∀ o, W.cell? ⟨w.heap.size, o, none⟩ = (#[.int .i64 d.op, .int .i64 d.k, .int .i64 d.n, .string d.s, .string d.nm, .slice A m c] : Array Value)[o]?) ∧
    (∀ o, W.cell? ⟨w.heap.size + 1, o, none⟩ = (#[.int .i64 dy.op, .int .i64 dy.k, .int .i64 dy.n, .string dy.s, .string dy.nm, .slice Ay my cy] : Array Value)[o]?) ∧
    (∀ o, W.cell? ⟨w.heap.size + 1 + 1, o, none⟩ = (#[.int .i64 0, .int .i64 0, .int .i64 0, .string ⟨#[]⟩, .string ⟨#[]⟩, .slice none 0 0] : Array Value)[o]?) ∧
    (∀ o, W.frozen? ⟨w.heap.size + 1 + 1, o, none⟩ = false) := by
  obtain ⟨h0, h1, h2⟩ := h
  unfold Box at h0 h1 h2
  exact ⟨fun o => by simp [World.cell?, h0], fun o => by simp [World.cell?, h1], fun o => by simp [World.cell?, h2], fun o => by simp [World.frozen?, h2]⟩
theorem bx3_new (w : World) (d dy : Nd) (A Ay : Option Addr) (m c my cy : Nat) : Bx3 w d dy A Ay m c my cy (((w.alloc (.cells #[.int .i64 d.op, .int .i64 d.k, .int .i64 d.n, .string d.s, .string d.nm, .slice A m c] 34)).alloc (.cells #[.int .i64 dy.op, .int .i64 dy.k, .int .i64 dy.n, .string dy.s, .string dy.nm, .slice Ay my cy] 34)).alloc (.cells #[.int .i64 0, .int .i64 0, .int .i64 0, .string ⟨#[]⟩, .string ⟨#[]⟩, .slice none 0 0] 34)) := by
  have a0 := World.alloc_heap_new w (.cells #[.int .i64 d.op, .int .i64 d.k, .int .i64 d.n, .string d.s, .string d.nm, .slice A m c] 34)
  have a1 := World.alloc_heap_new (w.alloc (.cells #[.int .i64 d.op, .int .i64 d.k, .int .i64 d.n, .string d.s, .string d.nm, .slice A m c] 34)) (.cells #[.int .i64 dy.op, .int .i64 dy.k, .int .i64 dy.n, .string dy.s, .string dy.nm, .slice Ay my cy] 34)
  have a2 := World.alloc_heap_new ((w.alloc (.cells #[.int .i64 d.op, .int .i64 d.k, .int .i64 d.n, .string d.s, .string d.nm, .slice A m c] 34)).alloc (.cells #[.int .i64 dy.op, .int .i64 dy.k, .int .i64 dy.n, .string dy.s, .string dy.nm, .slice Ay my cy] 34)) (.cells #[.int .i64 0, .int .i64 0, .int .i64 0, .string ⟨#[]⟩, .string ⟨#[]⟩, .slice none 0 0] 34)
  simp only [World.size_alloc] at a1 a2
  exact ⟨Box.below (Box.below (show Box _ _ d A m c from a0) (b_new _ _)) (b_new _ _), Box.below (show Box _ _ dy Ay my cy from a1) (b_new _ _), a2⟩

end Go.Proofs.Ytonlkmkfcaadlaa.NmP
namespace Go.Proofs.Ytonlkmkfcaadlaa.NmR
open Go.RowKit
open ExM NmM Kit ExL ExP ExV ExN NmC NmP
set_option linter.unusedVariables false

theorem app_keep {V W' : World} {o : Obj} {b : Nat} {row : Option Nat} (hg : (V.alloc o).grownBy W' row) (hl : b < V.heap.size) (hne : some b ≠ row) : W'.heap[b]? = V.heap[b]? :=
  (hg.block b (by simp; omega) hne).trans ((b_new V o).block b hl)
theorem own_far {w : World} {base : Nat} {e : TypeId} {size : Nat} {v : Value} {n : Nat} {xs : List Value} (h : w.ownsRow base e size v n xs) {b : Nat} (hb : b < base) : some b ≠ v.ownBlock := fun e => by
  have := (h.lt b e.symm).1; omega
theorem own_below {w w1 : World} {base : Nat} {e : TypeId} {size : Nat} {v : Value} {n : Nat} {xs : List Value} (h : w.ownsRow base e size v n xs) (hb : Below w.heap.size w w1) : w1.ownsRow base e size v n xs :=
  h.kept (row := none) ⟨hb.os, hb.tape, hb.output, hb.size, fun k hk _ => hb.block k hk⟩ (by cases hv : v.ownBlock <;> simp)
theorem own_slice {w : World} {base : Nat} {e : TypeId} {size : Nat} {v : Value} {n : Nat} {xs : List Value} (h : w.ownsRow base e size v n xs) : ∃ A c, v = .slice A n c := by
  rcases h.2 with ⟨h1, h2⟩ | ⟨g, cap, cur, h1, _⟩
  · exact ⟨none, 0, by rw [h2]; exact h1⟩
  · exact ⟨some ⟨g, 0, none⟩, cap, h1⟩
theorem own_form {w : World} {base : Nat} {e : TypeId} {size : Nat} {v : Value} {n : Nat} {xs : List Value} (h : w.ownsRow base e size v n xs) (hn : 0 < n) :
    ∃ g cap, v = .slice (some ⟨g, 0, none⟩) n cap ∧ base ≤ g ∧ g < w.heap.size ∧ n ≤ cap ∧ cap ≤ maxLen ∧ ∀ j, j < n * size → w.cell? ⟨g, j, none⟩ = xs[j]? := by
  rcases h.2 with ⟨_, h2⟩ | ⟨g, cap, cur, h1, h2, h3, h4, h5, _⟩
  · omega
  · subst h1
    exact ⟨g, cap, rfl, h2, (Array.getElem?_eq_some_iff.1 h3).1, h4, h5, h.cellAt⟩

theorem own_base {w : World} {base b2 : Nat} {e : TypeId} {size : Nat} {v : Value} {n : Nat} {xs : List Value} (h : w.ownsRow base e size v n xs) (hb : b2 ≤ base) : w.ownsRow b2 e size v n xs := by
  refine ⟨h.1, ?_⟩
  rcases h.2 with h2 | ⟨g, cap, cur, h1, h2, h3⟩
  · exact .inl h2
  · exact .inr ⟨g, cap, cur, h1, by omega, h3⟩
end Go.Proofs.Ytonlkmkfcaadlaa.NmR
