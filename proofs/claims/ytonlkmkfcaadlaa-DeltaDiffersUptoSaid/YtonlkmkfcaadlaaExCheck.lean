/- The nodes of a formula, in preorder: visit, nodes. A formula's node: hasRightV, hasRightName, checkNode; the notations' table. Contract of expr.Check. -/
import Derived.RangeFuncNested
import Derived.RangeFuncBound
import Derived.RangeFuncCalls
import Derived.RangeFuncLeaves
import Derived.Shelf.Abstract
import Derived.Shelf.RegionOpen
import Derived.WalkKit
import Derived.OwnWalkIn
import Derived.TacticsInMore
import Derived.LoopNIn
import Derived.LoopIn
import Derived.Test.YtonlkmkfcaadlaaEx
import Derived.Test.YtonlkmkfcaadlaaNotTab
import Derived.Test.YtonlkmkfcaadlaaValue
import Derived.Test.YtonlkmkfcaadlaaLexBytes
import Derived.Deep.RegionHeld3
import Derived.Deep.QuietTactic
import Derived.Deep.RegionWith
import Derived.ChangeOld
import Derived.Deep.DrawnRows
import Derived.LaidMore
import Derived.BigQuiet
import Derived.RangeFuncBox
namespace Go.Proofs.Ytonlkmkfcaadlaa.ExV
open Go.RowKit Go.Shelf
open ExM Kit ExL
set_option linter.unusedVariables false
attribute [local go_sem] Oper.semAt_some

theorem room_of_none {F : Fence} (hd : F.depth = none) (k : Nat) : F.room k := fun d h => by rw [hd] at h; cases h
theorem anyDepthR {F : Fence} (hd : F.depth = none) {m m' : Nat} {P : Program} {l : Nat} {f : FuncId} {tmps : Array Value} {assign body : Code} {w : World} {R : Ending → World → Prop}
    (h : RoundIn F m P l f tmps assign body w R) : RoundIn F m' P l f tmps assign body w R := ⟨h.1, fun c cs _ => h.2 c cs (room_of_none hd _)⟩
theorem anyDepth {F : Fence} (hd : F.depth = none) {m : Nat} (m' : Nat) {P : Program} {l : Nat} {args : Array Value} {W : World} {R : Ending → World → Prop} (h : YieldAt F m P l args W R) : YieldAt F m' P l args W R := by
  obtain ⟨fn, tmps, assign, body, hy, hR⟩ := h
  exact ⟨fn, tmps, assign, body, hy, anyDepthR hd hR⟩

/-- A node as it is handed out: its own data, and where its operands lie. -/
structure Al where
  d : Nd
  m : Nat
  A : Option Addr
  c : Nat
  hm : m ≤ maxLen
  hs : d.nm.size ≤ maxLen
def Al.nd (x : Al) : Nd × Nat := (x.d, x.m)
def encs (x : Al) : Array Value := #[.agg #[.int .i64 x.d.op, .int .i64 x.d.k, .int .i64 x.d.n, .string x.d.s, .string x.d.nm, .slice x.A x.m x.c]]

/-- What a round that goes on keeps: what lay below n₀, and cells from n₁ on. -/
structure Kp (n₀ n₁ : Nat) (W W' : World) : Prop where
  below : Below n₀ W W'
  cells : ∀ b o, n₁ ≤ b → W.heap[b]? = some o → o.isCells = true → W'.heap[b]? = some o
theorem Kp.refl (n₀ n₁ : Nat) (W : World) : Kp n₀ n₁ W W := ⟨Below.refl _ _, fun _ _ _ h _ => h⟩
theorem Kp.trans {n₀ n₁ : Nat} {A B C : World} (h : Kp n₀ n₁ A B) (g : Kp n₀ n₁ B C) : Kp n₀ n₁ A C := ⟨h.below.trans g.below, fun b o hb ho hc => g.cells b o hb (h.cells b o hb ho hc) hc⟩
theorem Kp.of_below {n₀ n₁ : Nat} {A B : World} (h : Below A.heap.size A B) (hn : n₀ ≤ A.heap.size) : Kp n₀ n₁ A B :=
  ⟨h.mono hn, fun b o _ ho _ => by
    have hl : b < A.heap.size := by
      rcases Nat.lt_or_ge b A.heap.size with hl | hl
      · exact hl
      · rw [Array.getElem?_eq_none hl] at ho; cases ho
    rw [h.block b hl]; exact ho⟩
theorem Kp.alloc {n₀ n₁ : Nat} {A : World} (o : Obj) (hn : n₀ ≤ A.heap.size) : Kp n₀ n₁ A (A.alloc o) := Kp.of_below (b_new A o) hn
theorem kp_putObj {n₀ n₁ : Nat} (W : World) (l : Nat) (o o' : Obj) (hl : n₀ ≤ l) (ho : W.heap[l]? = some o) (hc : o.isCells = false) : Kp n₀ n₁ W (W.putObj l o') := by
  have hlt := (Array.getElem?_eq_some_iff.1 ho).1
  refine ⟨(Below.refl n₀ W).grown (grownBy_putObj' W l o') (by omega) (fun k e => by cases e; exact hl), fun b o2 _ hb h2 => ?_⟩
  have hne : b ≠ l := by
    rintro rfl
    rw [ho] at hb; cases hb; rw [hc] at h2; cases h2
  rw [World.putObj_heap_other hne]; exact hb
theorem Kp.box {n₀ n₁ : Nat} {W W' : World} {cs : Array Value} {t : TypeId} (h : Kp n₀ n₁ (W.alloc (.cells cs t)) W') (hn : n₁ ≤ W.heap.size) (i : Nat) : W'.cell? ⟨W.heap.size, i, none⟩ = cs[i]? := by
  have h1 := h.cells W.heap.size (.cells cs t) hn (World.alloc_heap_new W _) rfl
  simp [World.cell?, h1]

/-- How visit ends. -/
def VOut (w0 : World) (n₁ : Nat) (J Jx : List Al → World → Prop) (pre : List Al) (P : List (Nd × Nat)) (W : World) (e : Ending) (W' : World) : Prop :=
  (e = .returned (.bool true) ∧ (∃ ys : List Al, ys.map Al.nd = P ∧ J (pre ++ ys) W') ∧ Kp w0.heap.size n₁ W W') ∨ (e = .returned (.bool false) ∧ ∃ q : List Al, q.map Al.nd <+: P ∧ Jx (pre ++ q) W')
structure VInv (w0 : World) (n₁ : Nat) (J : List Al → World → Prop) (pre : List Al) (P : List (Nd × Nat)) (W : World) (ys : List Al) (wr : World) : Prop where
  is : ys.map Al.nd = P
  j : J (pre ++ ys) wr
  kp : Kp w0.heap.size n₁ W wr
  below : Below w0.heap.size w0 wr
  le : n₁ ≤ wr.heap.size

theorem VInv.step {w0 : World} {n₁ : Nat} {J : List Al → World → Prop} {pre : List Al} {d : Nd × Nat} {l : List Ex} {k : Nat} {W wr w2 : World} {ys zs : List Al} {o : Obj} (h : VInv w0 n₁ J pre (d :: preL (l.take k)) W ys wr) (hk : k < l.length)
    (hz : zs.map Al.nd = l[k].pre) (hj : J (pre ++ ys ++ zs) w2) (hp : Kp w0.heap.size n₁ (wr.alloc o) w2) : VInv w0 n₁ J pre (d :: preL (l.take (k + 1))) W (ys ++ zs) w2 := by
  have hp2 : Kp w0.heap.size n₁ wr w2 := (Kp.alloc o h.below.size).trans hp
  exact ⟨by rw [List.map_append, h.is, hz, preL_at l k hk]; rfl, by rw [← List.append_assoc]; exact hj, h.kp.trans hp2, h.below.trans hp2.below, by have := hp2.below.size; have := h.le; omega⟩
theorem pre_prefix (l : List Ex) (k : Nat) (hk : k < l.length) {q : List (Nd × Nat)} (h : q <+: l[k].pre) : preL (l.take k) ++ q <+: preL l := by
  have e : preL l = preL (l.take (k + 1)) ++ preL (l.drop (k + 1)) := by rw [← preL_append, List.take_append_drop]
  rw [e, preL_at l k hk]
  obtain ⟨r, hr⟩ := h
  exact ⟨r ++ preL (l.drop (k + 1)), by rw [← hr]; simp [List.append_assoc]⟩

/-! ### nodes -/
/-- A box that holds a formula's value. -/
def Box (w : World) (B : Nat) (d : Nd) (A : Option Addr) (m c : Nat) : Prop := w.heap[B]? = some (.cells #[.int .i64 d.op, .int .i64 d.k, .int .i64 d.n, .string d.s, .string d.nm, .slice A m c] 34 (0, 0))
theorem Box.cells {w : World} {B : Nat} {d : Nd} {A : Option Addr} {m c : Nat} (h : Box w B d A m c) : w.cell? ⟨B, 0, none⟩ = some (.int .i64 d.op) ∧ w.cell? ⟨B, 1, none⟩ = some (.int .i64 d.k) ∧ w.cell? ⟨B, 2, none⟩ = some (.int .i64 d.n) ∧ w.cell? ⟨B, 3, none⟩ = some (.string d.s) ∧ w.cell? ⟨B, 4, none⟩ = some (.string d.nm) ∧ w.cell? ⟨B, 5, none⟩ = some (.slice A m c) := by
  unfold Box at h
  refine ⟨?_, ?_, ?_, ?_, ?_, ?_⟩ <;> simp [World.cell?, h]
theorem Box.lt {w : World} {B : Nat} {d : Nd} {A : Option Addr} {m c : Nat} (h : Box w B d A m c) : B < w.heap.size := (Array.getElem?_eq_some_iff.1 h).1
theorem Box.below {w w' : World} {B : Nat} {d : Nd} {A : Option Addr} {m c : Nat} (h : Box w B d A m c) (hb : Below w.heap.size w w') : Box w' B d A m c := (hb.block B h.lt).trans h
theorem Box.far {W : World} {B : Nat} {d : Nd} {A : Option Addr} {m c : Nat} (h : Box W B d A m c) {p : Addr} (hp : B ≠ p.block) (v : Value) : Box (W.setCell p v) B d A m c := (Below.heap_setCell W p v B hp).trans h
theorem Box.new (w : World) (d : Nd) (A : Option Addr) (m c : Nat) : Box (w.alloc (.cells #[.int .i64 d.op, .int .i64 d.k, .int .i64 d.n, .string d.s, .string d.nm, .slice A m c] 34)) w.heap.size d A m c := World.alloc_heap_new w _

end Go.Proofs.Ytonlkmkfcaadlaa.ExV
namespace Go.Proofs.Ytonlkmkfcaadlaa.ExN
open Go.RowKit
open ValM LexM ExM Kit ExL
set_option linter.unusedVariables false

theorem nmB_iff (l : List UInt8) : nmB l = decide (LexB.nameE l = 0) := by
  unfold nmB LexB.nameE
  by_cases h1 : l = [] ∨ 10 < l.length
  · rw [if_pos h1]
    rcases h1 with h | h
    · subst h; rfl
    · rw [decide_eq_false (show ¬ l.length ≤ 10 by omega)]; simp
  · rw [if_neg h1]
    have h2 : l.isEmpty = false := by cases l; exact absurd (.inl rfl) h1; rfl
    have h3 : l.length ≤ 10 := by
      rcases Nat.lt_or_ge 10 l.length with g | g
      · exact absurd (.inr g) h1
      · exact g
    rw [h2, decide_eq_true h3]
    cases nameB l <;> cases keyB l <;> rfl

/-! ### The table of the notations -/
theorem var_below {w w' : World} {n : String} {cs : Array Value} (h : w.var? Try.prog n = some cs) (hb : Below w.heap.size w w') : w'.var? Try.prog n = some cs := by
  have hg : ∃ g, Try.prog.globalNamed n = some g ∧ g < w.heap.size := by
    unfold World.var? at h
    cases hg : Try.prog.globalNamed n with
    | none => simp [hg] at h
    | some g =>
      refine ⟨g, rfl, ?_⟩
      rcases Nat.lt_or_ge g w.heap.size with hl | hl
      · exact hl
      · simp [hg, Array.getElem?_eq_none hl] at h
  obtain ⟨g, hg, hl⟩ := hg
  exact var?_below hb hg hl h
def Tab (w : World) : Prop := NotTab.Is Try.prog w "lychway/expr.notations" NotTab.rows
theorem Tab.below {w w' : World} (h : Tab w) (hb : Below w.heap.size w w') : Tab w' := var_below h hb
theorem Tab.alloc {w : World} (h : Tab w) (o : Obj) : Tab (w.alloc o) := h.below (b_new w o)
def rw_ (k : Nat) : NotTab.Rw := NotTab.rows.getD k ([], 0, 0)
theorem rw_at (k : Nat) (h : k < 19) : NotTab.rows[k]? = some (rw_ k) := by
  unfold rw_
  rw [List.getD, List.getElem?_eq_getElem (show k < NotTab.rows.length from h)]; rfl
theorem rw_args (k : Nat) (h0 : 1 ≤ k) (h : k < 19) : (rw_ k).2.2 = (arity (k : Int) : Int) := by
  obtain rfl | rfl | rfl | rfl | rfl | rfl | rfl | rfl | rfl | rfl | rfl | rfl | rfl | rfl | rfl | rfl | rfl | rfl : k = 1 ∨ k = 2 ∨ k = 3 ∨ k = 4 ∨ k = 5 ∨ k = 6 ∨ k = 7 ∨ k = 8 ∨ k = 9 ∨ k = 10 ∨ k = 11 ∨ k = 12 ∨ k = 13 ∨ k = 14 ∨ k = 15 ∨ k = 16 ∨ k = 17 ∨ k = 18 := by omega
  all_goals rfl

/-! ### checkNode -/
end Go.Proofs.Ytonlkmkfcaadlaa.ExN
namespace Go.Proofs.Ytonlkmkfcaadlaa.ExC
open Go.RowKit Go.Shelf
open ExM Kit ExL ExN ExV
set_option linter.unusedVariables false
attribute [local go_sem] Oper.semAt_some

theorem Kp.setCell {n₀ n₁ : Nat} (W : World) {p : Addr} (h0 : n₀ ≤ p.block) (h1 : p.block < n₁) (v : Value) : Kp n₀ n₁ W (W.setCell p v) :=
  ⟨(Below.refl n₀ W).setCell h0 v, fun b o hb ho _ => by rw [Below.heap_setCell W p v b (by omega)]; exact ho⟩
theorem box_own {β : Type} (B : Nat) (d : Nd) (A : Option Addr) (m c : Nat) (X : Nat) : OwnFrom X (fun (_ : β) W => Box W B d A m c) := by
  intro s W W' row h hg hr
  unfold Box at h ⊢
  rw [hg.block B (Array.getElem?_eq_some_iff.1 h).1 (fun e => ?_)]
  · exact h
  · obtain ⟨_, o, ho, hc⟩ := hr _ e.symm
    rw [h] at ho; cases ho; cases hc
theorem def_own {β : Type} (D X : Nat) (h : D < X) (o : Obj) : OwnFrom X (fun (_ : β) W => W.heap[D]? = some o) := by
  intro s W W' row hs hg hr
  rw [hg.block D (Array.getElem?_eq_some_iff.1 hs).1 (fun e => ?_)]
  · exact hs
  · have := (hr _ e.symm).1; omega
theorem firstE_prefix {q p : List (Nd × Nat)} (h : q <+: p) (hq : firstE q ≠ 0) : firstE p = firstE q := by
  obtain ⟨r, rfl⟩ := h
  rw [firstE_append, if_neg hq]
theorem firstE_snoc (q : List (Nd × Nat)) (x : Nd × Nat) (h : firstE q = 0) : firstE (q ++ [x]) = nodeE x.1 x.2 := by
  rw [firstE_append, if_pos h]
  obtain ⟨d, m⟩ := x
  rw [firstE_cons]
  by_cases h : nodeE d m = 0
  · rw [if_pos h, h]; rfl
  · rw [if_neg h]

theorem keeps_below {W W' : World} (h : Below W.heap.size W W') (B : Nat) : KeepsFrom B W W' := ⟨h.size, fun k o _ hk _ => (h.block k (Array.getElem?_eq_some_iff.1 hk).1).trans hk⟩
/-- Between two rounds of the first loop. -/
def I1 (w : World) (d : Nd) (A : Option Addr) (m c : Nat) (pre : List Al) (W : World) : Prop :=
  ((((pre.length ≤ 60 ∧ Boxed W (w.heap.size + 1 + 1) 3 (.int .i64 (pre.length : Int))) ∧ Boxed W (w.heap.size + 1) 25 (.int .i64 0)) ∧ Box W w.heap.size d A m c) ∧ Below w.heap.size w W)

end Go.Proofs.Ytonlkmkfcaadlaa.ExC
