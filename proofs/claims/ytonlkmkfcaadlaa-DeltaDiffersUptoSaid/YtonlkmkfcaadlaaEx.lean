/- Formulas in memory: what reads as a tree; Size. Formulas in memory, and in which blocks they lie. Two formulas that are the same tree: sameExpr, SameExpr, slices.EqualFunc on operands. -/
import Derived.Test.YtonlkmkfcaadlaaProg
import Derived.Test.YtonlkmkfcaadlaaBase
import Derived.Test.YtonlkmkfcaadlaaKit
import Derived.WalkKit
import Derived.ProofKit
import Derived.Lib.Hide
import Derived.Outline
import Derived.Below
import Derived.WalkSpells
import Derived.WalkLawsBesides
import Derived.IntWalk
import Derived.Laws.OwnMore
import Derived.OwnWalk
import Derived.ChangeAlike
namespace Go.Proofs.Ytonlkmkfcaadlaa.ExL
open Go.RowKit
open ExM Kit
set_option linter.unusedVariables false

/-- A formula as a value: its own data, and where its operands lie. -/
def exV (d : Nd) (A : Option Addr) (n c : Nat) : Value := .agg #[.int .i64 d.op, .int .i64 d.k, .int .i64 d.n, .string d.s, .string d.nm, .slice A n c]
/-- Six cells at an address are that value. -/
def At (w : World) (a : Addr) (d : Nd) (A : Option Addr) (n c : Nat) : Prop :=
  w.cell? a = some (.int .i64 d.op) ∧ w.cell? ⟨a.block, a.off + 1, none⟩ = some (.int .i64 d.k) ∧ w.cell? ⟨a.block, a.off + 2, none⟩ = some (.int .i64 d.n) ∧ w.cell? ⟨a.block, a.off + 3, none⟩ = some (.string d.s) ∧ w.cell? ⟨a.block, a.off + 4, none⟩ = some (.string d.nm) ∧ w.cell? ⟨a.block, a.off + 5, none⟩ = some (.slice A n c)
mutual
/-- In a world a formula lies behind these operands. -/
def Is (w : World) : Ex → Nd → Option Addr → Nat → Prop
  | .mk d l, d', A, n => d' = d ∧ n = l.length ∧ (n ≤ maxLen ∧ d.s.size ≤ maxLen ∧ d.nm.size ≤ maxLen) ∧ IsL w A 0 l
def IsL (w : World) (A : Option Addr) : Nat → List Ex → Prop
  | _, [] => True
  | i, x :: l => (∃ a d B n c, A = some a ∧ At w (a.add (i * 6)) d B n c ∧ Is w x d B n) ∧ IsL w A (i + 1) l
end
theorem isL_at {w : World} {A : Option Addr} : ∀ {l : List Ex} {i : Nat}, IsL w A i l → ∀ (j : Nat) (h : j < l.length), ∃ a d B n c, A = some a ∧ At w (a.add ((i + j) * 6)) d B n c ∧ Is w l[j] d B n
  | [], _, _, j, h => absurd h (by simp)
  | x :: l, i, hl, j, h => by
    rw [IsL] at hl
    match j, h with
    | 0, _ => exact hl.1
    | j + 1, h =>
      have := isL_at hl.2 j (by simpa using h)
      rw [show i + 1 + j = i + (j + 1) by omega] at this
      exact this
theorem block_of_add (a : Addr) (n : Nat) : (a.add n).block = a.block := by unfold Addr.add; split <;> rfl
theorem cell_lt' {w : World} {a : Addr} {v : Value} (h : w.cell? a = some v) : a.block < w.heap.size := by
  rcases Nat.lt_or_ge a.block w.heap.size with hl | hg
  · exact hl
  · unfold World.cell? at h; rw [Array.getElem?_eq_none hg] at h; cases h
theorem At.keep {w w' : World} {a : Addr} {d : Nd} {A : Option Addr} {n c : Nat} (h : At w a d A n c) (hk : ∀ p : Addr, p.block = a.block → w'.cell? p = w.cell? p) : At w' a d A n c := by
  obtain ⟨h0, h1, h2, h3, h4, h5⟩ := h
  exact ⟨(hk a rfl).trans h0, (hk ⟨a.block, a.off + 1, none⟩ rfl).trans h1, (hk ⟨a.block, a.off + 2, none⟩ rfl).trans h2, (hk ⟨a.block, a.off + 3, none⟩ rfl).trans h3, (hk ⟨a.block, a.off + 4, none⟩ rfl).trans h4, (hk ⟨a.block, a.off + 5, none⟩ rfl).trans h5⟩
theorem At.lt {w : World} {a : Addr} {d : Nd} {A : Option Addr} {n c : Nat} (h : At w a d A n c) : a.block < w.heap.size := cell_lt' h.1
theorem At.below {w w' : World} {a : Addr} {d : Nd} {A : Option Addr} {n c : Nat} (h : At w a d A n c) (hb : Below w.heap.size w w') : At w' a d A n c := h.keep fun p hp => hb.cell (by rw [hp]; exact h.lt)
theorem isL_of {w : World} {A : Option Addr} : ∀ {l : List Ex} {i : Nat}, (∀ (j : Nat) (h : j < l.length), ∃ a d B n c, A = some a ∧ At w (a.add ((i + j) * 6)) d B n c ∧ Is w l[j] d B n) → IsL w A i l
  | [], _, _ => by rw [IsL]; trivial
  | x :: l, i, h => by
    rw [IsL]
    refine ⟨h 0 (by simp), isL_of fun j hj => ?_⟩
    have := h (j + 1) (by simpa using hj)
    rw [show i + (j + 1) = i + 1 + j by omega] at this
    exact this
theorem is_mk {w : World} {d d' : Nd} {l : List Ex} {A : Option Addr} {n : Nat} : Is w (.mk d l) d' A n ↔ d' = d ∧ n = l.length ∧ (n ≤ maxLen ∧ d.s.size ≤ maxLen ∧ d.nm.size ≤ maxLen) ∧ ∀ (j : Nat) (h : j < l.length), ∃ a d B n c, A = some a ∧ At w (a.add (j * 6)) d B n c ∧ Is w l[j] d B n := by
  rw [Is]
  refine ⟨fun ⟨h1, h2, h3, h4⟩ => ⟨h1, h2, h3, fun j hj => by have := isL_at h4 j hj; rwa [Nat.zero_add] at this⟩, fun ⟨h1, h2, h3, h4⟩ => ⟨h1, h2, h3, isL_of fun j hj => by rw [Nat.zero_add]; exact h4 j hj⟩⟩
/-- Where the cells of old blocks are kept, formulas are. -/
theorem Is.keep {w w' : World} (hk : ∀ p : Addr, p.block < w.heap.size → w'.cell? p = w.cell? p) : ∀ (x : Ex) (d : Nd) (A : Option Addr) (n : Nat), Is w x d A n → Is w' x d A n := by
  refine Ex.ind fun d l ih => ?_
  intro d' A n h
  rw [is_mk] at h ⊢
  obtain ⟨h1, h2, h3, h4⟩ := h
  refine ⟨h1, h2, h3, fun j hj => ?_⟩
  obtain ⟨a, d2, B, m, c, e, ha, hi⟩ := h4 j hj
  exact ⟨a, d2, B, m, c, e, ha.keep fun p hp => hk p (by rw [hp]; exact ha.lt), ih _ (List.getElem_mem _) _ _ _ hi⟩
theorem Is.below {w w' : World} {x : Ex} {d : Nd} {A : Option Addr} {n : Nat} (h : Is w x d A n) (hb : Below w.heap.size w w') : Is w' x d A n := Is.keep (fun _ hp => hb.cell hp) x d A n h
theorem Is.alloc {w : World} {x : Ex} {d : Nd} {A : Option Addr} {n : Nat} (h : Is w x d A n) (o : Obj) : Is (w.alloc o) x d A n := h.below (b_new w o)

/-! ### Size -/
theorem int_max (q t : Nat) : Value.int .i64 (if q < t then (t : Int) else q) = .int .i64 ((max q t : Nat) : Int) := by
  by_cases h : q < t
  · rw [if_pos h, Nat.max_eq_right (by omega)]
  · rw [if_neg h, Nat.max_eq_left (by omega)]
end Go.Proofs.Ytonlkmkfcaadlaa.ExL
namespace Go.Proofs.Ytonlkmkfcaadlaa.ExP
open Go.RowKit
open ExM Kit ExL
set_option linter.unusedVariables false

mutual
/-- In a world a formula lies behind these operands, all of it in blocks with a property. -/
def IsP (P : Nat → Prop) (w : World) : Ex → Nd → Option Addr → Nat → Prop
  | .mk d l, d', A, n => d' = d ∧ n = l.length ∧ (n ≤ maxLen ∧ d.s.size ≤ maxLen ∧ d.nm.size ≤ maxLen) ∧ IsPL P w A 0 l
def IsPL (P : Nat → Prop) (w : World) (A : Option Addr) : Nat → List Ex → Prop
  | _, [] => True
  | i, x :: l => (∃ a d B n c, A = some a ∧ P a.block ∧ At w (a.add (i * 6)) d B n c ∧ IsP P w x d B n) ∧ IsPL P w A (i + 1) l
end
theorem isPL_at {P : Nat → Prop} {w : World} {A : Option Addr} : ∀ {l : List Ex} {i : Nat}, IsPL P w A i l → ∀ (j : Nat) (h : j < l.length), ∃ a d B n c, A = some a ∧ P a.block ∧ At w (a.add ((i + j) * 6)) d B n c ∧ IsP P w l[j] d B n
  | [], _, _, j, h => absurd h (by simp)
  | x :: l, i, hl, j, h => by
    rw [IsPL] at hl
    match j, h with
    | 0, _ => exact hl.1
    | j + 1, h =>
      have := isPL_at hl.2 j (by simpa using h)
      rw [show i + 1 + j = i + (j + 1) by omega] at this
      exact this
theorem isPL_of {P : Nat → Prop} {w : World} {A : Option Addr} : ∀ {l : List Ex} {i : Nat}, (∀ (j : Nat) (h : j < l.length), ∃ a d B n c, A = some a ∧ P a.block ∧ At w (a.add ((i + j) * 6)) d B n c ∧ IsP P w l[j] d B n) → IsPL P w A i l
  | [], _, _ => by rw [IsPL]; trivial
  | x :: l, i, h => by
    rw [IsPL]
    refine ⟨h 0 (by simp), isPL_of fun j hj => ?_⟩
    have := h (j + 1) (by simpa using hj)
    rw [show i + (j + 1) = i + 1 + j by omega] at this
    exact this
theorem isP_mk {P : Nat → Prop} {w : World} {d d' : Nd} {l : List Ex} {A : Option Addr} {n : Nat} : IsP P w (.mk d l) d' A n ↔ d' = d ∧ n = l.length ∧ (n ≤ maxLen ∧ d.s.size ≤ maxLen ∧ d.nm.size ≤ maxLen) ∧ ∀ (j : Nat) (h : j < l.length), ∃ a d B n c, A = some a ∧ P a.block ∧ At w (a.add (j * 6)) d B n c ∧ IsP P w l[j] d B n := by
  rw [IsP]
  refine ⟨fun ⟨h1, h2, h3, h4⟩ => ⟨h1, h2, h3, fun j hj => by have := isPL_at h4 j hj; rwa [Nat.zero_add] at this⟩, fun ⟨h1, h2, h3, h4⟩ => ⟨h1, h2, h3, isPL_of fun j hj => by rw [Nat.zero_add]; exact h4 j hj⟩⟩
theorem IsP.is {P : Nat → Prop} {w : World} : ∀ (x : Ex) (d : Nd) (A : Option Addr) (n : Nat), IsP P w x d A n → Is w x d A n := by
  refine Ex.ind fun d l ih => ?_
  intro d' A n h
  rw [isP_mk] at h
  rw [is_mk]
  obtain ⟨h1, h2, h3, h4⟩ := h
  refine ⟨h1, h2, h3, fun j hj => ?_⟩
  obtain ⟨a, d2, B, m, c, e, _, ha, hi⟩ := h4 j hj
  exact ⟨a, d2, B, m, c, e, ha, ih _ (List.getElem_mem _) _ _ _ hi⟩
theorem At.of_block {w w' : World} {p : Addr} {d : Nd} {A : Option Addr} {n c : Nat} (h : At w p d A n c) (hb : w'.heap[p.block]? = w.heap[p.block]?) : At w' p d A n c :=
  h.keep fun q hq => World.cell?_of_block (by rw [hq]; exact hb)
/-- Where its blocks are kept, a formula is; and its blocks lie in the memory that there is. -/
theorem IsP.keep {P Q : Nat → Prop} {w w' : World} (hk : ∀ b, P b → b < w.heap.size → w'.heap[b]? = w.heap[b]?) (hq : ∀ b, P b → b < w.heap.size → Q b) : ∀ (x : Ex) (d : Nd) (A : Option Addr) (n : Nat), IsP P w x d A n → IsP Q w' x d A n := by
  refine Ex.ind fun d l ih => ?_
  intro d' A n h
  rw [isP_mk] at h ⊢
  obtain ⟨h1, h2, h3, h4⟩ := h
  refine ⟨h1, h2, h3, fun j hj => ?_⟩
  obtain ⟨a, d2, B, m, c, e, hp, ha, hi⟩ := h4 j hj
  have hlt := ha.lt
  rw [block_of_add] at hlt
  exact ⟨a, d2, B, m, c, e, hq _ hp hlt, At.of_block ha (by rw [block_of_add]; exact hk _ hp hlt), ih _ (List.getElem_mem _) _ _ _ hi⟩
theorem IsP.below {P : Nat → Prop} {w w' : World} {x : Ex} {d : Nd} {A : Option Addr} {n : Nat} (h : IsP P w x d A n) (hb : Below w.heap.size w w') : IsP P w' x d A n := IsP.keep (fun b _ hl => hb.block b hl) (fun _ h _ => h) x d A n h
theorem IsP.imp {P Q : Nat → Prop} {w : World} {x : Ex} {d : Nd} {A : Option Addr} {n : Nat} (h : IsP P w x d A n) (hq : ∀ b, P b → b < w.heap.size → Q b) : IsP Q w x d A n := IsP.keep (fun _ _ _ => rfl) hq x d A n h
theorem isP_leaf (P : Nat → Prop) (w : World) (d : Nd) (A : Option Addr) (hs : d.s.size ≤ maxLen) (hn : d.nm.size ≤ maxLen) : IsP P w (.mk d []) d A 0 := isP_mk.2 ⟨rfl, rfl, ⟨Nat.zero_le _, hs, hn⟩, fun j hj => absurd hj (by simp)⟩

/-- An element of a row of formulas. -/
structure El where
  x : Ex
  d : Nd
  A : Option Addr
  n : Nat
  c : Nat
def El.cells (e : El) : List Value := [.int .i64 e.d.op, .int .i64 e.d.k, .int .i64 e.d.n, .string e.d.s, .string e.d.nm, .slice e.A e.n e.c]
def elC (es : List El) : List Value := es.flatMap El.cells
theorem elC_snoc (es : List El) (e : El) : elC (es ++ [e]) = elC es ++ e.cells := by unfold elC; rw [List.flatMap_append]; simp
theorem elC_len (es : List El) : (elC es).length = es.length * 6 := by
  induction es with
  | nil => rfl
  | cons e es ih =>
    have : elC (e :: es) = e.cells ++ elC es := by unfold elC; rw [List.flatMap_cons]
    rw [this, List.length_append, ih, List.length_cons]; show 6 + _ = _; omega
theorem elC_at (es : List El) : ∀ (i : Nat) (h : i < es.length) (j : Nat), j < 6 → (elC es)[i * 6 + j]? = (es[i]).cells[j]? := by
  induction es with
  | nil => intro i h; simp at h
  | cons e es ih =>
    intro i h j hj
    have e1 : elC (e :: es) = e.cells ++ elC es := by unfold elC; rw [List.flatMap_cons]
    rw [e1]
    cases i with
    | zero => rw [List.getElem?_append_left (by simp [El.cells]; omega)]; simp
    | succ i =>
      rw [List.getElem?_append_right (by simp [El.cells]; omega), show (i + 1) * 6 + j - e.cells.length = i * 6 + j by simp [El.cells]; omega]
      simpa using ih i (by simpa using h) j hj
theorem add_block (g i : Nat) : ((⟨g, 0, none⟩ : Addr).add i) = ⟨g, i, none⟩ := by unfold Addr.add; by_cases h : i = 0 <;> simp [h]
/-- A row of the call's own whose elements lie in memory is a formula's operands. -/
theorem isP_row {P : Nat → Prop} {w : World} {d : Nd} {es : List El} {g : Nat} (hc : ∀ j, j < es.length * 6 → w.cell? ⟨g, j, none⟩ = (elC es)[j]?) (hP : P g) (hl : es.length ≤ maxLen) (hs : d.s.size ≤ maxLen) (hn : d.nm.size ≤ maxLen)
    (hi : ∀ e ∈ es, IsP P w e.x e.d e.A e.n) : IsP P w (.mk d (es.map El.x)) d (some ⟨g, 0, none⟩) es.length := by
  rw [isP_mk]
  refine ⟨rfl, by simp, ⟨hl, hs, hn⟩, fun j hj => ?_⟩
  have hj' : j < es.length := by simpa using hj
  have f := fun i (h6 : i < 6) => (hc (j * 6 + i) (by omega)).trans (elC_at es j hj' i h6)
  refine ⟨⟨g, 0, none⟩, es[j].d, es[j].A, es[j].n, es[j].c, rfl, hP, ?_, by simpa using hi es[j] (List.getElem_mem _)⟩
  rw [add_block]
  exact ⟨f 0 (by decide), f 1 (by decide), f 2 (by decide), f 3 (by decide), f 4 (by decide), f 5 (by decide)⟩
end Go.Proofs.Ytonlkmkfcaadlaa.ExP
namespace Go.Proofs.Ytonlkmkfcaadlaa.ExS
open Go.RowKit
open ExM Kit ExL
set_option linter.unusedVariables false

/-- What a comparison of formulas promises at these formulas. -/
def SameAt (g : FuncId) (x : Ex) : Prop := ∀ (d : Nd) (A A' : Option Addr) (n n' c c' : Nat) (W : World), Is W x d A n → Is W x d A' n' →
  Calls Try.prog g #[.agg #[.int .i64 d.op, .int .i64 d.k, .int .i64 d.n, .string d.s, .string d.nm, .slice A n c], .agg #[.int .i64 d.op, .int .i64 d.k, .int .i64 d.n, .string d.s, .string d.nm, .slice A' n' c']] W fun e w' => e = .returned (.bool true) ∧ Below W.heap.size W w'
def Row (w : World) (A : Option Addr) (l : List Ex) : Prop := ∀ (j : Nat) (h : j < l.length), ∃ a d B n c, A = some a ∧ At w (a.add (j * 6)) d B n c ∧ Is w l[j] d B n
theorem Row.below {w w' : World} {A : Option Addr} {l : List Ex} (h : Row w A l) (hb : Below w.heap.size w w') : Row w' A l := fun j hj => by
  obtain ⟨a, d, B, n, c, e, ha, hi⟩ := h j hj
  exact ⟨a, d, B, n, c, e, ha.below hb, hi.below hb⟩
theorem is_d {w : World} {x : Ex} {d : Nd} {A : Option Addr} {n : Nat} (h : Is w x d A n) : d = x.d := by
  cases x; rw [is_mk] at h; exact h.1

end Go.Proofs.Ytonlkmkfcaadlaa.ExS
