/- Formulas copied and put together: names.each, Copy, replaced. -/
import Derived.Test.YtonlkmkfcaadlaaEx
import Derived.Test.YtonlkmkfcaadlaaMaths
import Derived.Test.YtonlkmkfcaadlaaExCheck
import Derived.Laws.OwnMore
import Derived.OwnWalk
namespace Go.Proofs.Ytonlkmkfcaadlaa.NmC
open Go.RowKit
open ExM NmM Kit ExL ExP ExV
set_option linter.unusedVariables false

/-- A formula that a call has made, in memory of its own. -/
def Made (y : Ex) (W : World) (e : Ending) (W' : World) : Prop :=
  ∃ (d : Nd) (B : Option Addr) (m c : Nat), e = .returned (.agg #[.int .i64 d.op, .int .i64 d.k, .int .i64 d.n, .string d.s, .string d.nm, .slice B m c]) ∧ IsP (fun b => W.heap.size ≤ b) W' y d B m ∧ Below W.heap.size W W'
/-- Operands in blocks with a property. -/
def RowP (P : Nat → Prop) (w : World) (A : Option Addr) (l : List Ex) : Prop := ∀ (j : Nat) (h : j < l.length), ∃ a d B n c, A = some a ∧ P a.block ∧ At w (a.add (j * 6)) d B n c ∧ IsP P w l[j] d B n
theorem RowP.mk_ {P : Nat → Prop} {w : World} {A : Option Addr} {l : List Ex} {d : Nd} {n : Nat} (h : RowP P w A l) (hn : n = l.length) (hm : n ≤ maxLen) (hs : d.s.size ≤ maxLen) (hnm : d.nm.size ≤ maxLen) : IsP P w (.mk d l) d A n :=
  isP_mk.2 ⟨rfl, hn, ⟨hm, hs, hnm⟩, h⟩
def RowOut (l : List Ex) (W : World) (e : Ending) (W' : World) : Prop :=
  ∃ (A : Option Addr) (c : Nat), e = .returned (.slice A l.length c) ∧ RowP (fun b => W.heap.size ≤ b) W' A l ∧ Below W.heap.size W W'

theorem set_app {α : Type} (xs r : List α) (j i : Nat) (h : i = xs.length + j) (v : α) : (xs ++ r).set i v = xs ++ r.set j v := by
  subst h; rw [List.set_append_right _ _ (by omega)]; congr 2; omega
theorem set6_list {xs r : List Value} {i : Nat} (h : i = xs.length) (hr : 6 ≤ r.length) (a b c d e f : Value) :
    ((((((xs ++ r).set i a).set (i + 1) b).set (i + 2) c).set (i + 3) d).set (i + 4) e).set (i + 5) f = (xs ++ [a, b, c, d, e, f]) ++ r.drop 6 := by
  match r, hr with
  | r0 :: r1 :: r2 :: r3 :: r4 :: r5 :: t, _ =>
    subst h
    rw [set_app xs _ 0 _ (Nat.add_zero _).symm, set_app xs _ 1 _ rfl, set_app xs _ 2 _ rfl, set_app xs _ 3 _ rfl, set_app xs _ 4 _ rfl, set_app xs _ 5 _ rfl]
    simp
theorem set6_own {w : World} {base g n cap i : Nat} {xs r : List Value} {e : TypeId} (h : w.ownsRow base e 6 (.slice (some ⟨g, 0, none⟩) n cap) n (xs ++ r)) (hi : i = xs.length) (hr : 6 ≤ r.length) (v0 v1 v2 v3 v4 v5 : Value) :
    ((((((w.setCell ⟨g, i, none⟩ v0).setCell ⟨g, i + 1, none⟩ v1).setCell ⟨g, i + 2, none⟩ v2).setCell ⟨g, i + 3, none⟩ v3).setCell ⟨g, i + 4, none⟩ v4).setCell ⟨g, i + 5, none⟩ v5).ownsRow base e 6 (.slice (some ⟨g, 0, none⟩) n cap) n ((xs ++ [v0, v1, v2, v3, v4, v5]) ++ r.drop 6) := by
  rw [← set6_list hi hr]
  exact ((((((h.stored i v0).1.stored (i + 1) v1).1.stored (i + 2) v2).1.stored (i + 3) v3).1.stored (i + 4) v4).1.stored (i + 5) v5).1
theorem set6_block {w : World} {g b i : Nat} (h : b ≠ g) (v0 v1 v2 v3 v4 v5 : Value) : ((((((w.setCell ⟨g, i, none⟩ v0).setCell ⟨g, i + 1, none⟩ v1).setCell ⟨g, i + 2, none⟩ v2).setCell ⟨g, i + 3, none⟩ v3).setCell ⟨g, i + 4, none⟩ v4).setCell ⟨g, i + 5, none⟩ v5).heap[b]? = w.heap[b]? := by
  rw [Below.heap_setCell _ ⟨g, i + 5, none⟩ _ b h, Below.heap_setCell _ ⟨g, i + 4, none⟩ _ b h, Below.heap_setCell _ ⟨g, i + 3, none⟩ _ b h, Below.heap_setCell _ ⟨g, i + 2, none⟩ _ b h, Below.heap_setCell _ ⟨g, i + 1, none⟩ _ b h, Below.heap_setCell _ ⟨g, i, none⟩ _ b h]
theorem set6_size {w : World} {g i : Nat} (v0 v1 v2 v3 v4 v5 : Value) : ((((((w.setCell ⟨g, i, none⟩ v0).setCell ⟨g, i + 1, none⟩ v1).setCell ⟨g, i + 2, none⟩ v2).setCell ⟨g, i + 3, none⟩ v3).setCell ⟨g, i + 4, none⟩ v4).setCell ⟨g, i + 5, none⟩ v5).heap.size = w.heap.size := by
  simp only [sz_set]
theorem set6_below {B : Nat} {a w : World} {g i : Nat} (h : Below B a w) (hg : B ≤ g) (v0 v1 v2 v3 v4 v5 : Value) : Below B a ((((((w.setCell ⟨g, i, none⟩ v0).setCell ⟨g, i + 1, none⟩ v1).setCell ⟨g, i + 2, none⟩ v2).setCell ⟨g, i + 3, none⟩ v3).setCell ⟨g, i + 4, none⟩ v4).setCell ⟨g, i + 5, none⟩ v5) :=
  (((((h.setCell (p := ⟨g, i, none⟩) hg _).setCell (p := ⟨g, i + 1, none⟩) hg _).setCell (p := ⟨g, i + 2, none⟩) hg _).setCell (p := ⟨g, i + 3, none⟩) hg _).setCell (p := ⟨g, i + 4, none⟩) hg _).setCell (p := ⟨g, i + 5, none⟩) hg _
theorem infoEx : (Try.prog.info? 34).map (fun i => (i.zero, i.size, i.bytes)) = some (some (.agg #[.int .i64 0, .int .i64 0, .int .i64 0, .string ⟨#[]⟩, .string ⟨#[]⟩, .slice none 0 0]), 6, 80) := by kernel_rfl

/-- Between two elements. -/
structure EInv (w : World) (f : Ex → Ex) (l : List Ex) (k : Nat) (es : List El) (wr : World) : Prop where
  le : k ≤ l.length
  len : es.length = k
  is : es.map El.x = (l.take k).map f
  row : ∃ r : List Value, wr.ownsRow w.heap.size 34 6 (.slice (some ⟨w.heap.size, 0, none⟩) l.length l.length) l.length (elC es ++ r)
  all : ∀ e ∈ es, IsP (fun b => w.heap.size < b) wr e.x e.d e.A e.n
  below : Below w.heap.size w wr
  lt : w.heap.size < wr.heap.size
theorem EInv.cells {w : World} {f : Ex → Ex} {l : List Ex} {k : Nat} {es : List El} {wr : World} (h : EInv w f l k es wr) (hk : k < l.length) :
    ∃ v0 v1 v2 v3 v4 v5, wr.cell? ⟨w.heap.size, k * 6, none⟩ = some v0 ∧ wr.cell? ⟨w.heap.size, k * 6 + 1, none⟩ = some v1 ∧ wr.cell? ⟨w.heap.size, k * 6 + 2, none⟩ = some v2 ∧ wr.cell? ⟨w.heap.size, k * 6 + 3, none⟩ = some v3 ∧ wr.cell? ⟨w.heap.size, k * 6 + 4, none⟩ = some v4 ∧ wr.cell? ⟨w.heap.size, k * 6 + 5, none⟩ = some v5 ∧ ∀ j, wr.frozen? ⟨w.heap.size, j, none⟩ = false := by
  obtain ⟨r, hr⟩ := h.row
  have hl : (elC es ++ r).length = l.length * 6 := hr.1
  have g := fun j (hj : j < l.length * 6) => (hr.cellAt j hj).trans (List.getElem?_eq_getElem (by omega))
  exact ⟨_, _, _, _, _, _, g (k * 6) (by omega), g (k * 6 + 1) (by omega), g (k * 6 + 2) (by omega), g (k * 6 + 3) (by omega), g (k * 6 + 4) (by omega), g (k * 6 + 5) (by omega), hr.frozenAt⟩
theorem EInv.step {w : World} {f : Ex → Ex} {l : List Ex} {k : Nat} {es : List El} {wr w1 : World} {o : Obj} {d : Nd} {B : Option Addr} {m c : Nat} (h : EInv w f l k es wr) (hk : k < l.length)
    (hi : IsP (fun b => (wr.alloc o).heap.size ≤ b) w1 (f l[k]) d B m) (hb : Below (wr.alloc o).heap.size (wr.alloc o) w1) :
    EInv w f l (k + 1) (es ++ [⟨f l[k], d, B, m, c⟩]) ((((((w1.setCell ⟨w.heap.size, k * 6, none⟩ (.int .i64 d.op)).setCell ⟨w.heap.size, k * 6 + 1, none⟩ (.int .i64 d.k)).setCell ⟨w.heap.size, k * 6 + 2, none⟩ (.int .i64 d.n)).setCell ⟨w.heap.size, k * 6 + 3, none⟩ (.string d.s)).setCell ⟨w.heap.size, k * 6 + 4, none⟩ (.string d.nm)).setCell ⟨w.heap.size, k * 6 + 5, none⟩ (.slice B m c)) := by
  have hw := h.lt
  have hb1 : Below wr.heap.size wr w1 := b_then hb
  have hs1 := hb1.size
  have hso : (wr.alloc o).heap.size = wr.heap.size + 1 := by simp
  refine ⟨hk, by simp [h.len], ?_, ?_, ?_, ?_, ?_⟩
  · rw [take_at l k hk, List.map_append, List.map_append, h.is]; rfl
  · obtain ⟨r, hr⟩ := h.row
    have hl : (elC es ++ r).length = l.length * 6 := hr.1
    rw [List.length_append, elC_len, h.len] at hl
    have hr1 : w1.ownsRow w.heap.size 34 6 (.slice (some ⟨w.heap.size, 0, none⟩) l.length l.length) l.length (elC es ++ r) :=
      hr.kept (row := none) ⟨hb1.os, hb1.tape, hb1.output, hb1.size, fun k hk _ => hb1.block k hk⟩ (.inr (by simp [Value.ownBlock]))
    refine ⟨r.drop 6, ?_⟩
    rw [elC_snoc]
    exact set6_own hr1 (by rw [elC_len, h.len]) (by omega) _ _ _ _ _ _
  · intro e he
    rcases List.mem_append.1 he with he | he
    · exact IsP.keep (fun b hb2 hl => (set6_block (by omega) _ _ _ _ _ _).trans (hb1.block b hl)) (fun b hb2 _ => hb2) _ _ _ _ (h.all e he)
    · simp at he; subst he
      refine IsP.keep (fun b hb2 hl => set6_block ?_ _ _ _ _ _ _) (fun b hb2 _ => ?_) _ _ _ _ hi
      · have : (wr.alloc o).heap.size ≤ b := hb2
        omega
      · have : (wr.alloc o).heap.size ≤ b := hb2
        omega
  · exact set6_below (h.below.trans (hb1.mono h.below.size)) (Nat.le_refl _) _ _ _ _ _ _
  · rw [set6_size]; omega
theorem EInv.done {w : World} {f : Ex → Ex} {l : List Ex} {es : List El} {wr : World} (h : EInv w f l l.length es wr) (h0 : 0 < l.length) : RowOut (l.map f) w (.returned (.slice (some ⟨w.heap.size, 0, none⟩) l.length l.length)) wr := by
  obtain ⟨r, hr⟩ := h.row
  have hlen : (elC es ++ r).length = l.length * 6 := hr.1
  rw [List.length_append, elC_len, h.len] at hlen
  have hl : es.map El.x = l.map f := by rw [h.is, List.take_length]
  have hc : ∀ j, j < es.length * 6 → wr.cell? ⟨w.heap.size, j, none⟩ = (elC es)[j]? := fun j hj => by
    rw [hr.cellAt j (by rw [h.len] at hj; exact hj), List.getElem?_append_left (by rw [elC_len]; exact hj)]
  have hm : l.length ≤ maxLen := by
    rcases hr.2 with ⟨h2, _⟩ | ⟨g', cap', cur, h2, _, _, h3, h4, _⟩
    · simp at h2
    · omega
  have hp := isP_row (P := fun b => w.heap.size ≤ b) (d := ⟨0, 0, 0, ⟨#[]⟩, ⟨#[]⟩⟩) hc (Nat.le_refl _) (by rw [h.len]; exact hm) (Nat.zero_le _) (Nat.zero_le _) fun e he => (h.all e he).imp fun b hb _ => Nat.le_of_lt hb
  rw [hl, isP_mk] at hp
  refine ⟨some ⟨w.heap.size, 0, none⟩, l.length, by rw [List.length_map], hp.2.2.2, h.below⟩

end Go.Proofs.Ytonlkmkfcaadlaa.NmC
