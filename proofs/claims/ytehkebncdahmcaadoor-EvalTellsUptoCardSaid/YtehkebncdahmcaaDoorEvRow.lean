/- A row of values that is being filled. -/
import Derived.Test.YtehkebncdahmcaaDoorEvOper
import Derived.Laws.OwnMore
import Derived.OwnWalk
namespace Go.Proofs.YtehkebncdahmcaaDoor.EvR
open Go.RowKit
open NumM ValM StrM ExM TyM EvM Kit Ev EvC EvO ExL
set_option linter.unusedVariables false

def cellsV : List Vl → List Value
  | [] => []
  | v :: l => .int .i64 v.k :: .int .i64 v.n :: .string v.s :: cellsV l
theorem cellsV_len : ∀ vs : List Vl, (cellsV vs).length = vs.length * 3
  | [] => rfl
  | v :: l => by rw [cellsV, List.length_cons, List.length_cons, List.length_cons, cellsV_len l, List.length_cons]; omega
theorem cellsV_at : ∀ (vs : List Vl) (i : Nat) (h : i < vs.length), (cellsV vs)[i * 3]? = some (.int .i64 vs[i].k) ∧ (cellsV vs)[i * 3 + 1]? = some (.int .i64 vs[i].n) ∧ (cellsV vs)[i * 3 + 2]? = some (.string vs[i].s)
  | [], i, h => absurd h (by simp)
  | v :: l, 0, _ => ⟨rfl, rfl, rfl⟩
  | v :: l, i + 1, h => by
    have := cellsV_at l i (by simpa using h)
    rw [show (i + 1) * 3 = i * 3 + 1 + 1 + 1 by omega]
    exact this
theorem cellsV_ext {L : List Value} {vs : List Vl} (hl : L.length = vs.length * 3) (h : ∀ i (hi : i < vs.length), L[i * 3]? = some (.int .i64 vs[i].k) ∧ L[i * 3 + 1]? = some (.int .i64 vs[i].n) ∧ L[i * 3 + 2]? = some (.string vs[i].s)) : L = cellsV vs := by
  refine List.ext_getElem? fun j => ?_
  by_cases hj : j < vs.length * 3
  · have hi : j / 3 < vs.length := by omega
    obtain ⟨a0, a1, a2⟩ := h (j / 3) hi
    obtain ⟨b0, b1, b2⟩ := cellsV_at vs (j / 3) hi
    have : j = j / 3 * 3 ∨ j = j / 3 * 3 + 1 ∨ j = j / 3 * 3 + 2 := by omega
    rcases this with e | e | e
    · rw [e]; rw [a0, b0]
    · rw [e]; rw [a1, b1]
    · rw [e]; rw [a2, b2]
  · rw [List.getElem?_eq_none (by omega), List.getElem?_eq_none (by rw [cellsV_len]; omega)]
theorem cellsV_set : ∀ (vs : List Vl) (k : Nat) (_ : k < vs.length) (v : Vl), (((cellsV vs).set (k * 3) (.int .i64 v.k)).set (k * 3 + 1) (.int .i64 v.n)).set (k * 3 + 2) (.string v.s) = cellsV (vs.set k v)
  | [], k, h, _ => absurd h (by simp)
  | x :: l, 0, _, v => rfl
  | x :: l, k + 1, h, v => by
    have := cellsV_set l k (by simpa using h) v
    rw [show (k + 1) * 3 + 2 = k * 3 + 2 + 1 + 1 + 1 by omega, show (k + 1) * 3 + 1 = k * 3 + 1 + 1 + 1 + 1 by omega, show (k + 1) * 3 = k * 3 + 1 + 1 + 1 by omega]
    simp only [cellsV, List.set_cons_succ]
    rw [this]
theorem made_cells (n : Nat) : (madeCells (Value.agg #[.int .i64 0, .int .i64 0, .string ⟨#[]⟩]).cells (n * 3)).toList = cellsV (List.replicate n zeroV) := by
  refine cellsV_ext (by rw [Array.length_toList, size_madeCells, List.length_replicate]) fun i hi => ?_
  rw [List.length_replicate] at hi
  have key : ∀ j, j < n * 3 → (madeCells (Value.agg #[.int .i64 0, .int .i64 0, .string ⟨#[]⟩]).cells (n * 3)).toList[j]? = some ((#[.int .i64 0, .int .i64 0, .string ⟨#[]⟩] : Array Value)[j % 3]!) := fun j hj => by
    unfold madeCells
    rw [Array.getElem?_toList, Array.getElem?_map, Array.getElem?_range, if_pos hj]; rfl
  simp only [List.getElem_replicate]
  refine ⟨?_, ?_, ?_⟩
  · rw [key _ (by omega), show i * 3 % 3 = 0 by omega]; rfl
  · rw [key _ (by omega), show (i * 3 + 1) % 3 = 1 by omega]; rfl
  · rw [key _ (by omega), show (i * 3 + 2) % 3 = 2 by omega]; rfl
/-- A block of values, whole. -/
def RowV (w : World) (g : Nat) (vs : List Vl) : Prop := w.heap[g]? = some (.cells (cellsV vs).toArray 23 (0, 0))
theorem RowV.lt {w : World} {g : Nat} {vs : List Vl} (h : RowV w g vs) : g < w.heap.size := (Array.getElem?_eq_some_iff.1 h).1
theorem RowV.below {w w' : World} {g : Nat} {vs : List Vl} (h : RowV w g vs) (hb : Below w.heap.size w w') : RowV w' g vs := (hb.block g h.lt).trans h
theorem RowV.frozen {w : World} {g : Nat} {vs : List Vl} (h : RowV w g vs) (o : Nat) : w.frozen? ⟨g, o, none⟩ = false := frozen_of_row w g o _ _ h
theorem RowV.at {w : World} {g : Nat} {vs : List Vl} (h : RowV w g vs) (i : Nat) (hi : i < vs.length) : w.cell? ⟨g, i * 3, none⟩ = some (.int .i64 vs[i].k) ∧ w.cell? ⟨g, i * 3 + 1, none⟩ = some (.int .i64 vs[i].n) ∧ w.cell? ⟨g, i * 3 + 2, none⟩ = some (.string vs[i].s) := by
  unfold RowV at h
  obtain ⟨b0, b1, b2⟩ := cellsV_at vs i hi
  exact ⟨by simp only [World.cell?, h]; rw [← b0]; simp, by simp only [World.cell?, h]; rw [← b1]; simp, by simp only [World.cell?, h]; rw [← b2]; simp⟩
theorem RowV.vals {w : World} {g : Nat} {vs : List Vl} (h : RowV w g vs) : Vals w g vs := fun i hi => h.at i hi
theorem RowV.set {w : World} {g : Nat} {vs : List Vl} (h : RowV w g vs) (k : Nat) (hk : k < vs.length) (v : Vl) : RowV (((w.setCell ⟨g, k * 3, none⟩ (.int .i64 v.k)).setCell ⟨g, k * 3 + 1, none⟩ (.int .i64 v.n)).setCell ⟨g, k * 3 + 2, none⟩ (.string v.s)) g (vs.set k v) := by
  have e1 := heap_setCell_same w g (k * 3) _ _ (.int .i64 v.k) h
  have e2 := heap_setCell_same _ g (k * 3 + 1) _ _ (.int .i64 v.n) e1
  have e3 := heap_setCell_same _ g (k * 3 + 2) _ _ (.string v.s) e2
  unfold RowV
  rw [e3, ← cellsV_set vs k hk v]
  simp
theorem row_of {w : World} {base g n : Nat} (h : w.ownsRow base 23 3 (.slice (some ⟨g, 0, none⟩) n n) n (madeCells (Value.agg #[.int .i64 0, .int .i64 0, .string ⟨#[]⟩]).cells (n * 3)).toList) : RowV w g (List.replicate n zeroV) := by
  rcases h.2 with ⟨h2, _⟩ | ⟨g', cap, cur, h2, _, h3, _, _, h4, h5⟩
  · cases h2
  · injection h2 with h2 _ h6
    injection h2 with h2
    injection h2 with h2
    subst h2 h6
    rw [made_cells, List.take_of_length_le (by rw [Array.length_toList]; omega)] at h5
    unfold RowV
    rw [h3, ← h5]
/-- Between two operands. -/
structure EInv (w : World) (g : Nat) (es : List Vl) (k : Nat) (wr : World) : Prop where
  le : k ≤ es.length
  row : ∃ vs : List Vl, RowV wr g vs ∧ vs.length = es.length ∧ ∀ i (h : i < vs.length) (h2 : i < es.length), i < k → vs[i] = es[i]
  below : Below w.heap.size w wr
theorem EInv.step {w : World} {g : Nat} {es : List Vl} {k : Nat} {wr w1 : World} (h : EInv w g es k wr) (hk : k < es.length) (hb : Below wr.heap.size wr w1) (hg : w.heap.size ≤ g) :
    EInv w g es (k + 1) (((w1.setCell ⟨g, k * 3, none⟩ (.int .i64 es[k].k)).setCell ⟨g, k * 3 + 1, none⟩ (.int .i64 es[k].n)).setCell ⟨g, k * 3 + 2, none⟩ (.string es[k].s)) := by
  obtain ⟨vs, hr, hl, hv⟩ := h.row
  refine ⟨hk, ⟨vs.set k es[k], (hr.below hb).set k (by omega) _, by rw [List.length_set, hl], fun i h1 h2 h3 => ?_⟩, ?_⟩
  · rw [List.length_set] at h1
    rw [List.getElem_set]
    by_cases e : k = i
    · subst e; rw [if_pos rfl]
    · rw [if_neg e]; exact hv i h1 h2 (by omega)
  · have := h.below.trans (hb.mono h.below.size)
    exact ((this.setCell (p := ⟨g, k * 3, none⟩) hg _).setCell (p := ⟨g, k * 3 + 1, none⟩) hg _).setCell (p := ⟨g, k * 3 + 2, none⟩) hg _
theorem EInv.cells {w : World} {g : Nat} {es : List Vl} {k : Nat} {wr : World} (h : EInv w g es k wr) (hk : k < es.length) : (∃ v, wr.cell? ⟨g, k * 3, none⟩ = some v) ∧ (∃ v, wr.cell? ⟨g, k * 3 + 1, none⟩ = some v) ∧ (∃ v, wr.cell? ⟨g, k * 3 + 2, none⟩ = some v) ∧ (∀ o, wr.frozen? ⟨g, o, none⟩ = false) ∧ g < wr.heap.size := by
  obtain ⟨vs, hr, hl, _⟩ := h.row
  obtain ⟨a0, a1, a2⟩ := hr.at k (by omega)
  exact ⟨⟨_, a0⟩, ⟨_, a1⟩, ⟨_, a2⟩, hr.frozen, hr.lt⟩
theorem EInv.vals {w : World} {g : Nat} {es : List Vl} {wr : World} (h : EInv w g es es.length wr) : Vals wr g es := by
  obtain ⟨vs, hr, hl, hv⟩ := h.row
  have : vs = es := List.ext_getElem hl fun i h1 h2 => hv i h1 h2 h2
  subst this; exact hr.vals
end Go.Proofs.YtehkebncdahmcaaDoor.EvR
