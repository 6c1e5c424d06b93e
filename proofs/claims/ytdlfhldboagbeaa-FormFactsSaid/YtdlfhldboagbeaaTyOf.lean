/- Contracts of package typing: typeOf, Of, Fits. -/
import Derived.Test.YtdlfhldboagbeaaTyMap
import Derived.Test.YtdlfhldboagbeaaExCheck
import Derived.Test.YtdlfhldboagbeaaNmCopy
import Derived.Laws.OwnMore
import Derived.OwnWalk
namespace Go.Proofs.Ytdlfhldboagbeaa.TyO
open Go.RowKit
open ExM Kit ExL GenL TyM Ty TyT ExN
set_option linter.unusedVariables false

theorem infoI : (Try.prog.info? 3).map (fun i => (i.zero, i.size, i.bytes)) = some (some (.int .i64 0), 1, 8) := by kernel_rfl
def vals (l : List (Int × Int)) : List Value := l.map fun p => .int .i64 p.1
theorem vals_len (l : List (Int × Int)) : (vals l).length = l.length := by unfold vals; rw [List.length_map]
theorem vals_snoc (l : List (Int × Int)) (p : Int × Int) : vals (l ++ [p]) = vals l ++ [.int .i64 p.1] := by unfold vals; rw [List.map_append]; rfl
theorem ints_vals (w : World) (b : Nat) (l : List (Int × Int)) (h : ∀ j, j < l.length → w.cell? ⟨b, j, none⟩ = (vals l)[j]?) : IntsAt w b (l.map (·.1)) := fun i hi => by
  rw [List.length_map] at hi
  rw [h i hi]; unfold vals
  simp [hi]

/-- Between two operands. -/
structure TInv (w : World) (fs : List GenL.Fd) (l : List Ex) (g k : Nat) (wr : World) : Prop where
  le : k ≤ l.length
  err : errL (tyL (fts fs) (l.take k)) = 0
  row : ∃ r : List Value, wr.ownsRow w.heap.size 3 1 (.slice (some ⟨g, 0, none⟩) l.length l.length) l.length (vals (tyL (fts fs) (l.take k)) ++ r)
  below : Below w.heap.size w wr
theorem TInv.len {w : World} {fs : List GenL.Fd} {l : List Ex} {g k : Nat} {wr : World} (h : TInv w fs l g k wr) : (vals (tyL (fts fs) (l.take k))).length = k := by
  rw [vals_len, tyL_len, List.length_take]; have := h.le; omega
theorem TInv.cell {w : World} {fs : List GenL.Fd} {l : List Ex} {g k : Nat} {wr : World} (h : TInv w fs l g k wr) (hk : k < l.length) : (∃ v, wr.cell? ⟨g, k, none⟩ = some v) ∧ wr.frozen? ⟨g, k, none⟩ = false := by
  obtain ⟨r, hr⟩ := h.row
  have hl := hr.1
  exact ⟨⟨_, (hr.cellAt k (by omega)).trans (List.getElem?_eq_getElem (by omega))⟩, hr.frozenAt k⟩
theorem TInv.step {w : World} {fs : List GenL.Fd} {l : List Ex} {g k : Nat} {wr w1 : World} (h : TInv w fs l g k wr) (hk : k < l.length) (hb : Below wr.heap.size wr w1) (h0 : (Ex.ty (fts fs) l[k]).2 = 0) :
    TInv w fs l g (k + 1) (w1.setCell ⟨g, k, none⟩ (.int .i64 (Ex.ty (fts fs) l[k]).1)) := by
  refine ⟨hk, by rw [errL_at _ l k hk h.err, h0], ?_, ?_⟩
  · obtain ⟨r, hr⟩ := h.row
    have hl : (vals (tyL (fts fs) (l.take k)) ++ r).length = l.length * 1 := hr.1
    rw [List.length_append, h.len] at hl
    have hr1 := hr.kept (row := none) ⟨hb.os, hb.tape, hb.output, hb.size, fun k hk _ => hb.block k hk⟩ (.inr (by simp [Value.ownBlock]))
    refine ⟨r.drop 1, ?_⟩
    have hs := (hr1.stored k (.int .i64 (Ex.ty (fts fs) l[k]).1)).1
    rw [NmC.set_app _ _ 0 k (by have := h.len; omega)] at hs
    rw [tyL_at _ l k hk, vals_snoc]
    match r, hl, hs with
    | [], hl, _ => simp at hl; omega
    | x :: r, _, hs => simpa using hs
  · obtain ⟨r, hr⟩ := h.row
    have hg : w.heap.size ≤ g := by
      rcases hr.2 with ⟨h2, _⟩ | ⟨g', cap', cur, h2, h3, _⟩
      · simp at h2
      · injection h2 with h2; injection h2 with h2; injection h2 with h2; omega
    exact (h.below.trans (hb.mono h.below.size)).setCell (p := ⟨g, k, none⟩) hg _
theorem TInv.ints {w : World} {fs : List GenL.Fd} {l : List Ex} {g : Nat} {wr : World} (h : TInv w fs l g l.length wr) : IntsAt wr g ((tyL (fts fs) l).map (·.1)) := by
  obtain ⟨r, hr⟩ := h.row
  have hl := h.len
  rw [List.take_length] at hr hl
  exact ints_vals wr g _ fun j hj => by
    rw [hr.cellAt j (by rw [tyL_len] at hj; omega), List.getElem?_append_left (by rw [vals_len]; exact hj)]

theorem b_step {wc w w' : World} (h : Below wc.heap.size wc w) (h' : Below w.heap.size w w') : Below wc.heap.size wc w' := h.trans (h'.mono h.size)
end Go.Proofs.Ytdlfhldboagbeaa.TyO
