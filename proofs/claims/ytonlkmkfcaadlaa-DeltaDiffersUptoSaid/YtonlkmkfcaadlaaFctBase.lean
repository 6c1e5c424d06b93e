/- Facts as they lie in memory. -/
import Derived.Test.YtonlkmkfcaadlaaGenLeaf
import Derived.Test.YtonlkmkfcaadlaaMaths
namespace Go.Proofs.Ytonlkmkfcaadlaa.EvF
open Go.RowKit
open NumM ValM StrM ExM TyM EvM Kit ExL GenL
set_option linter.unusedVariables false

/-! ### Facts in memory -/
structure Fc where
  nm : ByteArray
  kk : Int
  kn : Int
  ks : ByteArray
  v : Vl
def fcs (l : List Fc) : List (ByteArray × Vl) := l.map fun f => (f.nm, f.v)
def FcAt (w : World) (p : Addr) (f : Fc) : Prop :=
  w.cell? p = some (.string f.nm) ∧ w.cell? ⟨p.block, p.off + 1, none⟩ = some (.int .i64 f.kk) ∧ w.cell? ⟨p.block, p.off + 2, none⟩ = some (.int .i64 f.kn) ∧ w.cell? ⟨p.block, p.off + 3, none⟩ = some (.string f.ks) ∧
  w.cell? ⟨p.block, p.off + 4, none⟩ = some (.int .i64 f.v.k) ∧ w.cell? ⟨p.block, p.off + 5, none⟩ = some (.int .i64 f.v.n) ∧ w.cell? ⟨p.block, p.off + 6, none⟩ = some (.string f.v.s)
theorem FcAt.below {w w' : World} {p : Addr} {f : Fc} (h : FcAt w p f) (hb : Below w.heap.size w w') : FcAt w' p f := by
  have hl := cell_lt' h.1
  have k : ∀ o v, w.cell? ⟨p.block, o, none⟩ = some v → w'.cell? ⟨p.block, o, none⟩ = some v := fun o v hv => (hb.cell (p := ⟨p.block, o, none⟩) hl).trans hv
  exact ⟨(hb.cell (p := p) hl).trans h.1, k _ _ h.2.1, k _ _ h.2.2.1, k _ _ h.2.2.2.1, k _ _ h.2.2.2.2.1, k _ _ h.2.2.2.2.2.1, k _ _ h.2.2.2.2.2.2⟩
def Fcs (w : World) (A : Option Addr) (l : List Fc) : Prop := ∀ (i : Nat) (h : i < l.length), ∃ a, A = some a ∧ FcAt w (a.add (i * 7)) l[i]
theorem Fcs.below {w w' : World} {A : Option Addr} {l : List Fc} (h : Fcs w A l) (hb : Below w.heap.size w w') : Fcs w' A l := fun i hi => by
  obtain ⟨a, ha, hf⟩ := h i hi
  exact ⟨a, ha, hf.below hb⟩
theorem fcs_len (l : List Fc) : (fcs l).length = l.length := by unfold fcs; rw [List.length_map]
theorem fcs_at (l : List Fc) (k : Nat) (h : k < l.length) (g : k < (fcs l).length) : (fcs l)[k] = (l[k].nm, l[k].v) := by simp only [fcs, List.getElem_map]

def fcC (f : Fc) : List Value := [.string f.nm, .int .i64 f.kk, .int .i64 f.kn, .string f.ks, .int .i64 f.v.k, .int .i64 f.v.n, .string f.v.s]
theorem fcAt_of {w : World} {g o : Nat} {f : Fc} (h : ∀ j, j < 7 → w.cell? ⟨g, o + j, none⟩ = (fcC f)[j]?) : FcAt w ⟨g, o, none⟩ f :=
  ⟨h 0 (by decide), h 1 (by decide), h 2 (by decide), h 3 (by decide), h 4 (by decide), h 5 (by decide), h 6 (by decide)⟩
theorem FcAt.lt {w : World} {p : Addr} {f : Fc} (h : FcAt w p f) : p.block < w.heap.size := cell_lt' h.1
theorem FcAt.of_block {w w' : World} {p : Addr} {f : Fc} (h : FcAt w p f) (hb : w'.heap[p.block]? = w.heap[p.block]?) : FcAt w' p f := by
  have k : ∀ q : Addr, q.block = p.block → w'.cell? q = w.cell? q := fun q hq => World.cell?_of_block (by rw [hq]; exact hb)
  obtain ⟨a0, a1, a2, a3, a4, a5, a6⟩ := h
  exact ⟨(k p rfl).trans a0, (k ⟨p.block, p.off + 1, none⟩ rfl).trans a1, (k ⟨p.block, p.off + 2, none⟩ rfl).trans a2, (k ⟨p.block, p.off + 3, none⟩ rfl).trans a3, (k ⟨p.block, p.off + 4, none⟩ rfl).trans a4, (k ⟨p.block, p.off + 5, none⟩ rfl).trans a5, (k ⟨p.block, p.off + 6, none⟩ rfl).trans a6⟩
end Go.Proofs.Ytonlkmkfcaadlaa.EvF
