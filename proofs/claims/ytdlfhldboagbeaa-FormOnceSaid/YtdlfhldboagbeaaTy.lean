/- Contracts of package typing: settled, apply, typeOfField. -/
import Derived.Test.YtdlfhldboagbeaaGenLeaf
import Derived.Test.YtdlfhldboagbeaaMaths
import Derived.Deep.QuietTactic
import Derived.BigQuiet
import Derived.WalkSpells
import Derived.WalkLawsBesides
import Derived.IntWalk
namespace Go.Proofs.Ytdlfhldboagbeaa.Ty
open Go.RowKit
open ExM Kit ExL GenL TyM
set_option linter.unusedVariables false

/-- A call that leaves the world alone, behind draws. -/
theorem still_drawn {P : Program} {f : FuncId} {args : Array Value} {w : World} {i j : Nat} {v : Value} (c : ∀ W, Calls P f args W fun e w' => e = .returned v ∧ w' = W) :
    Calls P f args (w.drewN (i + j)) fun e w' => e = .returned v ∧ ∃ k, w' = w.drewN (i + k) := (c _).mono fun _ _ h => ⟨h.1, j, h.2⟩
/-- A row of numbers at the head of a block. -/
def IntsAt (w : World) (b : Nat) (l : List Int) : Prop := ∀ i, i < l.length → w.cell? ⟨b, i, none⟩ = some (.int .i64 (l.getD i 0))
theorem IntsAt.below {w w' : World} {b : Nat} {l : List Int} (h : IntsAt w b l) (hb : Below w.heap.size w w') : IntsAt w' b l := fun i hi =>
  (hb.cell (p := ⟨b, i, none⟩) (cell_lt' (h i hi))).trans (h i hi)

/-- Fields, as far as their types go. -/
def fts (fs : List GenL.Fd) : List (ByteArray × Int) := fs.map fun f => (f.nm, f.ty)
theorem fts_len (fs : List GenL.Fd) : (fts fs).length = fs.length := by unfold fts; rw [List.length_map]
theorem fts_at (fs : List GenL.Fd) (k : Nat) (h : k < fs.length) (g : k < (fts fs).length) : (fts fs)[k] = (fs[k].nm, fs[k].ty) := by simp only [fts, List.getElem_map]
theorem fieldT_fts {fs : List GenL.Fd} {s : ByteArray} {k : Nat} (hk : k < fs.length) (h : ∀ j (hj : j < fs.length), j < k → fs[j].nm ≠ s) (he : fs[k].nm = s) : fieldT (fts fs) s = (fs[k].ty, 0) := by
  rw [fieldT_hit (fts fs) s k (by rw [fts_len]; exact hk) (fun j hj hjk => by rw [fts_len] at hj; rw [fts_at fs j hj]; exact h j hj hjk) (by rw [fts_at fs k hk]; exact he), fts_at fs k hk]
theorem fieldT_fts_none {fs : List GenL.Fd} {s : ByteArray} (h : ∀ j (hj : j < fs.length), fs[j].nm ≠ s) : fieldT (fts fs) s = (0, 5) :=
  fieldT_none _ _ fun j hj => by rw [fts_len] at hj; rw [fts_at fs j hj]; exact h j hj

end Go.Proofs.Ytdlfhldboagbeaa.Ty
