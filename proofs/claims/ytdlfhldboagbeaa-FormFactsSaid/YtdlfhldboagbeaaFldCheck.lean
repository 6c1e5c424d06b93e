/- Package field: whether fields may be. -/
import Derived.Test.YtdlfhldboagbeaaFldRight
import Derived.Test.YtdlfhldboagbeaaTyOf
import Derived.Test.YtdlfhldboagbeaaTyRefTop
import Derived.Deep.RegionLaw
namespace Go.Proofs.Ytdlfhldboagbeaa.FldC
open Go.RowKit
open ValM LexM NumM ExM Kit ExL ExN ExC RawV Within RawL GenL FldP FldR TyM Ty TyO
set_option linter.unusedVariables false

/-- The first that is not zero. -/
def scan (P : Nat → Int) : Nat → Int
  | 0 => 0
  | n + 1 => if scan P n = 0 then P n else scan P n
theorem scan_zero {P : Nat → Int} : ∀ (n : Nat), (∀ j, j < n → P j = 0) → scan P n = 0
  | 0, _ => rfl
  | n + 1, h => by
    unfold scan
    rw [if_pos (scan_zero n fun j hj => h j (by omega))]
    exact h n (by omega)
theorem scan_stop {P : Nat → Int} : ∀ (n k : Nat), k < n → (∀ j, j < k → P j = 0) → P k ≠ 0 → scan P n = P k
  | n + 1, k, hk, h, h0 => by
    unfold scan
    by_cases e : k = n
    · subst e
      rw [if_pos (scan_zero k h)]
    · have := scan_stop n k (by omega) h h0
      rw [this, if_neg h0]
/-- P9.3, of one field: by itself and by those ahead of it; by its type. -/
def ownE (fs : List GenL.Fd) (X : Nat → Ex) (k : Nat) : Int :=
  if h : k < fs.length then (if rightE fs[k] (X k) = 0 then (if atF fs fs[k].nm < k then 6 else 0) else rightE fs[k] (X k)) else 0
def srcE (fs : List GenL.Fd) (f : GenL.Fd) (x : Ex) : Int := if f.kind = 2 then fitsT (fts fs) x f.ty else if f.kind = 3 then (ofT (fts fs) x).2 else 0
def typE (fs : List GenL.Fd) (X : Nat → Ex) (k : Nat) : Int := if h : k < fs.length then srcE fs fs[k] (X k) else 0
/-- P9.3. -/
def checkF (fs : List GenL.Fd) (X : Nat → Ex) : Int :=
  if 14 < fs.length then 1 else if scan (ownE fs X) fs.length = 0 then scan (typE fs X) fs.length else scan (ownE fs X) fs.length
def Forms (w : World) (fs : List GenL.Fd) (X : Nat → Ex) : Prop := ∀ (k : Nat) (h : k < fs.length), fs[k].nm.size ≤ maxLen ∧ Is w (X k) fs[k].d fs[k].A fs[k].n
theorem Forms.below {w w' : World} {fs : List GenL.Fd} {X : Nat → Ex} (h : Forms w fs X) (hb : Below w.heap.size w w') : Forms w' fs X := fun k hk => ⟨(h k hk).1, (h k hk).2.below hb⟩
end Go.Proofs.Ytdlfhldboagbeaa.FldC
