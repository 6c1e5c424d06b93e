/- Plain mathematics of chapter 6: the type of a formula. No program is named here. -/
import Derived.Test.YtehkebncdahmcaaGreatDoorExMath
namespace Go.Proofs.YtehkebncdahmcaaGreatDoor.TyM
open ExM

/-- The type of the first field with a name. -/
def fieldT : List (ByteArray × Int) → ByteArray → Int × Int
  | [], _ => (0, 5)
  | f :: l, s => if f.1 = s then (f.2, 0) else fieldT l s
/-- What an operator asks of its operands (0: the type of the last one), and its result. -/
def ruleReq (op : Int) : List Int :=
  if op = 3 then [1] else if op = 4 then [2] else if op = 18 then [3] else if op = 17 then [2, 0, 0] else if op = 10 then [3, 3]
  else if op = 15 ∨ op = 16 then [2, 2] else if 11 ≤ op ∧ op ≤ 14 then [0, 0] else [1, 1]
def ruleRes (op : Int) : Int := if op = 17 then 0 else if op = 10 then 3 else if op = 4 ∨ (11 ≤ op ∧ op ≤ 16) then 2 else 1
def settl (k last : Int) : Int := if k = 0 then last else k
def lastT (ts : List Int) : Int := ts.getD (ts.length - 1) 0
def fitsR (req ts : List Int) : Prop := ∀ i, i < req.length → ts.getD i 0 = settl (req.getD i 0) (lastT ts)
instance (req ts : List Int) : Decidable (fitsR req ts) := by unfold fitsR; exact inferInstance
def applyR (req : List Int) (res : Int) (ts : List Int) : Int × Int := if fitsR req ts then (settl res (lastT ts), 0) else (0, 9)
def errL : List (Int × Int) → Int
  | [] => 0
  | p :: r => if p.2 = 0 then errL r else p.2
def tyN (fs : List (ByteArray × Int)) (d : Nd) (ps : List (Int × Int)) : Int × Int :=
  if d.op = 1 then (d.k, 0) else if d.op = 2 then fieldT fs d.nm else if errL ps = 0 then applyR (ruleReq d.op) (ruleRes d.op) (ps.map (·.1)) else (0, errL ps)
mutual
def Ex.ty (fs : List (ByteArray × Int)) : Ex → Int × Int | .mk d l => tyN fs d (tyL fs l)
def tyL (fs : List (ByteArray × Int)) : List Ex → List (Int × Int) | [] => [] | x :: l => Ex.ty fs x :: tyL fs l
end
theorem ty_mk (fs : List (ByteArray × Int)) (d : Nd) (l : List Ex) : Ex.ty fs (.mk d l) = tyN fs d (tyL fs l) := by simp [Ex.ty]
theorem tyL_nil (fs : List (ByteArray × Int)) : tyL fs [] = [] := by simp [tyL]
theorem tyL_cons (fs : List (ByteArray × Int)) (x : Ex) (l : List Ex) : tyL fs (x :: l) = Ex.ty fs x :: tyL fs l := by simp [tyL]
theorem tyL_map (fs : List (ByteArray × Int)) (l : List Ex) : tyL fs l = l.map (Ex.ty fs) := by
  induction l with
  | nil => rw [tyL_nil]; rfl
  | cons x l ih => rw [tyL_cons, ih]; rfl
theorem tyL_len (fs : List (ByteArray × Int)) (l : List Ex) : (tyL fs l).length = l.length := by rw [tyL_map, List.length_map]
theorem errL_append (l m : List (Int × Int)) : errL (l ++ m) = if errL l = 0 then errL m else errL l := by
  induction l with
  | nil => simp [errL]
  | cons p l ih =>
    rw [List.cons_append, errL, errL, ih]
    by_cases h : p.2 = 0
    · rw [if_pos h, if_pos h]
    · rw [if_neg h, if_neg h, if_neg h]
theorem errL_one (p : Int × Int) : errL [p] = p.2 := by
  rw [errL]; split
  · rename_i h; rw [h]; rfl
  · rfl
theorem tyL_at (fs : List (ByteArray × Int)) (l : List Ex) (k : Nat) (h : k < l.length) : tyL fs (l.take (k + 1)) = tyL fs (l.take k) ++ [Ex.ty fs l[k]] := by
  rw [take_at l k h, tyL_map, tyL_map, List.map_append]; rfl
theorem errL_at (fs : List (ByteArray × Int)) (l : List Ex) (k : Nat) (h : k < l.length) (h0 : errL (tyL fs (l.take k)) = 0) : errL (tyL fs (l.take (k + 1))) = (Ex.ty fs l[k]).2 := by
  rw [tyL_at fs l k h, errL_append, if_pos h0, errL_one]
/-- An error on the way is the error of the whole. -/
theorem errL_stop (fs : List (ByteArray × Int)) (l : List Ex) (k : Nat) (h : k < l.length) (h0 : errL (tyL fs (l.take k)) = 0) (h1 : (Ex.ty fs l[k]).2 ≠ 0) : errL (tyL fs l) = (Ex.ty fs l[k]).2 := by
  have e : l = l.take (k + 1) ++ l.drop (k + 1) := (List.take_append_drop _ _).symm
  have e2 : tyL fs l = tyL fs (l.take (k + 1)) ++ tyL fs (l.drop (k + 1)) := by
    rw [tyL_map, tyL_map, tyL_map, ← List.map_append, List.take_append_drop]
  have e3 := errL_at fs l k h h0
  rw [e2, errL_append, if_neg (by rw [e3]; exact h1), e3]
/-- P6.1 whole. -/
def ofT (fs : List (ByteArray × Int)) (x : Ex) : Int × Int := if x.checkE = 0 then Ex.ty fs x else (0, x.checkE)
/-- P6.2. -/
def fitsT (fs : List (ByteArray × Int)) (x : Ex) (want : Int) : Int := if (ofT fs x).2 = 0 then (if (ofT fs x).1 = want then 0 else 9) else (ofT fs x).2
theorem fieldT_skip (fs : List (ByteArray × Int)) (s : ByteArray) (k : Nat) (h : ∀ j (hj : j < fs.length), j < k → fs[j].1 ≠ s) : fieldT fs s = fieldT (fs.drop k) s := by
  induction k generalizing fs with
  | zero => rw [List.drop_zero]
  | succ k ih =>
    match fs, h with
    | [], _ => rfl
    | f :: l, h =>
      rw [fieldT, if_neg (show ¬ f.1 = s from h 0 (by simp) (by omega)), List.drop_succ_cons]
      exact ih l fun j hj hjk => h (j + 1) (by simpa using hj) (by omega)
theorem fieldT_hit (fs : List (ByteArray × Int)) (s : ByteArray) (k : Nat) (hk : k < fs.length) (h : ∀ j (hj : j < fs.length), j < k → fs[j].1 ≠ s) (he : fs[k].1 = s) : fieldT fs s = (fs[k].2, 0) := by
  rw [fieldT_skip fs s k h, List.drop_eq_getElem_cons hk, fieldT, if_pos he]
theorem fieldT_none (fs : List (ByteArray × Int)) (s : ByteArray) (h : ∀ j (hj : j < fs.length), fs[j].1 ≠ s) : fieldT fs s = (0, 5) := by
  rw [fieldT_skip fs s fs.length (fun j hj _ => h j hj), List.drop_length]; rfl
theorem ruleReq_len {op : Int} (h1 : 3 ≤ op) (h2 : op ≤ 18) : (ruleReq op).length = arity op := by
  have : op = 3 ∨ op = 4 ∨ op = 5 ∨ op = 6 ∨ op = 7 ∨ op = 8 ∨ op = 9 ∨ op = 10 ∨ op = 11 ∨ op = 12 ∨ op = 13 ∨ op = 14 ∨ op = 15 ∨ op = 16 ∨ op = 17 ∨ op = 18 := by omega
  rcases this with h | h | h | h | h | h | h | h | h | h | h | h | h | h | h | h <;> subst h <;> rfl
theorem arity_pos {op : Int} (h1 : 3 ≤ op) : 1 ≤ arity op := by
  unfold arity
  rw [if_neg (by omega)]
  repeat' split
  all_goals omega
/-- An operator of a formula that is right. -/
theorem okN_op {d : Nd} {l : List Ex} (h : (Ex.mk d l).okN) : 1 ≤ d.op ∧ d.op ≤ 18 ∧ l.length = arity d.op := by
  have := ((okN_mk d l).1 h).1
  unfold nodeE at this
  by_cases h1 : d.op < 1 ∨ 18 < d.op
  · rw [if_pos h1] at this; exact absurd this (by decide)
  · rw [if_neg h1] at this
    by_cases h2 : l.length = arity d.op ∧ vOk d = true ∧ nmOk d = true
    · exact ⟨by omega, by omega, h2.1⟩
    · rw [if_neg h2] at this; exact absurd this (by decide)
end Go.Proofs.YtehkebncdahmcaaGreatDoor.TyM
