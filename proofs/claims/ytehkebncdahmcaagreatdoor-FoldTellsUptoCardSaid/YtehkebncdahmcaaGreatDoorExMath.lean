/- Plain mathematics of chapter 4: formulas as trees, their size, depth and error. No program is named here. -/
import GoSem.Claim
import Derived.Test.YtehkebncdahmcaaGreatDoorValueMath
import Derived.Test.YtehkebncdahmcaaGreatDoorLexMath
namespace Go.Proofs.YtehkebncdahmcaaGreatDoor.ExM
open ValM LexM

/-- A node's own data. -/
structure Nd where
  op : Int
  k : Int
  n : Int
  s : ByteArray
  nm : ByteArray

inductive Ex where
  | mk (d : Nd) (args : List Ex)

def Ex.d : Ex → Nd | .mk d _ => d
def Ex.args : Ex → List Ex | .mk _ l => l

theorem Ex.ind {P : Ex → Prop} (h : ∀ d l, (∀ x ∈ l, P x) → P (.mk d l)) : ∀ x, P x
  | .mk d l => h d l (go l)
where go : ∀ l : List Ex, ∀ x ∈ l, P x
  | [], _, hx => absurd hx (by simp)
  | y :: r, x, hx => by
    rcases List.mem_cons.1 hx with e | hx
    · rw [e]; exact Ex.ind h y
    · exact go r x hx

mutual
def Ex.nodes : Ex → Nat | .mk _ l => 1 + nodesL l
def nodesL : List Ex → Nat | [] => 0 | x :: l => x.nodes + nodesL l
end
mutual
def Ex.depth : Ex → Nat | .mk _ l => depthL l + 1
def depthL : List Ex → Nat | [] => 0 | x :: l => max x.depth (depthL l)
end
mutual
def Ex.pre : Ex → List (Nd × Nat) | .mk d l => (d, l.length) :: preL l
def preL : List Ex → List (Nd × Nat) | [] => [] | x :: l => x.pre ++ preL l
end

theorem nodes_mk (d : Nd) (l : List Ex) : (Ex.mk d l).nodes = 1 + nodesL l := by simp [Ex.nodes]
theorem depth_mk (d : Nd) (l : List Ex) : (Ex.mk d l).depth = depthL l + 1 := by simp [Ex.depth]
theorem pre_mk (d : Nd) (l : List Ex) : (Ex.mk d l).pre = (d, l.length) :: preL l := by simp [Ex.pre]
theorem nodesL_nil : nodesL [] = 0 := by simp [nodesL]
theorem depthL_nil : depthL [] = 0 := by simp [depthL]
theorem preL_nil : preL [] = [] := by simp [preL]
theorem nodesL_cons (x : Ex) (l : List Ex) : nodesL (x :: l) = x.nodes + nodesL l := by simp [nodesL]
theorem depthL_cons (x : Ex) (l : List Ex) : depthL (x :: l) = max x.depth (depthL l) := by simp [depthL]
theorem preL_cons (x : Ex) (l : List Ex) : preL (x :: l) = x.pre ++ preL l := by simp [preL]
theorem nodesL_append (l m : List Ex) : nodesL (l ++ m) = nodesL l + nodesL m := by
  induction l with
  | nil => simp [nodesL_nil]
  | cons x l ih => rw [List.cons_append, nodesL_cons, nodesL_cons, ih]; omega
theorem depthL_append (l m : List Ex) : depthL (l ++ m) = max (depthL l) (depthL m) := by
  induction l with
  | nil => simp [depthL_nil]
  | cons x l ih => rw [List.cons_append, depthL_cons, depthL_cons, ih]; omega
theorem preL_append (l m : List Ex) : preL (l ++ m) = preL l ++ preL m := by
  induction l with
  | nil => simp [preL_nil]
  | cons x l ih => rw [List.cons_append, preL_cons, preL_cons, ih, List.append_assoc]
theorem nodesL_snoc (l : List Ex) (x : Ex) : nodesL (l ++ [x]) = nodesL l + x.nodes := by rw [nodesL_append, nodesL_cons, nodesL_nil]; omega
theorem depthL_snoc (l : List Ex) (x : Ex) : depthL (l ++ [x]) = max (depthL l) x.depth := by rw [depthL_append, depthL_cons, depthL_nil]; omega
theorem nodes_pos (x : Ex) : 1 ≤ x.nodes := by cases x; rw [nodes_mk]; omega
theorem depth_pos (x : Ex) : 1 ≤ x.depth := by cases x; rw [depth_mk]; omega
theorem nodesL_take (l : List Ex) (i : Nat) : nodesL (l.take i) ≤ nodesL l := by
  have h := nodesL_append (l.take i) (l.drop i)
  rw [List.take_append_drop] at h; omega
theorem depthL_take (l : List Ex) (i : Nat) : depthL (l.take i) ≤ depthL l := by
  have h := depthL_append (l.take i) (l.drop i)
  rw [List.take_append_drop] at h; omega
theorem take_at {α : Type} (l : List α) (i : Nat) (h : i < l.length) : l.take (i + 1) = l.take i ++ [l[i]] := by
  rw [List.take_succ_eq_append_getElem h]
theorem nodesL_at (l : List Ex) (i : Nat) (h : i < l.length) : nodesL (l.take (i + 1)) = nodesL (l.take i) + l[i].nodes := by rw [take_at l i h, nodesL_snoc]
theorem depthL_at (l : List Ex) (i : Nat) (h : i < l.length) : depthL (l.take (i + 1)) = max (depthL (l.take i)) l[i].depth := by rw [take_at l i h, depthL_snoc]
theorem preL_at (l : List Ex) (i : Nat) (h : i < l.length) : preL (l.take (i + 1)) = preL (l.take i) ++ l[i].pre := by rw [take_at l i h, preL_append, preL_cons, preL_nil, List.append_nil]
theorem nodes_mem {l : List Ex} {x : Ex} (h : x ∈ l) : x.nodes ≤ nodesL l := by
  induction l with
  | nil => simp at h
  | cons y l ih =>
    rw [nodesL_cons]
    rcases List.mem_cons.1 h with e | h
    · rw [e]; omega
    · have := ih h; omega
theorem depth_mem {l : List Ex} {x : Ex} (h : x ∈ l) : x.depth ≤ depthL l := by
  induction l with
  | nil => simp at h
  | cons y l ih =>
    rw [depthL_cons]
    rcases List.mem_cons.1 h with e | h
    · rw [e]; omega
    · have := ih h; omega
theorem len_nodesL (l : List Ex) : l.length ≤ nodesL l := by
  induction l with
  | nil => simp
  | cons x l ih => rw [nodesL_cons, List.length_cons]; have := nodes_pos x; omega
theorem depth_le_nodes : ∀ x : Ex, x.depth ≤ x.nodes := by
  refine Ex.ind fun d l ih => ?_
  rw [depth_mk, nodes_mk]
  have : depthL l ≤ nodesL l := by
    clear d
    induction l with
    | nil => simp [depthL_nil]
    | cons x l ihl =>
      rw [depthL_cons, nodesL_cons]
      have h1 := ih x (by simp)
      have h2 := ihl fun y hy => ih y (by simp [hy])
      omega
  omega
theorem pre_len : ∀ x : Ex, x.pre.length = x.nodes := by
  refine Ex.ind fun d l ih => ?_
  rw [pre_mk, nodes_mk, List.length_cons]
  have : (preL l).length = nodesL l := by
    clear d
    induction l with
    | nil => simp [preL_nil, nodesL_nil]
    | cons x l ihl => rw [preL_cons, nodesL_cons, List.length_append, ih x (by simp), ihl fun y hy => ih y (by simp [hy])]
  omega
theorem preL_len (l : List Ex) : (preL l).length = nodesL l := by
  induction l with
  | nil => simp [preL_nil, nodesL_nil]
  | cons x l ihl => rw [preL_cons, nodesL_cons, List.length_append, pre_len, ihl]

/-! ### The error of a formula -/
def arity (op : Int) : Nat := if op = 1 ∨ op = 2 then 0 else if op = 3 ∨ op = 4 ∨ op = 18 then 1 else if op = 17 then 3 else 2
def nmB (l : List UInt8) : Bool := !l.isEmpty && decide (l.length ≤ 10) && nameB l && !keyB l
/-- It has the value that its operator asks for. -/
def vOk (d : Nd) : Bool := if d.op = 1 then knownB d.k d.n d.s.data.toList && !(decide (d.k = 1) && decide (d.n < 0)) else decide (d.k = 0) && decide (d.n = 0) && d.s.data.toList.isEmpty
/-- It has the name that its operator asks for. -/
def nmOk (d : Nd) : Bool := if d.op = 2 then nmB d.nm.data.toList else d.nm.data.toList.isEmpty
def nodeE (d : Nd) (m : Nat) : Int := if d.op < 1 ∨ 18 < d.op then 2 else if m = arity d.op ∧ vOk d = true ∧ nmOk d = true then 0 else 3
def firstE : List (Nd × Nat) → Int
  | [] => 0
  | (d, m) :: l => if nodeE d m = 0 then firstE l else nodeE d m
def Ex.checkE (x : Ex) : Int := if 60 < x.nodes then 1 else if 12 < x.depth then 4 else firstE x.pre
theorem firstE_cons (d : Nd) (m : Nat) (l : List (Nd × Nat)) : firstE ((d, m) :: l) = if nodeE d m = 0 then firstE l else nodeE d m := rfl
theorem firstE_append (l m : List (Nd × Nat)) : firstE (l ++ m) = if firstE l = 0 then firstE m else firstE l := by
  induction l with
  | nil => simp [firstE]
  | cons x l ih =>
    obtain ⟨d, j⟩ := x
    rw [List.cons_append, firstE_cons, firstE_cons, ih]
    by_cases h : nodeE d j = 0
    · rw [if_pos h, if_pos h]
    · rw [if_neg h, if_neg h, if_neg h]
theorem firstE_mk (d : Nd) (l : List Ex) : firstE (Ex.mk d l).pre = if nodeE d l.length = 0 then firstE (preL l) else nodeE d l.length := by rw [pre_mk, firstE_cons]
theorem firstE_zero (l : List (Nd × Nat)) : firstE l = 0 ↔ ∀ x ∈ l, nodeE x.1 x.2 = 0 := by
  induction l with
  | nil => simp [firstE]
  | cons x l ih =>
    obtain ⟨d, j⟩ := x
    rw [firstE_cons]
    by_cases h : nodeE d j = 0
    · rw [if_pos h, ih]; simp [h]
    · rw [if_neg h]; simp [h]
/-- Each node is right. -/
def Ex.okN (x : Ex) : Prop := firstE x.pre = 0
theorem okN_mk (d : Nd) (l : List Ex) : (Ex.mk d l).okN ↔ nodeE d l.length = 0 ∧ ∀ x ∈ l, x.okN := by
  unfold Ex.okN
  rw [firstE_mk]
  by_cases h : nodeE d l.length = 0
  · rw [if_pos h]
    simp only [h, true_and]
    induction l generalizing d with
    | nil => simp [preL_nil, firstE]
    | cons x l ih =>
      rw [preL_cons, firstE_append]
      by_cases hx : firstE x.pre = 0
      · rw [if_pos hx]
        have : firstE (preL l) = 0 ↔ ∀ y ∈ l, firstE y.pre = 0 := by
          clear ih h
          induction l with
          | nil => simp [preL_nil, firstE]
          | cons z l ihl =>
            rw [preL_cons, firstE_append]
            by_cases hz : firstE z.pre = 0
            · rw [if_pos hz, ihl]; simp [hz]
            · rw [if_neg hz]; simp [hz]
        rw [this]; simp [hx]
      · rw [if_neg hx]; simp [hx]
  · rw [if_neg h]; simp [h]
theorem checkE_ok {x : Ex} (h1 : x.nodes ≤ 60) (h2 : x.depth ≤ 12) : x.checkE = firstE x.pre := by
  unfold Ex.checkE; rw [if_neg (by omega), if_neg (by omega)]
theorem checkE_zero {x : Ex} (h : x.checkE = 0) : x.nodes ≤ 60 ∧ x.depth ≤ 12 ∧ x.okN := by
  unfold Ex.checkE at h
  by_cases h1 : 60 < x.nodes
  · rw [if_pos h1] at h; exact absurd h (by decide)
  · rw [if_neg h1] at h
    by_cases h2 : 12 < x.depth
    · rw [if_pos h2] at h; exact absurd h (by decide)
    · rw [if_neg h2] at h; exact ⟨by omega, by omega, h⟩
end Go.Proofs.YtehkebncdahmcaaGreatDoor.ExM
