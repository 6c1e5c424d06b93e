/- Plain mathematics of chapter 6: the type of a formula. No program is named here. Plain mathematics of chapter 5: the names of a formula, each once, rising; a formula in the place of a field. No program is named here. Plain mathematics of chapter 7: the value of a formula. No program is named here. Plain mathematics of chapter 7: what holds of the values of formulas. No program is named here. Plain mathematics of chapter 8: a formula made less. No program is named here. -/
import Derived.Test.YtonlkmkfcaadlaaBase
namespace Go.Proofs.Ytonlkmkfcaadlaa.TyM
open ExM

/-- The type of the first field with a name. -/
def fieldT : List (ByteArray × Int) → ByteArray → Int × Int
  | [], _ => (0, 5)
  | f :: l, s => if f.1 = s then (f.2, 0) else fieldT l s
/-- What an operator asks of its operands (0: the type of the last one), and its result. -/
def ruleReq (op : Int) : List Int :=
  if op = 3 then [1] else if op = 4 then [2] else if op = 18 then [3] else if op = 17 then [2, 0, 0] else if op = 10 then [3, 3]
  else if op = 15 ∨ op = 16 then [2, 2] else if 11 ≤ op ∧ op ≤ 14 then [0, 0] else [1, 1]
def ruleRes (op : Int) : Int := if op = 17 then 0 else if op = 10 then 3 else if op = 4 ∨ (11 ≤ op ∧ op ≤ 16) then 2 else 1
def settl (k last : Int) : Int := if k = 0 then last else k
def lastT (ts : List Int) : Int := ts.getD (ts.length - 1) 0
def fitsR (req ts : List Int) : Prop := ∀ i, i < req.length → ts.getD i 0 = settl (req.getD i 0) (lastT ts)
instance (req ts : List Int) : Decidable (fitsR req ts) := by unfold fitsR; exact inferInstance
def applyR (req : List Int) (res : Int) (ts : List Int) : Int × Int := if fitsR req ts then (settl res (lastT ts), 0) else (0, 9)
def errL : List (Int × Int) → Int
  | [] => 0
  | p :: r => if p.2 = 0 then errL r else p.2
def tyN (fs : List (ByteArray × Int)) (d : Nd) (ps : List (Int × Int)) : Int × Int :=
  if d.op = 1 then (d.k, 0) else if d.op = 2 then fieldT fs d.nm else if errL ps = 0 then applyR (ruleReq d.op) (ruleRes d.op) (ps.map (·.1)) else (0, errL ps)
mutual
def Ex.ty (fs : List (ByteArray × Int)) : Ex → Int × Int | .mk d l => tyN fs d (tyL fs l)
def tyL (fs : List (ByteArray × Int)) : List Ex → List (Int × Int) | [] => [] | x :: l => Ex.ty fs x :: tyL fs l
end
theorem ty_mk (fs : List (ByteArray × Int)) (d : Nd) (l : List Ex) : Ex.ty fs (.mk d l) = tyN fs d (tyL fs l) := by simp [Ex.ty]
theorem tyL_nil (fs : List (ByteArray × Int)) : tyL fs [] = [] := by simp [tyL]
theorem tyL_cons (fs : List (ByteArray × Int)) (x : Ex) (l : List Ex) : tyL fs (x :: l) = Ex.ty fs x :: tyL fs l := by simp [tyL]
theorem tyL_map (fs : List (ByteArray × Int)) (l : List Ex) : tyL fs l = l.map (Ex.ty fs) := by
  induction l with
  | nil => rw [tyL_nil]; rfl
  | cons x l ih => rw [tyL_cons, ih]; rfl
theorem tyL_len (fs : List (ByteArray × Int)) (l : List Ex) : (tyL fs l).length = l.length := by rw [tyL_map, List.length_map]
theorem errL_append (l m : List (Int × Int)) : errL (l ++ m) = if errL l = 0 then errL m else errL l := by
  induction l with
  | nil => simp [errL]
  | cons p l ih =>
    rw [List.cons_append, errL, errL, ih]
    by_cases h : p.2 = 0
    · rw [if_pos h, if_pos h]
    · rw [if_neg h, if_neg h, if_neg h]
theorem errL_one (p : Int × Int) : errL [p] = p.2 := by
  rw [errL]; split
  · rename_i h; rw [h]; rfl
  · rfl
theorem tyL_at (fs : List (ByteArray × Int)) (l : List Ex) (k : Nat) (h : k < l.length) : tyL fs (l.take (k + 1)) = tyL fs (l.take k) ++ [Ex.ty fs l[k]] := by
  rw [take_at l k h, tyL_map, tyL_map, List.map_append]; rfl
theorem errL_at (fs : List (ByteArray × Int)) (l : List Ex) (k : Nat) (h : k < l.length) (h0 : errL (tyL fs (l.take k)) = 0) : errL (tyL fs (l.take (k + 1))) = (Ex.ty fs l[k]).2 := by
  rw [tyL_at fs l k h, errL_append, if_pos h0, errL_one]
/-- An error on the way is the error of the whole. -/
theorem errL_stop (fs : List (ByteArray × Int)) (l : List Ex) (k : Nat) (h : k < l.length) (h0 : errL (tyL fs (l.take k)) = 0) (h1 : (Ex.ty fs l[k]).2 ≠ 0) : errL (tyL fs l) = (Ex.ty fs l[k]).2 := by
  have e : l = l.take (k + 1) ++ l.drop (k + 1) := (List.take_append_drop _ _).symm
  have e2 : tyL fs l = tyL fs (l.take (k + 1)) ++ tyL fs (l.drop (k + 1)) := by
    rw [tyL_map, tyL_map, tyL_map, ← List.map_append, List.take_append_drop]
  have e3 := errL_at fs l k h h0
  rw [e2, errL_append, if_neg (by rw [e3]; exact h1), e3]
/-- P6.1 whole. -/
def ofT (fs : List (ByteArray × Int)) (x : Ex) : Int × Int := if x.checkE = 0 then Ex.ty fs x else (0, x.checkE)
/-- P6.2. -/
def fitsT (fs : List (ByteArray × Int)) (x : Ex) (want : Int) : Int := if (ofT fs x).2 = 0 then (if (ofT fs x).1 = want then 0 else 9) else (ofT fs x).2
theorem fieldT_skip (fs : List (ByteArray × Int)) (s : ByteArray) (k : Nat) (h : ∀ j (hj : j < fs.length), j < k → fs[j].1 ≠ s) : fieldT fs s = fieldT (fs.drop k) s := by
  induction k generalizing fs with
  | zero => rw [List.drop_zero]
  | succ k ih =>
    match fs, h with
    | [], _ => rfl
    | f :: l, h =>
      rw [fieldT, if_neg (show ¬ f.1 = s from h 0 (by simp) (by omega)), List.drop_succ_cons]
      exact ih l fun j hj hjk => h (j + 1) (by simpa using hj) (by omega)
theorem fieldT_hit (fs : List (ByteArray × Int)) (s : ByteArray) (k : Nat) (hk : k < fs.length) (h : ∀ j (hj : j < fs.length), j < k → fs[j].1 ≠ s) (he : fs[k].1 = s) : fieldT fs s = (fs[k].2, 0) := by
  rw [fieldT_skip fs s k h, List.drop_eq_getElem_cons hk, fieldT, if_pos he]
theorem fieldT_none (fs : List (ByteArray × Int)) (s : ByteArray) (h : ∀ j (hj : j < fs.length), fs[j].1 ≠ s) : fieldT fs s = (0, 5) := by
  rw [fieldT_skip fs s fs.length (fun j hj _ => h j hj), List.drop_length]; rfl
theorem ruleReq_len {op : Int} (h1 : 3 ≤ op) (h2 : op ≤ 18) : (ruleReq op).length = arity op := by
  have : op = 3 ∨ op = 4 ∨ op = 5 ∨ op = 6 ∨ op = 7 ∨ op = 8 ∨ op = 9 ∨ op = 10 ∨ op = 11 ∨ op = 12 ∨ op = 13 ∨ op = 14 ∨ op = 15 ∨ op = 16 ∨ op = 17 ∨ op = 18 := by omega
  rcases this with h | h | h | h | h | h | h | h | h | h | h | h | h | h | h | h <;> subst h <;> rfl
theorem arity_pos {op : Int} (h1 : 3 ≤ op) : 1 ≤ arity op := by
  unfold arity
  rw [if_neg (by omega)]
  repeat' split
  all_goals omega
/-- An operator of a formula that is right. -/
theorem okN_op {d : Nd} {l : List Ex} (h : (Ex.mk d l).okN) : 1 ≤ d.op ∧ d.op ≤ 18 ∧ l.length = arity d.op := by
  have := ((okN_mk d l).1 h).1
  unfold nodeE at this
  by_cases h1 : d.op < 1 ∨ 18 < d.op
  · rw [if_pos h1] at this; exact absurd this (by decide)
  · rw [if_neg h1] at this
    by_cases h2 : l.length = arity d.op ∧ vOk d = true ∧ nmOk d = true
    · exact ⟨by omega, by omega, h2.1⟩
    · rw [if_neg h2] at this; exact absurd this (by decide)
end Go.Proofs.Ytonlkmkfcaadlaa.TyM
namespace Go.Proofs.Ytonlkmkfcaadlaa.NmM
open ExM

/-! ### The names of all references, in preorder -/
def refsN (l : List (Nd × Nat)) : List ByteArray := (l.filter fun y => decide (y.1.op = 2)).map fun y => y.1.nm
def Ex.refs (x : Ex) : List ByteArray := refsN x.pre
def refsL (l : List Ex) : List ByteArray := refsN (preL l)
theorem refsN_append (l m : List (Nd × Nat)) : refsN (l ++ m) = refsN l ++ refsN m := by unfold refsN; rw [List.filter_append, List.map_append]
theorem refsL_nil : refsL [] = [] := by unfold refsL; rw [preL_nil]; rfl
theorem refsL_cons (x : Ex) (l : List Ex) : refsL (x :: l) = Ex.refs x ++ refsL l := by unfold refsL Ex.refs; rw [preL_cons, refsN_append]
theorem refsL_append (l m : List Ex) : refsL (l ++ m) = refsL l ++ refsL m := by unfold refsL; rw [preL_append, refsN_append]
theorem refsL_at (l : List Ex) (i : Nat) (h : i < l.length) : refsL (l.take (i + 1)) = refsL (l.take i) ++ Ex.refs l[i] := by unfold refsL Ex.refs; rw [preL_at l i h, refsN_append]
theorem refs_mk_pos (d : Nd) (l : List Ex) (h : d.op = 2) : Ex.refs (.mk d l) = d.nm :: refsL l := by
  unfold Ex.refs refsL; rw [pre_mk]
  show refsN ((d, l.length) :: preL l) = _
  unfold refsN; rw [List.filter_cons_of_pos (by simp [h])]; rfl
theorem refs_mk_neg (d : Nd) (l : List Ex) (h : d.op ≠ 2) : Ex.refs (.mk d l) = refsL l := by
  unfold Ex.refs refsL; rw [pre_mk]
  show refsN ((d, l.length) :: preL l) = _
  unfold refsN; rw [List.filter_cons_of_neg (by simp [h])]
theorem refs_mk (d : Nd) (l : List Ex) : Ex.refs (.mk d l) = (if d.op = 2 then [d.nm] else []) ++ refsL l := by
  by_cases h : d.op = 2
  · rw [refs_mk_pos d l h, if_pos h]; rfl
  · rw [refs_mk_neg d l h, if_neg h]; rfl
theorem refsN_len (l : List (Nd × Nat)) : (refsN l).length ≤ l.length := by
  unfold refsN; rw [List.length_map]; exact List.length_filter_le _ _
theorem refs_len (x : Ex) : (Ex.refs x).length ≤ x.nodes := by
  have := refsN_len x.pre; rw [pre_len] at this; exact this
theorem refsL_len (l : List Ex) : (refsL l).length ≤ nodesL l := by
  have := refsN_len (preL l); rw [preL_len] at this; exact this
theorem refsL_take (l : List Ex) (i : Nat) : (refsL (l.take i)).length ≤ (refsL l).length := by
  have h := refsL_append (l.take i) (l.drop i)
  rw [List.take_append_drop] at h
  rw [h, List.length_append]; omega
theorem refs_prefix (l : List Ex) (k : Nat) (hk : k < l.length) {q : List ByteArray} (h : q <+: Ex.refs l[k]) : refsL (l.take k) ++ q <+: refsL l := by
  have e : refsL l = refsL (l.take (k + 1)) ++ refsL (l.drop (k + 1)) := by rw [← refsL_append, List.take_append_drop]
  rw [e, refsL_at l k hk]
  obtain ⟨r, hr⟩ := h
  exact ⟨r ++ refsL (l.drop (k + 1)), by rw [← hr]; simp [List.append_assoc]⟩

theorem mem_refsL {l : List Ex} {x : Ex} {n : ByteArray} (hx : x ∈ l) (hn : n ∈ Ex.refs x) : n ∈ refsL l := by
  induction l with
  | nil => simp at hx
  | cons y l ih =>
    rw [refsL_cons, List.mem_append]
    rcases List.mem_cons.1 hx with e | hx
    · subst e; exact .inl hn
    · exact .inr (ih hx)
theorem refsL_map {l : List Ex} {f : Ex → Ex} {g : ByteArray → List ByteArray} (h : ∀ x ∈ l, Ex.refs (f x) = (Ex.refs x).flatMap g) : refsL (l.map f) = (refsL l).flatMap g := by
  induction l with
  | nil => simp [refsL_nil]
  | cons x l ih => rw [List.map_cons, refsL_cons, refsL_cons, List.flatMap_append, h x (by simp), ih fun y hy => h y (by simp [hy])]

/-- Does a formula ask for a field? -/
def hasB (l : List ByteArray) (s : ByteArray) : Bool := l.any fun t => decide (t = s)
theorem hasB_nil (s : ByteArray) : hasB [] s = false := rfl
theorem hasB_append (l m : List ByteArray) (s : ByteArray) : hasB (l ++ m) s = (hasB l s || hasB m s) := by unfold hasB; rw [List.any_append]
theorem hasB_cons (t : ByteArray) (l : List ByteArray) (s : ByteArray) : hasB (t :: l) s = (decide (t = s) || hasB l s) := by unfold hasB; rw [List.any_cons]
theorem hasB_true (l : List ByteArray) (s : ByteArray) : hasB l s = true ↔ s ∈ l := by
  unfold hasB; rw [List.any_eq_true]
  constructor
  · rintro ⟨t, ht, e⟩; rw [decide_eq_true_eq] at e; subst e; exact ht
  · intro h; exact ⟨s, h, by simp⟩
theorem hasB_prefix {q l : List ByteArray} {s : ByteArray} (h : q <+: l) (hq : hasB q s = true) : hasB l s = true := by
  obtain ⟨r, rfl⟩ := h
  rw [hasB_append, hq]; rfl

/-! ### Each once, the least one first -/
abbrev Bs := List UInt8
/-- Where a text belongs: behind all that are not greater. -/
def place (s : Bs) : List Bs → List Bs
  | [] => [s]
  | t :: r => if s < t then s :: t :: r else t :: place s r
def ins (l : List Bs) (s : Bs) : List Bs := if s ∈ l then l else place s l
def rise (l : List Bs) : List Bs := l.foldl ins []
theorem rise_nil : rise [] = [] := rfl
theorem rise_snoc (l : List Bs) (s : Bs) : rise (l ++ [s]) = ins (rise l) s := by unfold rise; rw [List.foldl_append]; rfl
theorem mem_place (s : Bs) (l : List Bs) (x : Bs) : x ∈ place s l ↔ x = s ∨ x ∈ l := by
  induction l with
  | nil => simp [place]
  | cons t r ih =>
    unfold place
    by_cases h : s < t
    · rw [if_pos h]; simp
    · rw [if_neg h, List.mem_cons, ih, List.mem_cons]
      constructor
      · rintro (h | h | h) <;> simp [h]
      · rintro (h | h | h) <;> simp [h]
theorem mem_ins (l : List Bs) (s x : Bs) : x ∈ ins l s ↔ x = s ∨ x ∈ l := by
  unfold ins
  by_cases h : s ∈ l
  · rw [if_pos h]
    constructor
    · exact .inr
    · rintro (rfl | h2)
      · exact h
      · exact h2
  · rw [if_neg h, mem_place]
theorem lt_or {a b : Bs} (h : ¬ a < b) (hne : a ≠ b) : b < a := by
  have h1 : b ≤ a := List.not_lt.1 h
  by_cases g : b < a
  · exact g
  · exact absurd (List.le_antisymm (List.not_lt.1 g) h1) hne
theorem sorted_place (s : Bs) (l : List Bs) (hs : s ∉ l) (h : l.Pairwise (· < ·)) : (place s l).Pairwise (· < ·) := by
  induction l with
  | nil => simp [place]
  | cons t r ih =>
    obtain ⟨h1, h2⟩ := List.pairwise_cons.1 h
    have hne : s ≠ t := fun e => hs (by simp [e])
    unfold place
    by_cases hlt : s < t
    · rw [if_pos hlt]
      refine List.pairwise_cons.2 ⟨fun x hx => ?_, h⟩
      rcases List.mem_cons.1 hx with e | hx
      · rw [e]; exact hlt
      · exact List.lt_trans hlt (h1 x hx)
    · rw [if_neg hlt]
      refine List.pairwise_cons.2 ⟨fun x hx => ?_, ih (fun hx => hs (by simp [hx])) h2⟩
      rcases (mem_place s r x).1 hx with e | hx
      · rw [e]; exact lt_or hlt hne
      · exact h1 x hx
theorem sorted_ins (l : List Bs) (s : Bs) (h : l.Pairwise (· < ·)) : (ins l s).Pairwise (· < ·) := by
  unfold ins
  by_cases hs : s ∈ l
  · rw [if_pos hs]; exact h
  · rw [if_neg hs]; exact sorted_place s l hs h
theorem place_len (s : Bs) (l : List Bs) : (place s l).length = l.length + 1 := by
  induction l with
  | nil => rfl
  | cons t r ih =>
    unfold place
    by_cases h : s < t
    · rw [if_pos h]; simp
    · rw [if_neg h, List.length_cons, ih, List.length_cons]
theorem ins_len (l : List Bs) (s : Bs) : (ins l s).length ≤ l.length + 1 := by
  unfold ins
  by_cases hs : s ∈ l
  · rw [if_pos hs]; omega
  · rw [if_neg hs, place_len]; omega
theorem rise_all (l : List Bs) : (rise l).Pairwise (· < ·) ∧ (∀ x, x ∈ rise l ↔ x ∈ l) ∧ (rise l).length ≤ l.length := by
  suffices h : ∀ (l acc : List Bs), acc.Pairwise (· < ·) → (l.foldl ins acc).Pairwise (· < ·) ∧ (∀ x, x ∈ l.foldl ins acc ↔ x ∈ acc ∨ x ∈ l) ∧ (l.foldl ins acc).length ≤ acc.length + l.length by
    obtain ⟨h1, h2, h3⟩ := h l [] List.Pairwise.nil
    exact ⟨h1, fun x => by rw [rise, h2]; simp, by rw [rise]; simpa using h3⟩
  intro l
  induction l with
  | nil => intro acc h; simp [h]
  | cons s r ih =>
    intro acc h
    obtain ⟨h1, h2, h3⟩ := ih (ins acc s) (sorted_ins acc s h)
    refine ⟨h1, fun x => ?_, ?_⟩
    · rw [List.foldl_cons, h2, mem_ins]
      simp only [List.mem_cons]
      constructor
      · rintro ((h | h) | h) <;> simp [h]
      · rintro (h | h | h) <;> simp [h]
    · rw [List.foldl_cons, List.length_cons]; have := ins_len acc s; omega
theorem rise_sorted (l : List Bs) : (rise l).Pairwise (· < ·) := (rise_all l).1
theorem rise_mem (l : List Bs) (x : Bs) : x ∈ rise l ↔ x ∈ l := (rise_all l).2.1 x
theorem rise_len (l : List Bs) : (rise l).length ≤ l.length := (rise_all l).2.2
theorem rise_nodup (l : List Bs) : (rise l).Nodup := (rise_sorted l).imp fun h e => by subst e; exact List.lt_irrefl _ h
/-- A list that holds the same texts, each once, sorted, is it. -/
theorem rise_unique (l ss : List Bs) (hp : ss.Nodup) (hm : ∀ x, x ∈ ss ↔ x ∈ l) : ss.mergeSort (fun x y => decide (x ≤ y)) = rise l := by
  have h1 : ss.Perm (rise l) := (List.perm_ext_iff_of_nodup hp (rise_nodup l)).2 fun x => by rw [hm, rise_mem]
  have tr : ∀ a b c : Bs, (fun x y : Bs => decide (x ≤ y)) a b = true → (fun x y : Bs => decide (x ≤ y)) b c = true → (fun x y : Bs => decide (x ≤ y)) a c = true := fun a b c h1 h2 => by simp only [decide_eq_true_eq] at *; exact List.le_trans h1 h2
  have tot : ∀ a b : Bs, ((fun x y : Bs => decide (x ≤ y)) a b || (fun x y : Bs => decide (x ≤ y)) b a) = true := fun a b => by simp only [Bool.or_eq_true, decide_eq_true_eq]; exact List.le_total a b
  refine List.Perm.eq_of_pairwise (le := fun a b => a ≤ b) (fun a b _ _ h1 h2 => List.le_antisymm h1 h2) ((List.pairwise_mergeSort tr tot ss).imp fun h => by simpa using h) ((rise_sorted l).imp fun h => List.le_of_lt h) ((List.mergeSort_perm ss _).trans h1)

/-! ### A formula in the place of a field -/
mutual
def Ex.put (n : ByteArray) (y : Ex) : Ex → Ex | .mk d l => if d.op = 2 ∧ d.nm = n then y else .mk d (putL n y l)
def putL (n : ByteArray) (y : Ex) : List Ex → List Ex | [] => [] | x :: l => Ex.put n y x :: putL n y l
end
theorem putL_map (n : ByteArray) (y : Ex) : ∀ l : List Ex, putL n y l = l.map (Ex.put n y)
  | [] => by simp [putL]
  | x :: l => by rw [putL, putL_map n y l, List.map_cons]
theorem put_mk (n : ByteArray) (y : Ex) (d : Nd) (l : List Ex) : Ex.put n y (.mk d l) = if d.op = 2 ∧ d.nm = n then y else .mk d (l.map (Ex.put n y)) := by rw [Ex.put, putL_map]
theorem put_pos (n : ByteArray) (y : Ex) (d : Nd) (l : List Ex) (h : d.op = 2 ∧ d.nm = n) : Ex.put n y (.mk d l) = y := by rw [put_mk, if_pos h]
theorem put_neg (n : ByteArray) (y : Ex) (d : Nd) (l : List Ex) (h : ¬ (d.op = 2 ∧ d.nm = n)) : Ex.put n y (.mk d l) = .mk d (l.map (Ex.put n y)) := by rw [put_mk, if_neg h]
theorem nodesL_map_le {f : Ex → Ex} {c : Nat} {l : List Ex} (h : ∀ x ∈ l, (f x).nodes ≤ x.nodes * c) : nodesL (l.map f) ≤ nodesL l * c := by
  induction l with
  | nil => simp [nodesL_nil]
  | cons x l ih =>
    rw [List.map_cons, nodesL_cons, nodesL_cons, Nat.add_mul]
    have h1 := h x (by simp)
    have h2 := ih fun y hy => h y (by simp [hy])
    omega
theorem put_nodes (n : ByteArray) (y : Ex) : ∀ x : Ex, (Ex.put n y x).nodes ≤ x.nodes * y.nodes := by
  refine Ex.ind fun d l ih => ?_
  have hy := nodes_pos y
  by_cases h : d.op = 2 ∧ d.nm = n
  · rw [put_pos n y d l h, nodes_mk, Nat.add_mul, Nat.one_mul]; omega
  · rw [put_neg n y d l h, nodes_mk, nodes_mk, Nat.add_mul, Nat.one_mul]
    have := nodesL_map_le (f := Ex.put n y) (c := y.nodes) ih
    omega
theorem depthL_map_le {f : Ex → Ex} {c : Nat} {l : List Ex} (h : ∀ x ∈ l, (f x).depth ≤ x.depth + c) : depthL (l.map f) ≤ depthL l + c := by
  induction l with
  | nil => simp [depthL_nil]
  | cons x l ih =>
    rw [List.map_cons, depthL_cons, depthL_cons]
    have h1 := h x (by simp)
    have h2 := ih fun y hy => h y (by simp [hy])
    omega
/-- Where a formula does not ask for a field nothing is put. -/
theorem put_none (n : ByteArray) (y : Ex) : ∀ x : Ex, n ∉ Ex.refs x → Ex.put n y x = x := by
  refine Ex.ind fun d l ih => ?_
  intro h
  by_cases hd : d.op = 2
  · rw [refs_mk_pos d l hd] at h
    have hne : ¬ (d.op = 2 ∧ d.nm = n) := fun e => h (by rw [e.2]; simp)
    rw [put_neg n y d l hne]
    congr 1
    have hl : ∀ x ∈ l, n ∉ Ex.refs x := fun x hx hn => h (List.mem_cons_of_mem _ (mem_refsL hx hn))
    exact (List.map_congr_left fun x hx => ih x hx (hl x hx)).trans (List.map_id'' (fun _ => rfl) l)
  · rw [refs_mk_neg d l hd] at h
    rw [put_neg n y d l (fun e => hd e.1)]
    congr 1
    have hl : ∀ x ∈ l, n ∉ Ex.refs x := fun x hx hn => h (mem_refsL hx hn)
    exact (List.map_congr_left fun x hx => ih x hx (hl x hx)).trans (List.map_id'' (fun _ => rfl) l)
/-- What an operator is: a reference has no operands, no value. -/
theorem ref_node {d : Nd} {l : List Ex} (h : (Ex.mk d l).okN) (hd : d.op = 2) : l = [] ∧ d.k = 0 ∧ d.n = 0 ∧ d.s = ⟨#[]⟩ := by
  rw [okN_mk] at h
  have h1 := h.1
  unfold nodeE at h1
  rw [if_neg (by omega)] at h1
  by_cases hc : l.length = arity d.op ∧ vOk d = true ∧ nmOk d = true
  · obtain ⟨a1, a2, a3⟩ := hc
    have ha : arity d.op = 0 := by unfold arity; rw [if_pos (.inr hd)]
    rw [ha] at a1
    unfold vOk at a2
    rw [if_neg (by omega)] at a2
    simp only [Bool.and_eq_true, decide_eq_true_eq, List.isEmpty_iff] at a2
    refine ⟨List.eq_nil_of_length_eq_zero a1, a2.1.1, a2.1.2, ?_⟩
    have h3 := a2.2
    cases hs : d.s with | mk dat => rw [hs] at h3; cases dat; simp at h3; subst h3; rfl
  · rw [if_neg hc] at h1; exact absurd h1 (by decide)
/-- For itself a field changes nothing. -/
theorem put_self (n : ByteArray) : ∀ x : Ex, x.okN → Ex.put n (.mk ⟨2, 0, 0, ⟨#[]⟩, n⟩ []) x = x := by
  refine Ex.ind fun d l ih => ?_
  intro h
  by_cases hd : d.op = 2 ∧ d.nm = n
  · obtain ⟨h1, h2, h3, h4⟩ := ref_node h hd.1
    rw [put_pos _ _ _ _ hd]
    obtain ⟨op, k, m, s, nm⟩ := d
    simp only at hd h2 h3 h4
    obtain ⟨e1, e2⟩ := hd
    subst h1 h2 h3 h4 e1 e2; rfl
  · rw [put_neg _ _ _ _ hd]
    congr 1
    have h2 := ((okN_mk d l).1 h).2
    exact (List.map_congr_left fun x hx => ih x hx (h2 x hx)).trans (List.map_id'' (fun _ => rfl) l)
/-- The names of what is put together. -/
theorem put_refs (n : ByteArray) (y : Ex) : ∀ x : Ex, x.okN → Ex.refs (Ex.put n y x) = (Ex.refs x).flatMap fun s => if s = n then Ex.refs y else [s] := by
  refine Ex.ind fun d l ih => ?_
  intro h
  have h2 := ((okN_mk d l).1 h).2
  have hm := refsL_map (l := l) (f := Ex.put n y) (g := fun s => if s = n then Ex.refs y else [s]) fun x hx => ih x hx (h2 x hx)
  by_cases hd : d.op = 2
  · obtain ⟨h1, _⟩ := ref_node h hd
    subst h1
    rw [refs_mk_pos d [] hd, refsL_nil]
    by_cases hn : d.nm = n
    · rw [put_pos n y d [] ⟨hd, hn⟩]; simp [hn]
    · rw [put_neg n y d [] (fun e => hn e.2), List.map_nil, refs_mk_pos d [] hd, refsL_nil]; simp [hn]
  · rw [put_neg n y d l (fun e => hd e.1), refs_mk_neg d _ hd, refs_mk_neg d _ hd, hm]
/-- All nodes are right where they were. -/
theorem put_okN (n : ByteArray) (y : Ex) (hy : y.okN) : ∀ x : Ex, x.okN → (Ex.put n y x).okN := by
  refine Ex.ind fun d l ih => ?_
  intro h
  by_cases hd : d.op = 2 ∧ d.nm = n
  · rw [put_pos n y d l hd]; exact hy
  · rw [put_neg n y d l hd]
    rw [okN_mk] at h ⊢
    refine ⟨by rw [List.length_map]; exact h.1, fun x hx => ?_⟩
    obtain ⟨z, hz, rfl⟩ := List.mem_map.1 hx
    exact ih z hz (h.2 z hz)
theorem checkE_ok_cases {x : Ex} (h : x.okN) : x.checkE = 0 ∨ x.checkE = 1 ∨ x.checkE = 4 := by
  unfold Ex.checkE
  by_cases h1 : 60 < x.nodes
  · rw [if_pos h1]; exact .inr (.inl rfl)
  · rw [if_neg h1]
    by_cases h2 : 12 < x.depth
    · rw [if_pos h2]; exact .inr (.inr rfl)
    · rw [if_neg h2]; exact .inl h
/-- How a putting together ends: its error, in the order of the document. -/
def putE (n : ByteArray) (x y : Ex) (ne : Int) : Int := if x.checkE = 0 then (if y.checkE = 0 then (if ne = 0 then (Ex.put n y x).checkE else ne) else y.checkE) else x.checkE
/-- The field is not asked for any more, if what stands for it does not. -/
theorem put_gone (n : ByteArray) (y x : Ex) (hx : x.okN) (hy : n ∉ Ex.refs y) : hasB (Ex.refs (Ex.put n y x)) n = false := by
  rw [Bool.eq_false_iff]
  intro h
  rw [hasB_true, put_refs n y x hx, List.mem_flatMap] at h
  obtain ⟨s, hs, hm⟩ := h
  by_cases e : s = n
  · rw [if_pos e] at hm; exact hy hm
  · rw [if_neg e] at hm; simp at hm; exact e hm.symm
theorem put_other (n m : ByteArray) (y x : Ex) (hx : x.okN) (hn : n ∈ Ex.refs x) (hne : m ≠ n) : hasB (Ex.refs (Ex.put n y x)) m = (hasB (Ex.refs x) m || hasB (Ex.refs y) m) := by
  rw [Bool.eq_iff_iff, Bool.or_eq_true, hasB_true, hasB_true, hasB_true, put_refs n y x hx, List.mem_flatMap]
  constructor
  · rintro ⟨s, hs, hm⟩
    by_cases e : s = n
    · rw [if_pos e] at hm; exact .inr hm
    · rw [if_neg e] at hm; simp at hm; subst hm; exact .inl hs
  · rintro (h | h)
    · exact ⟨m, h, by rw [if_neg hne]; simp⟩
    · exact ⟨n, hn, by rw [if_pos rfl]; exact h⟩
end Go.Proofs.Ytonlkmkfcaadlaa.NmM
namespace Go.Proofs.Ytonlkmkfcaadlaa.EvM
open Go.Lib
open NumM ValM ExM NmM TyM StrM

abbrev e0 : ByteArray := ⟨#[]⟩
/-- A value. -/
structure Vl where
  k : Int
  n : Int
  s : ByteArray
theorem Vl.eta (v : Vl) : (⟨v.k, v.n, v.s⟩ : Vl) = v := rfl
/-- It is one that may be. -/
def Vl.ok (v : Vl) : Prop := valE v.k v.n v.s.data.toList = 0
def flt (e : Int) : Vl := ⟨5, e, e0⟩
def bitI (b : Bool) : Int := if b then 1 else 0
def tru (b : Bool) : Vl := ⟨2, bitI b, e0⟩
def zeroV : Vl := ⟨0, 0, e0⟩
theorem e0_list : e0.data.toList = [] := rfl
theorem e0_of {s : ByteArray} (h : s.data.toList = []) : s = e0 := by
  have : s.size = 0 := by rw [← len_size, h]; rfl
  exact ByteArray.size_eq_zero_iff.1 this

/-- What a value that may be looks like. -/
theorem ok_cases {v : Vl} (h : v.ok) : (v.k = 1 ∧ okN v.n = true ∧ v.s = e0) ∨ (v.k = 2 ∧ (v.n = 0 ∨ v.n = 1) ∧ v.s = e0) ∨ (v.k = 3 ∧ v.n = 0 ∧ v.s.size ≤ 40 ∧ cleanL v.s.data.toList = true) ∨ (v.k = 4 ∧ v.n = 0 ∧ v.s = e0) ∨ (v.k = 5 ∧ 1 ≤ v.n ∧ v.n ≤ 15 ∧ v.s = e0) := by
  unfold Vl.ok valE at h
  by_cases g : numE v.k v.n = 0
  · rw [if_pos g] at h
    have hs : v.k ≠ 3 → v.s = e0 := fun hk => by
      rw [strE_other hk] at h
      by_cases e : v.s.data.toList = []
      · exact e0_of e
      · rw [if_neg e] at h; omega
    unfold numE at g
    by_cases k1 : v.k = 1
    · rw [if_pos k1] at g
      by_cases g2 : okN v.n = true
      · exact .inl ⟨k1, g2, hs (by omega)⟩
      · rw [if_neg g2] at g; omega
    rw [if_neg k1] at g
    by_cases k2 : v.k = 2
    · rw [if_pos k2] at g
      by_cases g2 : 0 ≤ v.n ∧ v.n ≤ 1
      · exact .inr (.inl ⟨k2, by omega, hs (by omega)⟩)
      · rw [if_neg g2] at g; omega
    rw [if_neg k2] at g
    by_cases k3 : v.k = 3 ∨ v.k = 4
    · rw [if_pos k3] at g
      by_cases g2 : v.n = 0
      · rcases k3 with k3 | k3
        · rw [k3] at h
          unfold strE at h
          rw [if_pos rfl] at h
          by_cases h4 : 40 < v.s.data.toList.length
          · rw [if_pos h4] at h; omega
          · rw [if_neg h4] at h
            by_cases h5 : cleanL v.s.data.toList = true
            · exact .inr (.inr (.inl ⟨k3, g2, by rw [len_size] at h4; omega, h5⟩))
            · rw [if_neg h5] at h; omega
        · exact .inr (.inr (.inr (.inl ⟨k3, g2, hs (by omega)⟩)))
      · rw [if_neg g2] at g; omega
    rw [if_neg k3] at g
    by_cases k5 : v.k = 5
    · rw [if_pos k5] at g
      by_cases g2 : 1 ≤ v.n ∧ v.n ≤ 15
      · exact .inr (.inr (.inr (.inr ⟨k5, g2.1, g2.2, hs (by omega)⟩)))
      · rw [if_neg g2] at g; omega
    · rw [if_neg k5] at g; omega
  · rw [if_neg g] at h; omega
theorem ok_kind {v : Vl} (h : v.ok) : 1 ≤ v.k ∧ v.k ≤ 5 := by
  rcases ok_cases h with h | h | h | h | h <;> omega
theorem ok_int {n : Int} (h : okN n = true) : (⟨1, n, e0⟩ : Vl).ok := by
  unfold Vl.ok valE; rw [show numE 1 n = 0 by unfold numE; rw [if_pos rfl, if_pos h]]; rfl
theorem ok_flt {e : Int} (h1 : 1 ≤ e) (h2 : e ≤ 15) : (flt e).ok := by
  unfold Vl.ok valE flt; rw [show numE 5 e = 0 by unfold numE; rw [if_neg (by decide), if_neg (by decide), if_neg (by decide), if_pos rfl, if_pos ⟨h1, h2⟩]]; rfl
theorem ok_tru (b : Bool) : (tru b).ok := by cases b <;> rfl
theorem ok_text {s : ByteArray} (h1 : s.size ≤ 40) (h2 : cleanL s.data.toList = true) : (⟨3, 0, s⟩ : Vl).ok := by
  unfold Vl.ok valE; rw [show numE 3 0 = 0 by rfl]; exact strE_clean (by rw [len_size]; exact h1) h2
theorem ok_known {v : Vl} (h : v.ok) (h1 : v.k ≠ 4) (h2 : v.k ≠ 5) : knownB v.k v.n v.s.data.toList = true := by
  have hk := ok_kind h
  unfold knownB isT
  unfold Vl.ok at h
  rw [h]
  have : v.k = 1 ∨ v.k = 2 ∨ v.k = 3 := by omega
  rcases this with h | h | h <;> rw [h] <;> rfl

/-- The value of the first fact with a name. -/
def factV : List (ByteArray × Vl) → ByteArray → Vl
  | [], _ => flt 5
  | f :: l, s => if f.1 = s then f.2 else factV l s
theorem factV_skip (fs : List (ByteArray × Vl)) (s : ByteArray) (k : Nat) (h : ∀ j (hj : j < fs.length), j < k → fs[j].1 ≠ s) : factV fs s = factV (fs.drop k) s := by
  induction k generalizing fs with
  | zero => rw [List.drop_zero]
  | succ k ih =>
    match fs, h with
    | [], _ => rfl
    | f :: l, h =>
      rw [factV, if_neg (show ¬ f.1 = s from h 0 (by simp) (by omega)), List.drop_succ_cons]
      exact ih l fun j hj hjk => h (j + 1) (by simpa using hj) (by omega)
theorem factV_hit (fs : List (ByteArray × Vl)) (s : ByteArray) (k : Nat) (hk : k < fs.length) (h : ∀ j (hj : j < fs.length), j < k → fs[j].1 ≠ s) (he : fs[k].1 = s) : factV fs s = fs[k].2 := by
  rw [factV_skip fs s k h, List.drop_eq_getElem_cons hk, factV, if_pos he]
theorem factV_none (fs : List (ByteArray × Vl)) (s : ByteArray) (h : ∀ j (hj : j < fs.length), fs[j].1 ≠ s) : factV fs s = flt 5 := by
  rw [factV_skip fs s fs.length (fun j hj _ => h j hj), List.drop_length]; rfl
theorem factV_ok {fs : List (ByteArray × Vl)} (h : ∀ f ∈ fs, f.2.ok) (s : ByteArray) : (factV fs s).ok := by
  induction fs with
  | nil => exact ok_flt (by decide) (by decide)
  | cons f l ih =>
    rw [factV]
    by_cases e : f.1 = s
    · rw [if_pos e]; exact h f (by simp)
    · rw [if_neg e]; exact ih fun g hg => h g (by simp [hg])

/-! ### Operators -/
def condV (v : Vl) : Vl := if v.k = 1 ∨ v.k = 3 then flt 9 else v
/-- Number and error of an arithmetic operator. -/
def arN (op a b : Int) : Int × Int :=
  if op = 8 then (binV a b (a + b), binE a b (a + b)) else if op = 5 then (binV a b (a * b), binE a b (a * b)) else if op = 6 then (quoV a b (a.fdiv b), quoE a b (a.fdiv b))
  else if op = 7 then (quoV a b (a.fmod b), quoE a b (a.fmod b)) else (binV a b (a - b), binE a b (a - b))
def arR (op : Int) (a b : Vl) : Vl × Int := if a.k = 1 ∧ b.k = 1 then (if (arN op a.n b.n).2 = 0 then (⟨1, (arN op a.n b.n).1, e0⟩, 0) else (zeroV, (arN op a.n b.n).2)) else (zeroV, 9)
def notR (v : Vl) : Vl × Int := if v.k = 2 then (tru (decide (v.n = 0) && decide (v.s = e0)), 0) else (zeroV, 9)
def joinR (a b : Vl) : Vl × Int := if a.k = 3 ∧ b.k = 3 then (if 40 < a.s.size + b.s.size then (zeroV, 1) else (⟨3, 0, a.s ++ b.s⟩, 0)) else (zeroV, 9)
def lenR (v : Vl) : Vl × Int := if v.k = 3 then (⟨1, (v.s.size : Int), e0⟩, 0) else (zeroV, 9)
def ordVl (a b : Vl) : Int := if a.k = 3 then compareBytes a.s.data.toList b.s.data.toList else compareInt a.n b.n
def cmpB (op o : Int) : Bool := if op = 11 then decide (o < 0) else if op = 12 then decide (o ≤ 0) else if op = 13 then (o == 0) else (o != 0)
def cmpR (op : Int) (a b : Vl) : Vl × Int := if a.k = b.k then (tru (cmpB op (ordVl a b)), 0) else (zeroV, 9)
def compR (op : Int) (a b : Vl) : Vl × Int :=
  if op = 3 then arR 9 ⟨1, 0, e0⟩ b else if op = 4 then notR b else if op = 10 then joinR a b else if op = 18 then lenR b else if 5 ≤ op ∧ op ≤ 9 then arR op a b else cmpR op a b
def resV (r : Vl × Int) : Vl := if r.2 = 0 then r.1 else flt r.2
/-- The first value of a kind. -/
def firstK (k : Int) : List Vl → Option Vl
  | [] => none
  | v :: l => if v.k = k then some v else firstK k l
def opV (op : Int) (vs : List Vl) : Vl :=
  match firstK 5 vs with
  | some v => v
  | none => match firstK 4 vs with
    | some v => v
    | none => resV (compR op (vs.getD 0 zeroV) (vs.getD (vs.length - 1) zeroV))
def choV (vs : List Vl) : Vl := if (condV (vs.getD 0 zeroV)).k = 2 then (if (vs.getD 0 zeroV).n = 1 then vs.getD 1 zeroV else vs.getD 2 zeroV) else condV (vs.getD 0 zeroV)
def conV (b : Bool) (vs : List Vl) : Vl := if (vs.getD 0 zeroV).k = 2 ∧ (vs.getD 0 zeroV).n = bitI b then condV (vs.getD 1 zeroV) else condV (vs.getD 0 zeroV)
def evN (fs : List (ByteArray × Vl)) (d : Nd) (vs : List Vl) : Vl :=
  if d.op = 1 then ⟨d.k, d.n, d.s⟩ else if d.op = 2 then factV fs d.nm else if d.op = 17 then choV vs else if d.op = 15 then conV true vs else if d.op = 16 then conV false vs else opV d.op vs
mutual
def Ex.ev (fs : List (ByteArray × Vl)) : Ex → Vl | .mk d l => evN fs d (evL fs l)
def evL (fs : List (ByteArray × Vl)) : List Ex → List Vl | [] => [] | x :: l => Ex.ev fs x :: evL fs l
end
theorem ev_mk (fs : List (ByteArray × Vl)) (d : Nd) (l : List Ex) : Ex.ev fs (.mk d l) = evN fs d (evL fs l) := by simp [Ex.ev]
theorem evL_nil (fs : List (ByteArray × Vl)) : evL fs [] = [] := by simp [evL]
theorem evL_cons (fs : List (ByteArray × Vl)) (x : Ex) (l : List Ex) : evL fs (x :: l) = Ex.ev fs x :: evL fs l := by simp [evL]
theorem evL_map (fs : List (ByteArray × Vl)) (l : List Ex) : evL fs l = l.map (Ex.ev fs) := by
  induction l with
  | nil => rw [evL_nil]; rfl
  | cons x l ih => rw [evL_cons, ih]; rfl
theorem evL_len (fs : List (ByteArray × Vl)) (l : List Ex) : (evL fs l).length = l.length := by rw [evL_map, List.length_map]
theorem evL_at (fs : List (ByteArray × Vl)) (l : List Ex) (i : Nat) (h : i < l.length) : (evL fs l).getD i zeroV = Ex.ev fs l[i] := by
  rw [evL_map, List.getD_eq_getElem?_getD, List.getElem?_map, List.getElem?_eq_getElem h]; rfl
theorem evL_get (fs : List (ByteArray × Vl)) (l : List Ex) (i : Nat) (h : i < l.length) (g : i < (evL fs l).length) : (evL fs l)[i] = Ex.ev fs l[i] := by
  simp only [evL_map, List.getElem_map]

theorem firstK_some {k : Int} {l : List Vl} {v : Vl} (h : firstK k l = some v) : v ∈ l ∧ v.k = k := by
  induction l with
  | nil => cases h
  | cons x l ih =>
    rw [firstK] at h
    by_cases e : x.k = k
    · rw [if_pos e] at h; injection h with h; subst h; exact ⟨by simp, e⟩
    · rw [if_neg e] at h; obtain ⟨h1, h2⟩ := ih h; exact ⟨by simp [h1], h2⟩
theorem firstK_none {k : Int} {l : List Vl} : firstK k l = none ↔ ∀ v ∈ l, v.k ≠ k := by
  induction l with
  | nil => simp [firstK]
  | cons x l ih =>
    rw [firstK]
    by_cases e : x.k = k
    · rw [if_pos e]; simp [e]
    · rw [if_neg e, ih]; simp [e]
theorem firstK_skip (k : Int) (l : List Vl) (j : Nat) (h : ∀ i (hi : i < l.length), i < j → l[i].k ≠ k) : firstK k l = firstK k (l.drop j) := by
  induction j generalizing l with
  | zero => rw [List.drop_zero]
  | succ j ih =>
    match l, h with
    | [], _ => rfl
    | v :: l, h =>
      rw [firstK, if_neg (show ¬ v.k = k from h 0 (by simp) (by omega)), List.drop_succ_cons]
      exact ih l fun i hi hij => h (i + 1) (by simpa using hi) (by omega)
theorem firstK_hit (k : Int) (l : List Vl) (j : Nat) (hj : j < l.length) (h : ∀ i (hi : i < l.length), i < j → l[i].k ≠ k) (he : l[j].k = k) : firstK k l = some l[j] := by
  rw [firstK_skip k l j h, List.drop_eq_getElem_cons hj, firstK, if_pos he]

/-! ### The values that come are such that may be -/
theorem bin_ok (a b c : Int) : (binE a b c = 0 → okN (binV a b c) = true) ∧ (binE a b c = 0 ∨ binE a b c = 7) := by
  unfold binE binV
  by_cases h : okN a = true ∧ okN b = true ∧ okN c = true
  · rw [if_pos h, if_pos h]; exact ⟨fun _ => h.2.2, .inl rfl⟩
  · rw [if_neg h, if_neg h]; exact ⟨fun h => absurd h (by decide), .inr rfl⟩
theorem quo_ok (a b c : Int) : (quoE a b c = 0 → okN (quoV a b c) = true) ∧ (quoE a b c = 0 ∨ quoE a b c = 7 ∨ quoE a b c = 8) := by
  unfold quoE quoV
  by_cases h : okN a = true
  · rw [if_pos h]
    by_cases g : b = 0
    · rw [if_pos g, if_pos g]; exact ⟨fun h => absurd h (by decide), .inr (.inr rfl)⟩
    · rw [if_neg g, if_neg g]
      exact ⟨(bin_ok a b c).1, (bin_ok a b c).2.imp_right .inl⟩
  · rw [if_neg h]; exact ⟨fun h => absurd h (by decide), .inr (.inl rfl)⟩
theorem arN_ok (op a b : Int) : ((arN op a b).2 = 0 → okN (arN op a b).1 = true) ∧ ((arN op a b).2 = 0 ∨ (arN op a b).2 = 7 ∨ (arN op a b).2 = 8) := by
  unfold arN
  have hb := fun c => bin_ok a b c
  have hq := fun c => quo_ok a b c
  split
  · exact ⟨(hb _).1, (hb _).2.imp_right .inl⟩
  split
  · exact ⟨(hb _).1, (hb _).2.imp_right .inl⟩
  split
  · exact ⟨(hq _).1, (hq _).2⟩
  split
  · exact ⟨(hq _).1, (hq _).2⟩
  · exact ⟨(hb _).1, (hb _).2.imp_right .inl⟩
/-- A result: a value of a type, or one of four errors. -/
def Res (t : Int) (r : Vl × Int) : Prop := (r.2 = 0 ∧ r.1.ok ∧ r.1.k = t) ∨ r.2 = 1 ∨ r.2 = 7 ∨ r.2 = 8 ∨ r.2 = 9
theorem arR_res (op : Int) (a b : Vl) : Res 1 (arR op a b) ∧ (a.k = 1 → b.k = 1 → (arR op a b).2 ≠ 9) := by
  unfold arR
  obtain ⟨h1, h2⟩ := arN_ok op a.n b.n
  by_cases h : a.k = 1 ∧ b.k = 1
  · rw [if_pos h]
    by_cases g : (arN op a.n b.n).2 = 0
    · rw [if_pos g]; exact ⟨.inl ⟨rfl, ok_int (h1 g), rfl⟩, fun _ _ => (by decide : (0 : Int) ≠ 9)⟩
    · rw [if_neg g]
      exact ⟨by rcases h2 with h2 | h2 | h2
                · exact absurd h2 g
                · exact .inr (.inr (.inl h2))
                · exact .inr (.inr (.inr (.inl h2))), fun _ _ => by show (arN op a.n b.n).2 ≠ 9; omega⟩
  · rw [if_neg h]; exact ⟨.inr (.inr (.inr (.inr rfl))), fun h1 h2 => absurd ⟨h1, h2⟩ h⟩
theorem notR_res (v : Vl) : Res 2 (notR v) ∧ (v.k = 2 → (notR v).2 = 0) := by
  unfold notR
  by_cases h : v.k = 2
  · rw [if_pos h]; exact ⟨.inl ⟨rfl, ok_tru _, rfl⟩, fun _ => rfl⟩
  · rw [if_neg h]; exact ⟨.inr (.inr (.inr (.inr rfl))), fun g => absurd g h⟩
theorem cleanL_app (a b : List UInt8) : cleanL (a ++ b) = (cleanL a && cleanL b) := by unfold cleanL; rw [List.all_append]
theorem app_list (a b : ByteArray) : (a ++ b).data.toList = a.data.toList ++ b.data.toList := by
  rw [ByteArray.data_append, Array.toList_append]
theorem joinR_res {a b : Vl} (ha : a.ok) (hb : b.ok) : Res 3 (joinR a b) ∧ (a.k = 3 → b.k = 3 → (joinR a b).2 ≠ 9) := by
  unfold joinR
  by_cases h : a.k = 3 ∧ b.k = 3
  · rw [if_pos h]
    by_cases g : 40 < a.s.size + b.s.size
    · rw [if_pos g]; exact ⟨.inr (.inl rfl), fun _ _ => by decide⟩
    · rw [if_neg g]
      refine ⟨.inl ⟨rfl, ok_text ?_ ?_, rfl⟩, fun _ _ => (by decide : (0 : Int) ≠ 9)⟩
      · rw [ByteArray.size_append]; omega
      · have hA : cleanL a.s.data.toList = true := by
          rcases ok_cases ha with g | g | g | g | g
          · omega
          · omega
          · exact g.2.2.2
          · omega
          · omega
        have hB : cleanL b.s.data.toList = true := by
          rcases ok_cases hb with g | g | g | g | g
          · omega
          · omega
          · exact g.2.2.2
          · omega
          · omega
        rw [app_list, cleanL_app, hA, hB]; rfl
  · rw [if_neg h]; exact ⟨.inr (.inr (.inr (.inr rfl))), fun h1 h2 => absurd ⟨h1, h2⟩ h⟩
theorem lenR_res {v : Vl} (hv : v.ok) : Res 1 (lenR v) ∧ (v.k = 3 → (lenR v).2 = 0) := by
  unfold lenR
  by_cases h : v.k = 3
  · rw [if_pos h]
    refine ⟨.inl ⟨rfl, ok_int ?_, rfl⟩, fun _ => rfl⟩
    rcases ok_cases hv with g | g | g | g | g
    · omega
    · omega
    · exact okN_iff.2 (by omega)
    · omega
    · omega
  · rw [if_neg h]; exact ⟨.inr (.inr (.inr (.inr rfl))), fun g => absurd g h⟩
theorem cmpR_res (op : Int) (a b : Vl) : Res 2 (cmpR op a b) ∧ (a.k = b.k → (cmpR op a b).2 = 0) := by
  unfold cmpR
  by_cases h : a.k = b.k
  · rw [if_pos h]; exact ⟨.inl ⟨rfl, ok_tru _, rfl⟩, fun _ => rfl⟩
  · rw [if_neg h]; exact ⟨.inr (.inr (.inr (.inr rfl))), fun g => absurd g h⟩
theorem compR_ok (op : Int) {a b : Vl} (ha : a.ok) (hb : b.ok) : (resV (compR op a b)).ok := by
  have key : ∀ t r, Res t r → (resV r).ok := fun t r h => by
    unfold resV
    rcases h with ⟨h1, h2, _⟩ | h | h | h | h
    · rw [if_pos h1]; exact h2
    all_goals (rw [if_neg (by omega), h]; exact ok_flt (by decide) (by decide))
  unfold compR
  split
  · exact key _ _ (arR_res _ _ _).1
  split
  · exact key _ _ (notR_res _).1
  split
  · exact key _ _ (joinR_res ha hb).1
  split
  · exact key _ _ (lenR_res hb).1
  split
  · exact key _ _ (arR_res _ _ _).1
  · exact key _ _ (cmpR_res _ _ _).1
theorem cond_ok {v : Vl} (h : v.ok) : (condV v).ok := by
  unfold condV; split
  · exact ok_flt (by decide) (by decide)
  · exact h
theorem getD_ok {vs : List Vl} (h : ∀ v ∈ vs, v.ok) (i : Nat) (hi : i < vs.length) : (vs.getD i zeroV).ok := by
  rw [List.getD_eq_getElem?_getD, List.getElem?_eq_getElem hi]; exact h _ (List.getElem_mem hi)
theorem opV_ok (op : Int) {vs : List Vl} (h : ∀ v ∈ vs, v.ok) (h1 : 1 ≤ vs.length) : (opV op vs).ok := by
  unfold opV
  split
  · rename_i v hv; exact h v (firstK_some hv).1
  split
  · rename_i v hv; exact h v (firstK_some hv).1
  · exact compR_ok op (getD_ok h 0 (by omega)) (getD_ok h (vs.length - 1) (by omega))
theorem choV_ok {vs : List Vl} (h : ∀ v ∈ vs, v.ok) (h1 : vs.length = 3) : (choV vs).ok := by
  unfold choV
  split
  · split
    · exact getD_ok h 1 (by omega)
    · exact getD_ok h 2 (by omega)
  · exact cond_ok (getD_ok h 0 (by omega))
theorem conV_ok (b : Bool) {vs : List Vl} (h : ∀ v ∈ vs, v.ok) (h1 : vs.length = 2) : (conV b vs).ok := by
  unfold conV
  split
  · exact cond_ok (getD_ok h 1 (by omega))
  · exact cond_ok (getD_ok h 0 (by omega))
theorem arity_cases (op : Int) : (op = 17 → arity op = 3) ∧ (op = 15 ∨ op = 16 → arity op = 2) ∧ (op ≠ 1 → op ≠ 2 → 1 ≤ arity op ∧ arity op ≤ 3) ∧ (op ≠ 1 → op ≠ 2 → op ≠ 17 → arity op ≤ 2) ∧ ((op = 3 ∨ op = 4 ∨ op = 18) → arity op = 1) ∧ (5 ≤ op → op ≤ 14 → arity op = 2) := by
  unfold arity
  refine ⟨?_, ?_, ?_, ?_, ?_, ?_⟩ <;> intros <;> (repeat' split) <;> omega
theorem okN_const {d : Nd} {l : List Ex} (h : (Ex.mk d l).okN) (h1 : d.op = 1) : knownB d.k d.n d.s.data.toList = true := by
  have := ((okN_mk d l).1 h).1
  unfold nodeE at this
  rw [if_neg (by omega)] at this
  by_cases h2 : l.length = arity d.op ∧ vOk d = true ∧ nmOk d = true
  · have h3 := h2.2.1
    unfold vOk at h3
    rw [if_pos h1, Bool.and_eq_true] at h3
    exact h3.1
  · rw [if_neg h2] at this; exact absurd this (by decide)
theorem known_ok {k n : Int} {s : ByteArray} (h : knownB k n s.data.toList = true) : (⟨k, n, s⟩ : Vl).ok := by
  unfold knownB at h
  rw [Bool.and_eq_true, decide_eq_true_eq] at h
  exact h.2
theorem known_kind {k n : Int} {l : List UInt8} (h : knownB k n l = true) : k = 1 ∨ k = 2 ∨ k = 3 := by
  unfold knownB isT at h
  simp only [Bool.and_eq_true, Bool.or_eq_true, decide_eq_true_eq] at h
  omega
/-- What is evaluated is a value that may be. -/
theorem ev_ok {fs : List (ByteArray × Vl)} (hf : ∀ f ∈ fs, f.2.ok) : ∀ x : Ex, x.okN → (Ex.ev fs x).ok := by
  refine Ex.ind fun d l ih => ?_
  intro h
  obtain ⟨o1, o2, o3⟩ := okN_op h
  have hl := ((okN_mk d l).1 h).2
  have hv : ∀ v ∈ evL fs l, v.ok := fun v hv => by
    rw [evL_map] at hv
    obtain ⟨x, hx, rfl⟩ := List.mem_map.1 hv
    exact ih x hx (hl x hx)
  have hn := evL_len fs l
  obtain ⟨a1, a2, a3, _⟩ := arity_cases d.op
  rw [ev_mk]
  unfold evN
  split
  · rename_i g; exact known_ok (okN_const h g)
  split
  · exact factV_ok hf _
  split
  · exact choV_ok hv (by rw [hn, o3]; exact a1 (by assumption))
  split
  · exact conV_ok _ hv (by rw [hn, o3]; exact a2 (.inl (by assumption)))
  split
  · exact conV_ok _ hv (by rw [hn, o3]; exact a2 (.inr (by assumption)))
  · exact opV_ok _ hv (by rw [hn, o3]; exact (a3 (by assumption) (by assumption)).1)

/-- P7.1 whole. -/
def badF : List (ByteArray × Vl) → Int
  | [] => 0
  | f :: l => if valE f.2.k f.2.n f.2.s.data.toList = 0 then badF l else valE f.2.k f.2.n f.2.s.data.toList
def ofE (fs : List (ByteArray × Vl)) (x : Ex) : Int := if x.checkE = 0 then badF fs else x.checkE
def ofV (fs : List (ByteArray × Vl)) (x : Ex) : Vl := if ofE fs x = 0 then Ex.ev fs x else zeroV
theorem badF_zero (fs : List (ByteArray × Vl)) : badF fs = 0 ↔ ∀ f ∈ fs, f.2.ok := by
  induction fs with
  | nil => simp [badF]
  | cons f l ih =>
    rw [badF]
    by_cases h : valE f.2.k f.2.n f.2.s.data.toList = 0
    · rw [if_pos h, ih]; simp [Vl.ok, h]
    · rw [if_neg h]; simp [Vl.ok, h]
theorem badF_skip (fs : List (ByteArray × Vl)) (k : Nat) (h : ∀ j (hj : j < fs.length), j < k → fs[j].2.ok) : badF fs = badF (fs.drop k) := by
  induction k generalizing fs with
  | zero => rw [List.drop_zero]
  | succ k ih =>
    match fs, h with
    | [], _ => rfl
    | f :: l, h =>
      rw [badF, if_pos (show valE f.2.k f.2.n f.2.s.data.toList = 0 from h 0 (by simp) (by omega)), List.drop_succ_cons]
      exact ih l fun j hj hjk => h (j + 1) (by simpa using hj) (by omega)
theorem badF_hit (fs : List (ByteArray × Vl)) (k : Nat) (hk : k < fs.length) (h : ∀ j (hj : j < fs.length), j < k → fs[j].2.ok) (he : ¬ fs[k].2.ok) : badF fs = valE fs[k].2.k fs[k].2.n fs[k].2.s.data.toList := by
  rw [badF_skip fs k h, List.drop_eq_getElem_cons hk, badF, if_neg (show ¬ valE fs[k].2.k fs[k].2.n fs[k].2.s.data.toList = 0 from he)]
theorem ofE_ok {fs : List (ByteArray × Vl)} {x : Ex} (h1 : x.checkE = 0) (h2 : ∀ f ∈ fs, f.2.ok) : ofE fs x = 0 ∧ ofV fs x = Ex.ev fs x := by
  have : ofE fs x = 0 := by unfold ofE; rw [if_pos h1]; exact (badF_zero fs).2 h2
  exact ⟨this, by unfold ofV; rw [if_pos this]⟩
end Go.Proofs.Ytonlkmkfcaadlaa.EvM
namespace Go.Proofs.Ytonlkmkfcaadlaa.EvP
open Go.Lib
open NumM ValM ExM NmM TyM StrM EvM

theorem gd_len {α β : Type} {l : List α} {m : List β} (h : l.length = m.length) (i : Nat) : i < l.length ↔ i < m.length := by rw [h]

/-! ### A formula in the place of a field -/
theorem ev_put (gs : List (ByteArray × Vl)) (n : ByteArray) (y : Ex) : ∀ x : Ex, Ex.ev gs (Ex.put n y x) = Ex.ev ((n, Ex.ev gs y) :: gs) x := by
  refine Ex.ind fun d l ih => ?_
  rw [put_mk]
  by_cases h : d.op = 2 ∧ d.nm = n
  · rw [if_pos h, ev_mk]
    unfold evN
    rw [if_neg (by omega), if_pos h.1, factV, if_pos h.2.symm]
  · rw [if_neg h, ev_mk, ev_mk]
    have e : evL gs (l.map (Ex.put n y)) = evL ((n, Ex.ev gs y) :: gs) l := by
      rw [evL_map, evL_map, List.map_map]
      exact List.map_congr_left fun x hx => ih x hx
    rw [e]
    unfold evN
    by_cases h2 : d.op = 2
    · rw [if_neg (by omega), if_pos h2, if_neg (by omega), if_pos h2, factV, if_neg (fun g => h ⟨h2, g.symm⟩)]
    · simp only [if_neg h2]

/-! ### What is not asked for -/
theorem ev_local (fs gs : List (ByteArray × Vl)) : ∀ x : Ex, (∀ s ∈ Ex.refs x, factV fs s = factV gs s) → Ex.ev fs x = Ex.ev gs x := by
  refine Ex.ind fun d l ih => ?_
  intro h
  have e : evL fs l = evL gs l := by
    rw [evL_map, evL_map]
    refine List.map_congr_left fun x hx => ih x hx fun s hs => h s ?_
    rw [refs_mk, List.mem_append]
    exact .inr (mem_refsL hx hs)
  rw [ev_mk, ev_mk, e]
  unfold evN
  by_cases h1 : d.op = 1
  · rw [if_pos h1, if_pos h1]
  rw [if_neg h1, if_neg h1]
  by_cases h2 : d.op = 2
  · rw [if_pos h2, if_pos h2]
    exact h _ (by rw [refs_mk_pos d l h2]; simp)
  · rw [if_neg h2, if_neg h2]

/-! ### What is known stays so -/
/-- w is what is known by then, v what is known later. -/
def Gro (v w : Vl) : Prop := w.k = 4 ∨ v = w ∨ (v.k = 5 ∧ w.k = 5)
theorem gro_refl (v : Vl) : Gro v v := .inr (.inl rfl)
theorem gro_cond {v w : Vl} (h : Gro v w) : Gro (condV v) (condV w) := by
  rcases h with h | h | ⟨h1, h2⟩
  · left; unfold condV; rw [if_neg (by omega)]; exact h
  · right; left; rw [h]
  · right; right; unfold condV; rw [if_neg (by omega), if_neg (by omega)]; exact ⟨h1, h2⟩
/-- Pair by pair. -/
def GroL (l m : List Vl) : Prop := l.length = m.length ∧ ∀ i, i < l.length → Gro (l.getD i zeroV) (m.getD i zeroV)
theorem groL_cons {v w : Vl} {l m : List Vl} : GroL (v :: l) (w :: m) ↔ Gro v w ∧ GroL l m := by
  constructor
  · intro ⟨h1, h2⟩
    refine ⟨by simpa using h2 0 (by simp), by simpa using h1, fun i hi => ?_⟩
    have := h2 (i + 1) (by simpa using hi)
    simpa using this
  · intro ⟨h, h1, h2⟩
    refine ⟨by simp [h1], fun i hi => ?_⟩
    match i, hi with
    | 0, _ => simpa using h
    | i + 1, hi => simpa using h2 i (by simpa using hi)
theorem gro_fault {l m : List Vl} (h : GroL l m) {w : Vl} (hw : firstK 5 m = some w) : ∃ v, firstK 5 l = some v ∧ v.k = 5 := by
  induction m generalizing l with
  | nil => cases hw
  | cons y m ih =>
    match l, h with
    | [], h => exact absurd h.1 (by simp)
    | x :: l, h =>
      obtain ⟨g, h⟩ := groL_cons.1 h
      rw [firstK] at hw ⊢
      by_cases hx : x.k = 5
      · exact ⟨x, by rw [if_pos hx], hx⟩
      · rw [if_neg hx]
        by_cases hy : y.k = 5
        · rcases g with g | g | ⟨g, _⟩
          · omega
          · rw [g] at hx; exact absurd hy hx
          · exact absurd g hx
        · rw [if_neg hy] at hw
          exact ih h hw
theorem gro_same {l m : List Vl} (h : GroL l m) (h4 : firstK 4 m = none) (h5 : firstK 5 m = none) : l = m := by
  induction m generalizing l with
  | nil =>
    match l, h with
    | [], _ => rfl
    | x :: l, h => exact absurd h.1 (by simp)
  | cons y m ih =>
    match l, h with
    | [], h => exact absurd h.1 (by simp)
    | x :: l, h =>
      obtain ⟨g, h⟩ := groL_cons.1 h
      rw [firstK_none] at h4 h5
      have e : x = y := by
        rcases g with g | g | ⟨_, g⟩
        · exact absurd g (h4 y (by simp))
        · exact g
        · exact absurd g (h5 y (by simp))
      rw [e, ih h (firstK_none.2 fun v hv => h4 v (by simp [hv])) (firstK_none.2 fun v hv => h5 v (by simp [hv]))]
theorem gro_op (op : Int) {l m : List Vl} (h : GroL l m) : Gro (opV op l) (opV op m) := by
  rcases h5 : firstK 5 m with _ | w
  · rcases h4 : firstK 4 m with _ | w
    · rw [gro_same h h4 h5]; exact gro_refl _
    · left
      unfold opV
      rw [h5, h4]
      exact (firstK_some h4).2
  · right; right
    obtain ⟨v, hv, hk⟩ := gro_fault h h5
    unfold opV
    rw [h5, hv]
    exact ⟨hk, (firstK_some h5).2⟩
theorem gro_get {l m : List Vl} (h : GroL l m) (i : Nat) : Gro (l.getD i zeroV) (m.getD i zeroV) := by
  by_cases hi : i < l.length
  · exact h.2 i hi
  · have hm : ¬ i < m.length := by rw [← h.1]; exact hi
    rw [List.getD_eq_getElem?_getD, List.getD_eq_getElem?_getD, List.getElem?_eq_none (by omega), List.getElem?_eq_none (by omega)]
    exact gro_refl _
theorem cond_kind (v : Vl) : (condV v).k = 2 → v.k = 2 := by
  unfold condV; split
  · intro h; exact absurd h (by decide)
  · exact id
theorem gro_cho {l m : List Vl} (h : GroL l m) : Gro (choV l) (choV m) := by
  have g0 := gro_get h 0
  have gc := gro_cond g0
  unfold choV
  rcases gc with g | g | ⟨g1, g2⟩
  · left; rw [if_neg (by omega)]; exact g
  · by_cases hk : (condV (m.getD 0 zeroV)).k = 2
    · have hm := cond_kind _ hk
      have hl := cond_kind (l.getD 0 zeroV) (by rw [g]; exact hk)
      have e : l.getD 0 zeroV = m.getD 0 zeroV := by
        rcases g0 with g | g | ⟨_, g⟩
        · omega
        · exact g
        · omega
      rw [if_pos (by rw [g]; exact hk), if_pos hk, e]
      split
      · exact gro_get h 1
      · exact gro_get h 2
    · rw [if_neg (by rw [g]; exact hk), if_neg hk, g]; exact gro_refl _
  · right; right; rw [if_neg (by omega), if_neg (by omega)]; exact ⟨g1, g2⟩
theorem gro_con (b : Bool) {l m : List Vl} (h : GroL l m) : Gro (conV b l) (conV b m) := by
  have g0 := gro_get h 0
  unfold conV
  rcases g0 with g | g | ⟨g1, g2⟩
  · left; rw [if_neg (c := (m.getD 0 zeroV).k = 2 ∧ _) (by omega)]; unfold condV; rw [if_neg (by omega)]; exact g
  · rw [g]
    split
    · exact gro_cond (gro_get h 1)
    · exact gro_refl _
  · right; right; rw [if_neg (by omega), if_neg (by omega)]; unfold condV; rw [if_neg (by omega), if_neg (by omega)]; exact ⟨g1, g2⟩
theorem ev_gro {fs gs : List (ByteArray × Vl)} (h : ∀ s, Gro (factV fs s) (factV gs s)) : ∀ x : Ex, Gro (Ex.ev fs x) (Ex.ev gs x) := by
  refine Ex.ind fun d l ih => ?_
  have hl : GroL (evL fs l) (evL gs l) := ⟨by rw [evL_len, evL_len], fun i hi => by
    rw [evL_len] at hi
    rw [evL_at fs l i hi, evL_at gs l i hi]; exact ih _ (List.getElem_mem hi)⟩
  rw [ev_mk, ev_mk]
  unfold evN
  split
  · exact gro_refl _
  split
  · exact h _
  split
  · exact gro_cho hl
  split
  · exact gro_con true hl
  split
  · exact gro_con false hl
  · exact gro_op _ hl

/-! ### Types -/
/-- A value of a type, or one of three errors. -/
def Snd (t : Int) (v : Vl) : Prop := v.ok ∧ (v.k = t ∨ (v.k = 5 ∧ (v.n = 7 ∨ v.n = 8 ∨ v.n = 1)))
theorem snd_res {t : Int} {r : Vl × Int} (h : Res t r) (h9 : r.2 ≠ 9) : Snd t (resV r) := by
  unfold resV
  rcases h with ⟨h1, h2, h3⟩ | h | h | h | h
  · rw [if_pos h1]; exact ⟨h2, .inl h3⟩
  · rw [if_neg (by omega), h]; exact ⟨ok_flt (by decide) (by decide), .inr ⟨rfl, .inr (.inr rfl)⟩⟩
  · rw [if_neg (by omega), h]; exact ⟨ok_flt (by decide) (by decide), .inr ⟨rfl, .inl rfl⟩⟩
  · rw [if_neg (by omega), h]; exact ⟨ok_flt (by decide) (by decide), .inr ⟨rfl, .inr (.inl rfl)⟩⟩
  · exact absurd h h9
theorem snd_two {a b : Vl} {t u r op : Int} (ha : Snd t a) (hb : Snd u b) (ht : t ≤ 3) (hu : u ≤ 3) (hc : a.k = t → b.k = u → Snd r (resV (compR op a b))) : Snd r (opV op [a, b]) := by
  unfold opV
  rcases ha with ⟨oa, ha | ⟨ha, fa⟩⟩
  · rcases hb with ⟨ob, hb | ⟨hb, fb⟩⟩
    · rw [show firstK 5 [a, b] = none by rw [firstK, if_neg (by omega), firstK, if_neg (by omega)]; rfl, show firstK 4 [a, b] = none by rw [firstK, if_neg (by omega), firstK, if_neg (by omega)]; rfl]
      exact hc ha hb
    · rw [show firstK 5 [a, b] = some b by rw [firstK, if_neg (by omega), firstK, if_pos hb]]
      exact ⟨ob, .inr ⟨hb, fb⟩⟩
  · rw [show firstK 5 [a, b] = some a by rw [firstK, if_pos ha]]
    exact ⟨oa, .inr ⟨ha, fa⟩⟩
theorem snd_one {a : Vl} {t r op : Int} (ha : Snd t a) (ht : t ≤ 3) (hc : a.k = t → Snd r (resV (compR op a a))) : Snd r (opV op [a]) := by
  unfold opV
  rcases ha with ⟨oa, ha | ⟨ha, fa⟩⟩
  · rw [show firstK 5 [a] = none by rw [firstK, if_neg (by omega)]; rfl, show firstK 4 [a] = none by rw [firstK, if_neg (by omega)]; rfl]
    exact hc ha
  · rw [show firstK 5 [a] = some a by rw [firstK, if_pos ha]]
    exact ⟨oa, .inr ⟨ha, fa⟩⟩
theorem len1 {α : Type} {l : List α} (h : l.length = 1) : ∃ a, l = [a] := by
  match l, h with
  | [a], _ => exact ⟨a, rfl⟩
theorem len2 {α : Type} {l : List α} (h : l.length = 2) : ∃ a b, l = [a, b] := by
  match l, h with
  | [a, b], _ => exact ⟨a, b, rfl⟩
theorem len3 {α : Type} {l : List α} (h : l.length = 3) : ∃ a b c, l = [a, b, c] := by
  match l, h with
  | [a, b, c], _ => exact ⟨a, b, c, rfl⟩
theorem cond_snd {v : Vl} (h : Snd 2 v) : condV v = v := by
  unfold condV; rw [if_neg (by rcases h with ⟨_, h | h⟩ <;> omega)]
/-- The types of facts are those of fields. -/
def Typed (fs : List (ByteArray × Int)) (gs : List (ByteArray × Vl)) : Prop := ∀ s t, fieldT fs s = (t, 0) → Snd t (factV gs s)
theorem ty_types {d : Nd} {l : List Ex} {fs : List (ByteArray × Int)} {t : Int} (h : Ex.ty fs (.mk d l) = (t, 0)) (h1 : d.op ≠ 1) (h2 : d.op ≠ 2) : (∀ x ∈ l, (Ex.ty fs x).2 = 0) ∧ applyR (ruleReq d.op) (ruleRes d.op) ((tyL fs l).map (·.1)) = (t, 0) := by
  rw [ty_mk] at h
  unfold tyN at h
  rw [if_neg h1, if_neg h2] at h
  by_cases he : errL (tyL fs l) = 0
  · rw [if_pos he] at h
    refine ⟨?_, h⟩
    clear h
    induction l with
    | nil => intro x hx; exact absurd hx (by simp)
    | cons x l ih =>
      rw [tyL_cons, errL] at he
      by_cases g : (Ex.ty fs x).2 = 0
      · rw [if_pos g] at he
        intro y hy
        rcases List.mem_cons.1 hy with rfl | hy
        · exact g
        · exact ih he y hy
      · rw [if_neg g] at he; exact absurd he g
  · rw [if_neg he] at h; injection h with _ h; exact absurd h he
theorem app_fits {req : List Int} {res t : Int} {ts : List Int} (h : applyR req res ts = (t, 0)) : fitsR req ts ∧ settl res (lastT ts) = t := by
  unfold applyR at h
  by_cases g : fitsR req ts
  · rw [if_pos g] at h; injection h with h _; exact ⟨g, h⟩
  · rw [if_neg g] at h; injection h with _ h; exact absurd h (by decide)
theorem ty_le {fs : List (ByteArray × Int)} (hfs : ∀ s t, fieldT fs s = (t, 0) → 1 ≤ t ∧ t ≤ 3) : ∀ (x : Ex) (t : Int), x.okN → Ex.ty fs x = (t, 0) → 1 ≤ t ∧ t ≤ 3 := by
  refine Ex.ind fun d l ih => ?_
  intro t hok h
  obtain ⟨o1, o2, o3⟩ := okN_op hok
  have hokl := ((okN_mk d l).1 hok).2
  by_cases h1 : d.op = 1
  · have := known_kind (okN_const hok h1)
    rw [ty_mk] at h; unfold tyN at h; rw [if_pos h1] at h; injection h with h _; omega
  by_cases h2 : d.op = 2
  · rw [ty_mk] at h; unfold tyN at h; rw [if_neg h1, if_pos h2] at h; exact hfs _ _ h
  obtain ⟨g1, g2⟩ := ty_types h h1 h2
  obtain ⟨_, g4⟩ := app_fits g2
  have hpos := (arity_cases d.op).2.2.1 h1 h2
  have hlast : 1 ≤ lastT ((tyL fs l).map (·.1)) ∧ lastT ((tyL fs l).map (·.1)) ≤ 3 := by
    have hlt : l.length - 1 < l.length := by omega
    have e : lastT ((tyL fs l).map (·.1)) = (Ex.ty fs l[l.length - 1]).1 := by
      unfold lastT
      rw [List.length_map, tyL_len, tyL_map, List.map_map, List.getD_eq_getElem?_getD, List.getElem?_map, List.getElem?_eq_getElem hlt]; rfl
    rw [e]
    have hm := List.getElem_mem hlt
    exact ih _ hm _ (hokl _ hm) (Prod.ext rfl (g1 _ hm))
  unfold settl at g4
  by_cases hr : ruleRes d.op = 0
  · rw [if_pos hr] at g4; omega
  · rw [if_neg hr] at g4
    have : ruleRes d.op = 0 ∨ ruleRes d.op = 3 ∨ ruleRes d.op = 2 ∨ ruleRes d.op = 1 := by
      unfold ruleRes; repeat' split
      all_goals omega
    omega
set_option maxHeartbeats 1000000 in
/-- What has a type has a value of this type, or one of three errors. -/
theorem ev_snd {fs : List (ByteArray × Int)} {gs : List (ByteArray × Vl)} (hfs : ∀ s t, fieldT fs s = (t, 0) → 1 ≤ t ∧ t ≤ 3) (hg : Typed fs gs) : ∀ (x : Ex) (t : Int), x.okN → Ex.ty fs x = (t, 0) → Snd t (Ex.ev gs x) := by
  refine Ex.ind fun d l ih => ?_
  intro t hok h
  obtain ⟨o1, o2, o3⟩ := okN_op hok
  have hokl := ((okN_mk d l).1 hok).2
  have hle := ty_le hfs _ t hok h
  by_cases h1 : d.op = 1
  · have hk := okN_const hok h1
    rw [ty_mk] at h; unfold tyN at h; rw [if_pos h1] at h; injection h with h _
    rw [ev_mk]; unfold evN; rw [if_pos h1]
    exact ⟨known_ok hk, .inl h⟩
  by_cases h2 : d.op = 2
  · rw [ty_mk] at h; unfold tyN at h; rw [if_neg h1, if_pos h2] at h
    rw [ev_mk]; unfold evN; rw [if_neg h1, if_pos h2]
    exact hg _ _ h
  obtain ⟨g1, g2⟩ := ty_types h h1 h2
  obtain ⟨g3, g4⟩ := app_fits g2
  have each : ∀ x ∈ l, Snd (Ex.ty fs x).1 (Ex.ev gs x) ∧ 1 ≤ (Ex.ty fs x).1 ∧ (Ex.ty fs x).1 ≤ 3 := fun x hx =>
    ⟨ih x hx _ (hokl x hx) (Prod.ext rfl (g1 x hx)), ty_le hfs x _ (hokl x hx) (Prod.ext rfl (g1 x hx))⟩
  obtain ⟨a1, a2, a3, a4, a5, a6⟩ := arity_cases d.op
  rw [ev_mk]; unfold evN; rw [if_neg h1, if_neg h2]
  by_cases p17 : d.op = 17
  · obtain ⟨x, y, z, rfl⟩ := len3 (o3.trans (a1 p17))
    rw [if_pos p17]
    rw [p17] at g3 g4
    simp only [tyL_cons, tyL_nil, List.map_cons, List.map_nil] at g3 g4
    have q0 : (Ex.ty fs x).1 = 2 := by have := g3 0 (by decide); simpa [ruleReq, settl] using this
    have q1 : (Ex.ty fs y).1 = (Ex.ty fs z).1 := by have := g3 1 (by decide); simpa [ruleReq, settl, lastT] using this
    have q2 : (Ex.ty fs z).1 = t := by simpa [ruleRes, settl, lastT] using g4
    have ex := (each x (by simp)).1
    have ey := (each y (by simp)).1
    have ez := (each z (by simp)).1
    rw [q0] at ex
    rw [q1, q2] at ey
    rw [q2] at ez
    simp only [evL_cons, evL_nil]
    unfold choV
    simp only [List.getD_cons_zero, List.getD_cons_succ]
    rw [cond_snd ex]
    by_cases k2 : (Ex.ev gs x).k = 2
    · rw [if_pos k2]; split
      · exact ey
      · exact ez
    · rw [if_neg k2]
      rcases ex with ⟨o, e | e⟩
      · exact absurd e k2
      · exact ⟨o, .inr e⟩
  rw [if_neg p17]
  have conv : ∀ b, d.op = 15 ∨ d.op = 16 → Snd t (conV b (evL gs l)) := fun b p => by
    obtain ⟨x, y, rfl⟩ := len2 (o3.trans (a2 p))
    simp only [tyL_cons, tyL_nil, List.map_cons, List.map_nil] at g3 g4
    have hreq : ruleReq d.op = [2, 2] := by rcases p with p | p <;> rw [p] <;> rfl
    have hres : ruleRes d.op = 2 := by rcases p with p | p <;> rw [p] <;> rfl
    rw [hreq] at g3
    rw [hres] at g4
    have q0 : (Ex.ty fs x).1 = 2 := by have := g3 0 (by simp); simpa [settl] using this
    have q1 : (Ex.ty fs y).1 = 2 := by have := g3 1 (by simp); simpa [settl] using this
    have q2 : t = 2 := by simpa [settl] using g4.symm
    subst q2
    have ex := (each x (by simp)).1
    have ey := (each y (by simp)).1
    rw [q0] at ex
    rw [q1] at ey
    simp only [evL_cons, evL_nil]
    unfold conV
    simp only [List.getD_cons_zero, List.getD_cons_succ]
    rw [cond_snd ex, cond_snd ey]
    split
    · exact ey
    · exact ex
  by_cases p15 : d.op = 15
  · rw [if_pos p15]; exact conv true (.inl p15)
  rw [if_neg p15]
  by_cases p16 : d.op = 16
  · rw [if_pos p16]; exact conv false (.inr p16)
  rw [if_neg p16]
  by_cases pu : d.op = 3 ∨ d.op = 4 ∨ d.op = 18
  · obtain ⟨x, rfl⟩ := len1 (o3.trans (a5 pu))
    simp only [tyL_cons, tyL_nil, List.map_cons, List.map_nil] at g3 g4
    obtain ⟨ex, _, hx3⟩ := each x (by simp)
    simp only [evL_cons, evL_nil]
    refine snd_one ex hx3 fun hk => ?_
    unfold compR
    rcases pu with p | p | p
    · rw [p] at g3 g4
      have q0 : (Ex.ty fs x).1 = 1 := by have := g3 0 (by decide); simpa [ruleReq, settl] using this
      have q2 : t = 1 := by simpa [ruleRes, settl] using g4.symm
      subst q2
      rw [if_pos p]
      exact snd_res (arR_res _ _ _).1 ((arR_res _ _ _).2 rfl (by omega))
    · rw [p] at g3 g4
      have q0 : (Ex.ty fs x).1 = 2 := by have := g3 0 (by decide); simpa [ruleReq, settl] using this
      have q2 : t = 2 := by simpa [ruleRes, settl] using g4.symm
      subst q2
      rw [if_neg (by omega), if_pos p]
      exact snd_res (notR_res _).1 (by rw [(notR_res _).2 (by omega)]; decide)
    · rw [p] at g3 g4
      have q0 : (Ex.ty fs x).1 = 3 := by have := g3 0 (by decide); simpa [ruleReq, settl] using this
      have q2 : t = 1 := by simpa [ruleRes, settl] using g4.symm
      subst q2
      rw [if_neg (by omega), if_neg (by omega), if_neg (by omega), if_pos p]
      exact snd_res (lenR_res ex.1).1 (by rw [(lenR_res ex.1).2 (by omega)]; decide)
  · obtain ⟨x, y, rfl⟩ := len2 (o3.trans (a6 (by omega) (by omega)))
    simp only [tyL_cons, tyL_nil, List.map_cons, List.map_nil] at g3 g4
    obtain ⟨ex, _, hx3⟩ := each x (by simp)
    obtain ⟨ey, _, hy3⟩ := each y (by simp)
    simp only [evL_cons, evL_nil]
    refine snd_two ex ey hx3 hy3 fun hk hj => ?_
    unfold compR
    rw [if_neg (by omega), if_neg (by omega)]
    by_cases p10 : d.op = 10
    · rw [p10] at g3 g4
      have q0 : (Ex.ty fs x).1 = 3 := by have := g3 0 (by decide); simpa [ruleReq, settl] using this
      have q1 : (Ex.ty fs y).1 = 3 := by have := g3 1 (by decide); simpa [ruleReq, settl] using this
      have q2 : t = 3 := by simpa [ruleRes, settl] using g4.symm
      subst q2
      rw [if_pos p10]
      exact snd_res (joinR_res ex.1 ey.1).1 ((joinR_res ex.1 ey.1).2 (by omega) (by omega))
    rw [if_neg p10, if_neg (by omega)]
    by_cases p5 : 5 ≤ d.op ∧ d.op ≤ 9
    · have hreq : ruleReq d.op = [1, 1] := by
        have : d.op = 5 ∨ d.op = 6 ∨ d.op = 7 ∨ d.op = 8 ∨ d.op = 9 := by omega
        rcases this with p | p | p | p | p <;> rw [p] <;> rfl
      have hres : ruleRes d.op = 1 := by
        have : d.op = 5 ∨ d.op = 6 ∨ d.op = 7 ∨ d.op = 8 ∨ d.op = 9 := by omega
        rcases this with p | p | p | p | p <;> rw [p] <;> rfl
      rw [hreq] at g3
      rw [hres] at g4
      have q0 : (Ex.ty fs x).1 = 1 := by have := g3 0 (by simp); simpa [settl] using this
      have q1 : (Ex.ty fs y).1 = 1 := by have := g3 1 (by simp); simpa [settl] using this
      have q2 : t = 1 := by simpa [settl] using g4.symm
      subst q2
      rw [if_pos p5]
      exact snd_res (arR_res _ _ _).1 ((arR_res _ _ _).2 (by omega) (by omega))
    · rw [if_neg p5]
      have hreq : ruleReq d.op = [0, 0] := by
        have : d.op = 11 ∨ d.op = 12 ∨ d.op = 13 ∨ d.op = 14 := by omega
        rcases this with p | p | p | p <;> rw [p] <;> rfl
      have hres : ruleRes d.op = 2 := by
        have : d.op = 11 ∨ d.op = 12 ∨ d.op = 13 ∨ d.op = 14 := by omega
        rcases this with p | p | p | p <;> rw [p] <;> rfl
      rw [hreq] at g3
      rw [hres] at g4
      have q0 : (Ex.ty fs x).1 = (Ex.ty fs y).1 := by have := g3 0 (by simp); simpa [settl, lastT] using this
      have q2 : t = 2 := by simpa [settl] using g4.symm
      subst q2
      exact snd_res (cmpR_res _ _ _).1 (by rw [(cmpR_res _ _ _).2 (by omega)]; decide)
end Go.Proofs.Ytonlkmkfcaadlaa.EvP
namespace Go.Proofs.Ytonlkmkfcaadlaa.FoM
open Go.Lib
open NumM ValM ExM NmM TyM StrM EvM EvP

/-! ### What is known of a formula that asks for nothing -/
def knV (v : Vl) : Bool := knownB v.k v.n v.s.data.toList
def closedB (x : Ex) : Bool := (Ex.refs x).isEmpty
def conB (x : Ex) : Bool := closedB x && knV (Ex.ev [] x)
def conVl (x : Ex) : Vl := if closedB x = true then Ex.ev [] x else zeroV
theorem closed_nil {x : Ex} : closedB x = true ↔ Ex.refs x = [] := by unfold closedB; rw [List.isEmpty_iff]
theorem conB_iff {x : Ex} : conB x = true ↔ Ex.refs x = [] ∧ knV (Ex.ev [] x) = true := by unfold conB; rw [Bool.and_eq_true, closed_nil]

/-! ### The formula of a value -/
def constN (v : Vl) : Nd := ⟨1, v.k, v.n, v.s, e0⟩
def negN : Nd := ⟨3, 0, 0, e0, e0⟩
def litE (v : Vl) : Ex := if v.k = 1 ∧ v.n < 0 then .mk negN [.mk (constN ⟨v.k, -v.n, v.s⟩) []] else .mk (constN v) []
theorem litE_neg {v : Vl} (h : v.k = 1 ∧ v.n < 0) : litE v = .mk negN [.mk (constN ⟨v.k, -v.n, v.s⟩) []] := by unfold litE; rw [if_pos h]
theorem litE_pos {v : Vl} (h : ¬ (v.k = 1 ∧ v.n < 0)) : litE v = .mk (constN v) [] := by unfold litE; rw [if_neg h]

/-! ### Folding -/
def isBoolE (x : Ex) : Bool := decide (x.d.op = 1) && decide (x.d.k = 2)
def zeroE : Ex := .mk ⟨0, 0, 0, e0, e0⟩ []
def chosenE (l : List Ex) : Ex := if (l.getD 0 zeroE).d.n = 1 then l.getD 1 zeroE else l.getD 2 zeroE
def foN (c : Bool) (v : Vl) (d : Nd) (l : List Ex) : Ex := if c = true then litE v else if d.op = 17 ∧ isBoolE (l.getD 0 zeroE) = true then chosenE l else .mk d l
mutual
def Ex.fold : Ex → Ex | .mk d l => foN (conB (.mk d l)) (Ex.ev [] (.mk d l)) d (foldL l)
def foldL : List Ex → List Ex | [] => [] | x :: l => Ex.fold x :: foldL l
end
theorem foldL_map (l : List Ex) : foldL l = l.map Ex.fold := by
  induction l with
  | nil => simp [foldL]
  | cons x l ih => rw [foldL, ih]; rfl
theorem fold_mk (d : Nd) (l : List Ex) : Ex.fold (.mk d l) = foN (conB (.mk d l)) (Ex.ev [] (.mk d l)) d (l.map Ex.fold) := by rw [Ex.fold, foldL_map]
theorem fold_con {x : Ex} (h : conB x = true) : Ex.fold x = litE (Ex.ev [] x) := by
  cases x; rw [fold_mk]; unfold foN; rw [if_pos h]
theorem fold_if {d : Nd} {l : List Ex} (h : ¬ conB (.mk d l) = true) (h2 : d.op = 17 ∧ isBoolE ((l.map Ex.fold).getD 0 zeroE) = true) : Ex.fold (.mk d l) = chosenE (l.map Ex.fold) := by
  rw [fold_mk]; unfold foN; rw [if_neg h, if_pos h2]
theorem fold_node {d : Nd} {l : List Ex} (h : ¬ conB (.mk d l) = true) (h2 : ¬ (d.op = 17 ∧ isBoolE ((l.map Ex.fold).getD 0 zeroE) = true)) : Ex.fold (.mk d l) = .mk d (l.map Ex.fold) := by
  rw [fold_mk]; unfold foN; rw [if_neg h, if_neg h2]
/-- One of three. -/
theorem chosen_mem {l : List Ex} (h : l.length = 3) : chosenE (l.map Ex.fold) ∈ l.map Ex.fold := by
  obtain ⟨a, b, c, rfl⟩ := len3 h
  unfold chosenE
  split <;> simp

/-! ### A value that is known, as a formula -/
theorem known_cases {v : Vl} (h : knV v = true) : v.ok ∧ (v.k = 1 ∨ v.k = 2 ∨ v.k = 3) := ⟨known_ok h, known_kind h⟩
theorem known_neg {v : Vl} (h : knV v = true) (h2 : v.k = 1 ∧ v.n < 0) : knV ⟨v.k, -v.n, v.s⟩ = true ∧ okN v.n = true ∧ v.s = e0 := by
  obtain ⟨h3, _⟩ := known_cases h
  rcases ok_cases h3 with g | g | g | g | g
  · refine ⟨?_, g.2.1, g.2.2⟩
    have : okN (-v.n) = true := by
      have := g.2.1
      unfold okN at this ⊢
      simp only [decide_eq_true_eq] at this ⊢
      omega
    have h5 := ok_known (ok_int this) (show (1 : Int) ≠ 4 by decide) (show (1 : Int) ≠ 5 by decide)
    unfold knV
    rw [g.1, g.2.2]; exact h5
  all_goals omega
theorem const_okN {v : Vl} (h : knV v = true) (h2 : ¬ (v.k = 1 ∧ v.n < 0)) : (Ex.mk (constN v) []).okN := by
  rw [okN_mk]
  refine ⟨?_, fun x hx => absurd hx (by simp)⟩
  unfold nodeE constN
  rw [if_neg (show ¬ ((1 : Int) < 1 ∨ 18 < (1 : Int)) by decide), if_pos]
  refine ⟨rfl, ?_, rfl⟩
  unfold vOk
  rw [if_pos rfl, Bool.and_eq_true]
  refine ⟨h, ?_⟩
  rw [Bool.not_eq_true', Bool.and_eq_false_iff]
  simp only [decide_eq_false_iff_not]
  by_cases g : v.k = 1
  · exact .inr fun h3 => h2 ⟨g, h3⟩
  · exact .inl g
theorem lit_okN {v : Vl} (h : knV v = true) : (litE v).okN := by
  by_cases h2 : v.k = 1 ∧ v.n < 0
  · rw [litE_neg h2, okN_mk]
    refine ⟨rfl, fun x hx => ?_⟩
    simp at hx; subst hx
    exact const_okN (known_neg h h2).1 (fun g => by have := g.2; simp only at this; omega)
  · rw [litE_pos h2]; exact const_okN h h2
theorem ev_const (fs : List (ByteArray × Vl)) (v : Vl) (l : List Ex) : Ex.ev fs (.mk (constN v) l) = v := by
  rw [ev_mk]; unfold evN constN; rw [if_pos rfl]
theorem bin_neg {n : Int} (h : okN n = true) (h2 : n < 0) : arN 9 0 (-n) = (n, 0) := by
  unfold okN at h
  simp only [decide_eq_true_eq] at h
  have e : (0 : Int) - -n = n := by omega
  unfold arN
  rw [if_neg (by decide), if_neg (by decide), if_neg (by decide), if_neg (by decide), e]
  unfold binV binE okN
  simp only [decide_eq_true_eq]
  rw [if_pos (by omega), if_pos (by omega)]
theorem ev_lit (fs : List (ByteArray × Vl)) {v : Vl} (h : knV v = true) : Ex.ev fs (litE v) = v := by
  by_cases h2 : v.k = 1 ∧ v.n < 0
  · obtain ⟨_, g1, g2⟩ := known_neg h h2
    rw [litE_neg h2, ev_mk, evL_cons, evL_nil, ev_const]
    obtain ⟨k, n, s⟩ := v
    obtain ⟨rfl, h2⟩ := h2
    simp only at g1 g2 h2
    subst g2
    have e : evN fs negN [⟨1, -n, e0⟩] = opV 3 [⟨1, -n, e0⟩] := rfl
    have e2 : opV 3 [⟨1, -n, e0⟩] = resV (arR 9 ⟨1, 0, e0⟩ ⟨1, -n, e0⟩) := rfl
    rw [e, e2]
    unfold arR
    simp only [bin_neg g1 h2]
    rfl
  · rw [litE_pos h2, ev_const]
theorem lit_refs {v : Vl} : Ex.refs (litE v) = [] := by
  unfold litE
  split
  · rw [refs_mk_neg _ _ (by decide), refsL_cons, refsL_nil, refs_mk_neg _ _ (by show (1 : Int) ≠ 2; decide), refsL_nil]; rfl
  · rw [refs_mk_neg _ _ (by show (1 : Int) ≠ 2; decide), refsL_nil]
/-- A formula by itself is no number below nought. -/
theorem leaf_lit {d : Nd} {l : List Ex} (h : (Ex.mk d l).okN) (h1 : d.op = 1) : ¬ (d.k = 1 ∧ d.n < 0) := by
  have := ((okN_mk d l).1 h).1
  unfold nodeE at this
  rw [if_neg (by omega)] at this
  by_cases h2 : l.length = arity d.op ∧ vOk d = true ∧ nmOk d = true
  · have h3 := h2.2.1
    unfold vOk at h3
    rw [if_pos h1, Bool.and_eq_true, Bool.not_eq_true', Bool.and_eq_false_iff] at h3
    simp only [decide_eq_false_iff_not] at h3
    intro g
    rcases h3.2 with g2 | g2
    · exact g2 g.1
    · exact g2 g.2
  · rw [if_neg h2] at this; exact absurd this (by decide)
theorem lit_small {x : Ex} (h : x.okN) (hc : conB x = true) : (litE (Ex.ev [] x)).nodes ≤ x.nodes ∧ (litE (Ex.ev [] x)).depth ≤ x.depth := by
  obtain ⟨d, l⟩ := x
  obtain ⟨hr, hk⟩ := conB_iff.1 hc
  by_cases h2 : (Ex.ev [] (.mk d l)).k = 1 ∧ (Ex.ev [] (.mk d l)).n < 0
  · rw [litE_neg h2, nodes_mk, nodesL_cons, nodesL_nil, nodes_mk, nodesL_nil, depth_mk, depthL_cons, depthL_nil, depth_mk, depthL_nil, nodes_mk, depth_mk]
    cases l with
    | cons y l =>
      rw [nodesL_cons, depthL_cons]
      have h4 := nodes_pos y
      have h5 := depth_pos y
      constructor
      · omega
      · have : y.depth ≤ max y.depth (depthL l) := Nat.le_max_left _ _
        simp only [Nat.max_zero, Nat.zero_add]
        omega
    | nil =>
      exfalso
      obtain ⟨o1, o2, o3⟩ := okN_op h
      have h1 : d.op = 1 ∨ d.op = 2 := by
        by_cases g1 : d.op = 1
        · exact .inl g1
        by_cases g2 : d.op = 2
        · exact .inr g2
        have := ((arity_cases d.op).2.2.1 g1 g2).1
        rw [← o3] at this
        exact absurd this (by simp)
      rcases h1 with h1 | h1
      · have e : Ex.ev [] (.mk d []) = ⟨d.k, d.n, d.s⟩ := by rw [ev_mk]; unfold evN; rw [if_pos h1]
        rw [e] at h2
        exact leaf_lit h h1 h2
      · rw [refs_mk_pos d [] h1] at hr; exact absurd hr (by simp)
  · rw [litE_pos h2, nodes_mk, nodesL_nil, depth_mk, depthL_nil]
    exact ⟨nodes_pos _, depth_pos _⟩

/-! ### What folding keeps -/
theorem isBool_cond (fs : List (ByteArray × Vl)) {y : Ex} (h : isBoolE y = true) : Ex.ev fs y = ⟨2, y.d.n, y.d.s⟩ := by
  unfold isBoolE at h
  rw [Bool.and_eq_true, decide_eq_true_eq, decide_eq_true_eq] at h
  obtain ⟨d, l⟩ := y
  have h1 : d.op = 1 := h.1
  have h2 : d.k = 2 := h.2
  rw [ev_mk]; unfold evN; rw [if_pos h1, h2]; rfl
theorem ev_closed (fs : List (ByteArray × Vl)) {x : Ex} (h : Ex.refs x = []) : Ex.ev fs x = Ex.ev [] x := ev_local fs [] x fun s hs => by rw [h] at hs; simp at hs
theorem cho_bool {vs : List Vl} {n : Int} {s : ByteArray} (h : vs.getD 0 zeroV = ⟨2, n, s⟩) : choV vs = if n = 1 then vs.getD 1 zeroV else vs.getD 2 zeroV := by
  unfold choV
  rw [h]
  rw [if_pos (show (condV ⟨2, n, s⟩).k = 2 by unfold condV; rw [if_neg (show ¬ ((2 : Int) = 1 ∨ (2 : Int) = 3) by decide)])]
/-- What is less has the same value. -/
theorem fold_ev (fs : List (ByteArray × Vl)) : ∀ x : Ex, x.okN → Ex.ev fs (Ex.fold x) = Ex.ev fs x := by
  refine Ex.ind fun d l ih => ?_
  intro h
  obtain ⟨o1, o2, o3⟩ := okN_op h
  have hl := ((okN_mk d l).1 h).2
  by_cases hc : conB (.mk d l) = true
  · obtain ⟨hr, hk⟩ := conB_iff.1 hc
    rw [fold_con hc, ev_lit fs hk, ev_closed fs hr]
  · have eL : evL fs (l.map Ex.fold) = evL fs l := by
      rw [evL_map, evL_map, List.map_map]
      exact List.map_congr_left fun x hx => ih x hx (hl x hx)
    by_cases h2 : d.op = 17 ∧ isBoolE ((l.map Ex.fold).getD 0 zeroE) = true
    · rw [fold_if hc h2, ev_mk]
      have h3 : l.length = 3 := by rw [o3]; exact (arity_cases d.op).1 h2.1
      have e : evN fs d (evL fs l) = choV (evL fs l) := by
        unfold evN; rw [if_neg (by omega), if_neg (by omega), if_pos h2.1]
      rw [e, ← eL]
      obtain ⟨a, b, c, rfl⟩ := len3 h3
      have hb := isBool_cond fs h2.2
      have e0 : (evL fs ([a, b, c].map Ex.fold)).getD 0 zeroV = Ex.ev fs (([a, b, c].map Ex.fold).getD 0 zeroE) := by simp [evL_map]
      rw [cho_bool (e0.trans hb)]
      unfold chosenE
      by_cases h4 : (([a, b, c].map Ex.fold).getD 0 zeroE).d.n = 1
      · rw [if_pos h4, if_pos h4]; simp [evL_map]
      · rw [if_neg h4, if_neg h4]; simp [evL_map]
    · rw [fold_node hc h2, ev_mk, ev_mk, eL]
/-- It is right, no greater, and asks for nothing new. -/
theorem fold_less : ∀ x : Ex, x.okN → (Ex.fold x).okN ∧ (Ex.fold x).nodes ≤ x.nodes ∧ (Ex.fold x).depth ≤ x.depth ∧ ∀ s ∈ Ex.refs (Ex.fold x), s ∈ Ex.refs x := by
  refine Ex.ind fun d l ih => ?_
  intro h
  obtain ⟨o1, o2, o3⟩ := okN_op h
  obtain ⟨hn, hl⟩ := (okN_mk d l).1 h
  by_cases hc : conB (.mk d l) = true
  · obtain ⟨hr, hk⟩ := conB_iff.1 hc
    have := lit_small h hc
    rw [fold_con hc]
    exact ⟨lit_okN hk, this.1, this.2, fun s hs => by rw [lit_refs] at hs; simp at hs⟩
  · have key : ∀ m : List Ex, (∀ x ∈ m, x ∈ l) → nodesL (m.map Ex.fold) ≤ nodesL m ∧ depthL (m.map Ex.fold) ≤ depthL m ∧ ∀ s ∈ refsL (m.map Ex.fold), s ∈ refsL m := by
      intro m
      induction m with
      | nil => intro _; exact ⟨Nat.le_refl _, Nat.le_refl _, fun s hs => hs⟩
      | cons x m ihm =>
        intro hm
        obtain ⟨i1, i2, i3⟩ := ihm fun y hy => hm y (by simp [hy])
        obtain ⟨_, j1, j2, j3⟩ := ih x (hm x (by simp)) (hl x (hm x (by simp)))
        rw [List.map_cons, nodesL_cons, nodesL_cons, depthL_cons, depthL_cons, refsL_cons, refsL_cons]
        refine ⟨by omega, by omega, fun s hs => ?_⟩
        rw [List.mem_append] at hs ⊢
        rcases hs with hs | hs
        · exact .inl (j3 s hs)
        · exact .inr (i3 s hs)
    obtain ⟨k1, k2, k3⟩ := key l fun _ hx => hx
    by_cases h2 : d.op = 17 ∧ isBoolE ((l.map Ex.fold).getD 0 zeroE) = true
    · have h3 : l.length = 3 := by rw [o3]; exact (arity_cases d.op).1 h2.1
      rw [fold_if hc h2]
      have hm := chosen_mem h3
      generalize chosenE (l.map Ex.fold) = y at hm
      obtain ⟨x, hx, rfl⟩ := List.mem_map.1 hm
      obtain ⟨j0, j1, j2, j3⟩ := ih x hx (hl x hx)
      have g1 := nodes_mem hx
      have g2 := depth_mem hx
      rw [nodes_mk, depth_mk]
      refine ⟨j0, by omega, by omega, fun s hs => ?_⟩
      rw [refs_mk, List.mem_append]
      exact .inr (mem_refsL hx (j3 s hs))
    · rw [fold_node hc h2, nodes_mk, nodes_mk, depth_mk, depth_mk]
      refine ⟨?_, by omega, by omega, fun s hs => ?_⟩
      · rw [okN_mk]
        refine ⟨by rw [List.length_map]; exact hn, fun y hy => ?_⟩
        obtain ⟨x, hx, rfl⟩ := List.mem_map.1 hy
        exact (ih x hx (hl x hx)).1
      · rw [refs_mk, List.mem_append] at hs ⊢
        rcases hs with hs | hs
        · exact .inl hs
        · exact .inr (k3 s hs)
theorem fold_check {x : Ex} (h : x.checkE = 0) : (Ex.fold x).checkE = 0 := by
  obtain ⟨h1, h2, h3⟩ := checkE_zero h
  obtain ⟨g0, g1, g2, _⟩ := fold_less x h3
  rw [checkE_ok (by omega) (by omega)]; exact g0

/-! ### Nothing is waited for without facts -/
theorem cond_four {v : Vl} (h : v.k ≠ 4) : (condV v).k ≠ 4 := by
  unfold condV; split
  · exact (by decide : (5 : Int) ≠ 4)
  · exact h
theorem res_four {t : Int} {r : Vl × Int} (h : Res t r) (ht : t ≠ 4) : (resV r).k ≠ 4 := by
  unfold resV
  rcases h with ⟨h1, _, h3⟩ | h1 | h1 | h1 | h1
  · rw [if_pos h1, h3]; exact ht
  all_goals (rw [if_neg (by omega)]; exact (by decide : (5 : Int) ≠ 4))
theorem comp_four (op : Int) {a b : Vl} (ha : a.ok) (hb : b.ok) : (resV (compR op a b)).k ≠ 4 := by
  unfold compR
  split
  · exact res_four (arR_res _ _ _).1 (by decide)
  split
  · exact res_four (notR_res _).1 (by decide)
  split
  · exact res_four (joinR_res ha hb).1 (by decide)
  split
  · exact res_four (lenR_res hb).1 (by decide)
  split
  · exact res_four (arR_res _ _ _).1 (by decide)
  · exact res_four (cmpR_res _ _ _).1 (by decide)
theorem ev_four : ∀ x : Ex, x.okN → (Ex.ev [] x).k ≠ 4 := by
  refine Ex.ind fun d l ih => ?_
  intro h
  obtain ⟨o1, o2, o3⟩ := okN_op h
  have hl := ((okN_mk d l).1 h).2
  have hz : ∀ f ∈ ([] : List (ByteArray × Vl)), f.2.ok := fun f hf => by simp at hf
  have hv : ∀ v ∈ evL [] l, v.k ≠ 4 := fun v hv => by
    rw [evL_map] at hv
    obtain ⟨x, hx, rfl⟩ := List.mem_map.1 hv
    exact ih x hx (hl x hx)
  have hok : ∀ v ∈ evL [] l, v.ok := fun v hv => by
    rw [evL_map] at hv
    obtain ⟨x, hx, rfl⟩ := List.mem_map.1 hv
    exact ev_ok hz x (hl x hx)
  have hn := evL_len [] l
  obtain ⟨a1, a2, a3, _⟩ := arity_cases d.op
  have hg : ∀ i, ((evL [] l).getD i zeroV).k ≠ 4 := fun i => by
    by_cases hi : i < (evL [] l).length
    · rw [List.getD_eq_getElem?_getD, List.getElem?_eq_getElem hi]; exact hv _ (List.getElem_mem hi)
    · rw [List.getD_eq_getElem?_getD, List.getElem?_eq_none (by omega)]; exact (by decide : (0 : Int) ≠ 4)
  rw [ev_mk]
  unfold evN
  split
  · rename_i g
    have := known_kind (okN_const h g)
    show d.k ≠ 4
    omega
  split
  · exact (by decide : (5 : Int) ≠ 4)
  split
  · unfold choV
    split
    · split
      · exact hg 1
      · exact hg 2
    · exact cond_four (hg 0)
  split
  · unfold conV
    split
    · exact cond_four (hg 1)
    · exact cond_four (hg 0)
  split
  · unfold conV
    split
    · exact cond_four (hg 1)
    · exact cond_four (hg 0)
  · have h1 : 1 ≤ (evL [] l).length := by rw [hn, o3]; exact (a3 (by assumption) (by assumption)).1
    unfold opV
    cases e5 : firstK 5 (evL [] l) with
    | some v => exact hv v (firstK_some e5).1
    | none =>
      cases e4 : firstK 4 (evL [] l) with
      | some v => exact hv v (firstK_some e4).1
      | none => exact comp_four _ (getD_ok hok 0 (by omega)) (getD_ok hok _ (by omega))
/-- What asks for nothing and can't be known stays no number, bool or text. -/
theorem fold_fault {x : Ex} (h : x.okN) (hf : (Ex.ev [] x).k = 5) : (Ex.fold x).d.op ≠ 1 := fun h1 => by
  have e := fold_ev [] x h
  have hk := (fold_less x h).1
  generalize hy : Ex.fold x = y at h1 e hk
  obtain ⟨d, l⟩ := y
  have h2 : d.op = 1 := h1
  have := known_kind (okN_const hk h2)
  rw [ev_mk] at e
  unfold evN at e
  rw [if_pos h2] at e
  rw [← e] at hf
  have hf2 : d.k = 5 := hf
  omega
/-- What asks for nothing and is known. -/
theorem fold_known {x : Ex} (h : x.okN) (hr : Ex.refs x = []) (hf : (Ex.ev [] x).k ≠ 5) : Ex.fold x = litE (Ex.ev [] x) := by
  have hz : ∀ f ∈ ([] : List (ByteArray × Vl)), f.2.ok := fun f hf => by simp at hf
  exact fold_con (conB_iff.2 ⟨hr, ok_known (ev_ok hz x h) (ev_four x h) hf⟩)
end Go.Proofs.Ytonlkmkfcaadlaa.FoM
