/- Plain mathematics of chapter 5: the names of a formula, each once, rising; a formula in the place of a field. No program is named here. -/
import Derived.Test.YtehkebncdahmcaaGreatDoorExMath
namespace Go.Proofs.YtehkebncdahmcaaGreatDoor.NmM
open ExM

/-! ### The names of all references, in preorder -/
def refsN (l : List (Nd × Nat)) : List ByteArray := (l.filter fun y => decide (y.1.op = 2)).map fun y => y.1.nm
def Ex.refs (x : Ex) : List ByteArray := refsN x.pre
def refsL (l : List Ex) : List ByteArray := refsN (preL l)
theorem refsN_append (l m : List (Nd × Nat)) : refsN (l ++ m) = refsN l ++ refsN m := by unfold refsN; rw [List.filter_append, List.map_append]
theorem refsL_nil : refsL [] = [] := by unfold refsL; rw [preL_nil]; rfl
theorem refsL_cons (x : Ex) (l : List Ex) : refsL (x :: l) = Ex.refs x ++ refsL l := by unfold refsL Ex.refs; rw [preL_cons, refsN_append]
theorem refsL_append (l m : List Ex) : refsL (l ++ m) = refsL l ++ refsL m := by unfold refsL; rw [preL_append, refsN_append]
theorem refsL_at (l : List Ex) (i : Nat) (h : i < l.length) : refsL (l.take (i + 1)) = refsL (l.take i) ++ Ex.refs l[i] := by unfold refsL Ex.refs; rw [preL_at l i h, refsN_append]
theorem refs_mk_pos (d : Nd) (l : List Ex) (h : d.op = 2) : Ex.refs (.mk d l) = d.nm :: refsL l := by
  unfold Ex.refs refsL; rw [pre_mk]
  show refsN ((d, l.length) :: preL l) = _
  unfold refsN; rw [List.filter_cons_of_pos (by simp [h])]; rfl
theorem refs_mk_neg (d : Nd) (l : List Ex) (h : d.op ≠ 2) : Ex.refs (.mk d l) = refsL l := by
  unfold Ex.refs refsL; rw [pre_mk]
  show refsN ((d, l.length) :: preL l) = _
  unfold refsN; rw [List.filter_cons_of_neg (by simp [h])]
theorem refs_mk (d : Nd) (l : List Ex) : Ex.refs (.mk d l) = (if d.op = 2 then [d.nm] else []) ++ refsL l := by
  by_cases h : d.op = 2
  · rw [refs_mk_pos d l h, if_pos h]; rfl
  · rw [refs_mk_neg d l h, if_neg h]; rfl
theorem refsN_len (l : List (Nd × Nat)) : (refsN l).length ≤ l.length := by
  unfold refsN; rw [List.length_map]; exact List.length_filter_le _ _
theorem refs_len (x : Ex) : (Ex.refs x).length ≤ x.nodes := by
  have := refsN_len x.pre; rw [pre_len] at this; exact this
theorem refsL_len (l : List Ex) : (refsL l).length ≤ nodesL l := by
  have := refsN_len (preL l); rw [preL_len] at this; exact this
theorem refsL_take (l : List Ex) (i : Nat) : (refsL (l.take i)).length ≤ (refsL l).length := by
  have h := refsL_append (l.take i) (l.drop i)
  rw [List.take_append_drop] at h
  rw [h, List.length_append]; omega
theorem refs_prefix (l : List Ex) (k : Nat) (hk : k < l.length) {q : List ByteArray} (h : q <+: Ex.refs l[k]) : refsL (l.take k) ++ q <+: refsL l := by
  have e : refsL l = refsL (l.take (k + 1)) ++ refsL (l.drop (k + 1)) := by rw [← refsL_append, List.take_append_drop]
  rw [e, refsL_at l k hk]
  obtain ⟨r, hr⟩ := h
  exact ⟨r ++ refsL (l.drop (k + 1)), by rw [← hr]; simp [List.append_assoc]⟩

theorem mem_refsL {l : List Ex} {x : Ex} {n : ByteArray} (hx : x ∈ l) (hn : n ∈ Ex.refs x) : n ∈ refsL l := by
  induction l with
  | nil => simp at hx
  | cons y l ih =>
    rw [refsL_cons, List.mem_append]
    rcases List.mem_cons.1 hx with e | hx
    · subst e; exact .inl hn
    · exact .inr (ih hx)
theorem refsL_map {l : List Ex} {f : Ex → Ex} {g : ByteArray → List ByteArray} (h : ∀ x ∈ l, Ex.refs (f x) = (Ex.refs x).flatMap g) : refsL (l.map f) = (refsL l).flatMap g := by
  induction l with
  | nil => simp [refsL_nil]
  | cons x l ih => rw [List.map_cons, refsL_cons, refsL_cons, List.flatMap_append, h x (by simp), ih fun y hy => h y (by simp [hy])]

/-- Does a formula ask for a field? -/
def hasB (l : List ByteArray) (s : ByteArray) : Bool := l.any fun t => decide (t = s)
theorem hasB_nil (s : ByteArray) : hasB [] s = false := rfl
theorem hasB_append (l m : List ByteArray) (s : ByteArray) : hasB (l ++ m) s = (hasB l s || hasB m s) := by unfold hasB; rw [List.any_append]
theorem hasB_cons (t : ByteArray) (l : List ByteArray) (s : ByteArray) : hasB (t :: l) s = (decide (t = s) || hasB l s) := by unfold hasB; rw [List.any_cons]
theorem hasB_true (l : List ByteArray) (s : ByteArray) : hasB l s = true ↔ s ∈ l := by
  unfold hasB; rw [List.any_eq_true]
  constructor
  · rintro ⟨t, ht, e⟩; rw [decide_eq_true_eq] at e; subst e; exact ht
  · intro h; exact ⟨s, h, by simp⟩
theorem hasB_prefix {q l : List ByteArray} {s : ByteArray} (h : q <+: l) (hq : hasB q s = true) : hasB l s = true := by
  obtain ⟨r, rfl⟩ := h
  rw [hasB_append, hq]; rfl

/-! ### Each once, the least one first -/
abbrev Bs := List UInt8
/-- Where a text belongs: behind all that are not greater. -/
def place (s : Bs) : List Bs → List Bs
  | [] => [s]
  | t :: r => if s < t then s :: t :: r else t :: place s r
def ins (l : List Bs) (s : Bs) : List Bs := if s ∈ l then l else place s l
def rise (l : List Bs) : List Bs := l.foldl ins []
theorem rise_nil : rise [] = [] := rfl
theorem rise_snoc (l : List Bs) (s : Bs) : rise (l ++ [s]) = ins (rise l) s := by unfold rise; rw [List.foldl_append]; rfl
theorem mem_place (s : Bs) (l : List Bs) (x : Bs) : x ∈ place s l ↔ x = s ∨ x ∈ l := by
  induction l with
  | nil => simp [place]
  | cons t r ih =>
    unfold place
    by_cases h : s < t
    · rw [if_pos h]; simp
    · rw [if_neg h, List.mem_cons, ih, List.mem_cons]
      constructor
      · rintro (h | h | h) <;> simp [h]
      · rintro (h | h | h) <;> simp [h]
theorem mem_ins (l : List Bs) (s x : Bs) : x ∈ ins l s ↔ x = s ∨ x ∈ l := by
  unfold ins
  by_cases h : s ∈ l
  · rw [if_pos h]
    constructor
    · exact .inr
    · rintro (rfl | h2)
      · exact h
      · exact h2
  · rw [if_neg h, mem_place]
theorem lt_or {a b : Bs} (h : ¬ a < b) (hne : a ≠ b) : b < a := by
  have h1 : b ≤ a := List.not_lt.1 h
  by_cases g : b < a
  · exact g
  · exact absurd (List.le_antisymm (List.not_lt.1 g) h1) hne
theorem sorted_place (s : Bs) (l : List Bs) (hs : s ∉ l) (h : l.Pairwise (· < ·)) : (place s l).Pairwise (· < ·) := by
  induction l with
  | nil => simp [place]
  | cons t r ih =>
    obtain ⟨h1, h2⟩ := List.pairwise_cons.1 h
    have hne : s ≠ t := fun e => hs (by simp [e])
    unfold place
    by_cases hlt : s < t
    · rw [if_pos hlt]
      refine List.pairwise_cons.2 ⟨fun x hx => ?_, h⟩
      rcases List.mem_cons.1 hx with e | hx
      · rw [e]; exact hlt
      · exact List.lt_trans hlt (h1 x hx)
    · rw [if_neg hlt]
      refine List.pairwise_cons.2 ⟨fun x hx => ?_, ih (fun hx => hs (by simp [hx])) h2⟩
      rcases (mem_place s r x).1 hx with e | hx
      · rw [e]; exact lt_or hlt hne
      · exact h1 x hx
theorem sorted_ins (l : List Bs) (s : Bs) (h : l.Pairwise (· < ·)) : (ins l s).Pairwise (· < ·) := by
  unfold ins
  by_cases hs : s ∈ l
  · rw [if_pos hs]; exact h
  · rw [if_neg hs]; exact sorted_place s l hs h
theorem place_len (s : Bs) (l : List Bs) : (place s l).length = l.length + 1 := by
  induction l with
  | nil => rfl
  | cons t r ih =>
    unfold place
    by_cases h : s < t
    · rw [if_pos h]; simp
    · rw [if_neg h, List.length_cons, ih, List.length_cons]
theorem ins_len (l : List Bs) (s : Bs) : (ins l s).length ≤ l.length + 1 := by
  unfold ins
  by_cases hs : s ∈ l
  · rw [if_pos hs]; omega
  · rw [if_neg hs, place_len]; omega
theorem rise_all (l : List Bs) : (rise l).Pairwise (· < ·) ∧ (∀ x, x ∈ rise l ↔ x ∈ l) ∧ (rise l).length ≤ l.length := by
  suffices h : ∀ (l acc : List Bs), acc.Pairwise (· < ·) → (l.foldl ins acc).Pairwise (· < ·) ∧ (∀ x, x ∈ l.foldl ins acc ↔ x ∈ acc ∨ x ∈ l) ∧ (l.foldl ins acc).length ≤ acc.length + l.length by
    obtain ⟨h1, h2, h3⟩ := h l [] List.Pairwise.nil
    exact ⟨h1, fun x => by rw [rise, h2]; simp, by rw [rise]; simpa using h3⟩
  intro l
  induction l with
  | nil => intro acc h; simp [h]
  | cons s r ih =>
    intro acc h
    obtain ⟨h1, h2, h3⟩ := ih (ins acc s) (sorted_ins acc s h)
    refine ⟨h1, fun x => ?_, ?_⟩
    · rw [List.foldl_cons, h2, mem_ins]
      simp only [List.mem_cons]
      constructor
      · rintro ((h | h) | h) <;> simp [h]
      · rintro (h | h | h) <;> simp [h]
    · rw [List.foldl_cons, List.length_cons]; have := ins_len acc s; omega
theorem rise_sorted (l : List Bs) : (rise l).Pairwise (· < ·) := (rise_all l).1
theorem rise_mem (l : List Bs) (x : Bs) : x ∈ rise l ↔ x ∈ l := (rise_all l).2.1 x
theorem rise_len (l : List Bs) : (rise l).length ≤ l.length := (rise_all l).2.2
theorem rise_nodup (l : List Bs) : (rise l).Nodup := (rise_sorted l).imp fun h e => by subst e; exact List.lt_irrefl _ h
/-- A list that holds the same texts, each once, sorted, is it. -/
theorem rise_unique (l ss : List Bs) (hp : ss.Nodup) (hm : ∀ x, x ∈ ss ↔ x ∈ l) : ss.mergeSort (fun x y => decide (x ≤ y)) = rise l := by
  have h1 : ss.Perm (rise l) := (List.perm_ext_iff_of_nodup hp (rise_nodup l)).2 fun x => by rw [hm, rise_mem]
  have tr : ∀ a b c : Bs, (fun x y : Bs => decide (x ≤ y)) a b = true → (fun x y : Bs => decide (x ≤ y)) b c = true → (fun x y : Bs => decide (x ≤ y)) a c = true := fun a b c h1 h2 => by simp only [decide_eq_true_eq] at *; exact List.le_trans h1 h2
  have to : ∀ a b : Bs, ((fun x y : Bs => decide (x ≤ y)) a b || (fun x y : Bs => decide (x ≤ y)) b a) = true := fun a b => by simp only [Bool.or_eq_true, decide_eq_true_eq]; exact List.le_total a b
  refine List.Perm.eq_of_pairwise (le := fun a b => a ≤ b) (fun a b _ _ h1 h2 => List.le_antisymm h1 h2) ((List.pairwise_mergeSort tr to ss).imp fun h => by simpa using h) ((rise_sorted l).imp fun h => List.le_of_lt h) ((List.mergeSort_perm ss _).trans h1)

/-! ### A formula in the place of a field -/
mutual
def Ex.put (n : ByteArray) (y : Ex) : Ex → Ex | .mk d l => if d.op = 2 ∧ d.nm = n then y else .mk d (putL n y l)
def putL (n : ByteArray) (y : Ex) : List Ex → List Ex | [] => [] | x :: l => Ex.put n y x :: putL n y l
end
theorem putL_map (n : ByteArray) (y : Ex) : ∀ l : List Ex, putL n y l = l.map (Ex.put n y)
  | [] => by simp [putL]
  | x :: l => by rw [putL, putL_map n y l, List.map_cons]
theorem put_mk (n : ByteArray) (y : Ex) (d : Nd) (l : List Ex) : Ex.put n y (.mk d l) = if d.op = 2 ∧ d.nm = n then y else .mk d (l.map (Ex.put n y)) := by rw [Ex.put, putL_map]
theorem put_pos (n : ByteArray) (y : Ex) (d : Nd) (l : List Ex) (h : d.op = 2 ∧ d.nm = n) : Ex.put n y (.mk d l) = y := by rw [put_mk, if_pos h]
theorem put_neg (n : ByteArray) (y : Ex) (d : Nd) (l : List Ex) (h : ¬ (d.op = 2 ∧ d.nm = n)) : Ex.put n y (.mk d l) = .mk d (l.map (Ex.put n y)) := by rw [put_mk, if_neg h]
theorem nodesL_map_le {f : Ex → Ex} {c : Nat} {l : List Ex} (h : ∀ x ∈ l, (f x).nodes ≤ x.nodes * c) : nodesL (l.map f) ≤ nodesL l * c := by
  induction l with
  | nil => simp [nodesL_nil]
  | cons x l ih =>
    rw [List.map_cons, nodesL_cons, nodesL_cons, Nat.add_mul]
    have h1 := h x (by simp)
    have h2 := ih fun y hy => h y (by simp [hy])
    omega
theorem put_nodes (n : ByteArray) (y : Ex) : ∀ x : Ex, (Ex.put n y x).nodes ≤ x.nodes * y.nodes := by
  refine Ex.ind fun d l ih => ?_
  have hy := nodes_pos y
  by_cases h : d.op = 2 ∧ d.nm = n
  · rw [put_pos n y d l h, nodes_mk, Nat.add_mul, Nat.one_mul]; omega
  · rw [put_neg n y d l h, nodes_mk, nodes_mk, Nat.add_mul, Nat.one_mul]
    have := nodesL_map_le (f := Ex.put n y) (c := y.nodes) ih
    omega
theorem depthL_map_le {f : Ex → Ex} {c : Nat} {l : List Ex} (h : ∀ x ∈ l, (f x).depth ≤ x.depth + c) : depthL (l.map f) ≤ depthL l + c := by
  induction l with
  | nil => simp [depthL_nil]
  | cons x l ih =>
    rw [List.map_cons, depthL_cons, depthL_cons]
    have h1 := h x (by simp)
    have h2 := ih fun y hy => h y (by simp [hy])
    omega
/-- Where a formula does not ask for a field nothing is put. -/
theorem put_none (n : ByteArray) (y : Ex) : ∀ x : Ex, n ∉ Ex.refs x → Ex.put n y x = x := by
  refine Ex.ind fun d l ih => ?_
  intro h
  by_cases hd : d.op = 2
  · rw [refs_mk_pos d l hd] at h
    have hne : ¬ (d.op = 2 ∧ d.nm = n) := fun e => h (by rw [e.2]; simp)
    rw [put_neg n y d l hne]
    congr 1
    have hl : ∀ x ∈ l, n ∉ Ex.refs x := fun x hx hn => h (List.mem_cons_of_mem _ (mem_refsL hx hn))
    exact (List.map_congr_left fun x hx => ih x hx (hl x hx)).trans (List.map_id'' (fun _ => rfl) l)
  · rw [refs_mk_neg d l hd] at h
    rw [put_neg n y d l (fun e => hd e.1)]
    congr 1
    have hl : ∀ x ∈ l, n ∉ Ex.refs x := fun x hx hn => h (mem_refsL hx hn)
    exact (List.map_congr_left fun x hx => ih x hx (hl x hx)).trans (List.map_id'' (fun _ => rfl) l)
/-- What an operator is: a reference has no operands, no value. -/
theorem ref_node {d : Nd} {l : List Ex} (h : (Ex.mk d l).okN) (hd : d.op = 2) : l = [] ∧ d.k = 0 ∧ d.n = 0 ∧ d.s = ⟨#[]⟩ := by
  rw [okN_mk] at h
  have h1 := h.1
  unfold nodeE at h1
  rw [if_neg (by omega)] at h1
  by_cases hc : l.length = arity d.op ∧ vOk d = true ∧ nmOk d = true
  · obtain ⟨a1, a2, a3⟩ := hc
    have ha : arity d.op = 0 := by unfold arity; rw [if_pos (.inr hd)]
    rw [ha] at a1
    unfold vOk at a2
    rw [if_neg (by omega)] at a2
    simp only [Bool.and_eq_true, decide_eq_true_eq, List.isEmpty_iff] at a2
    refine ⟨List.eq_nil_of_length_eq_zero a1, a2.1.1, a2.1.2, ?_⟩
    have h3 := a2.2
    cases hs : d.s with | mk dat => rw [hs] at h3; cases dat; simp at h3; subst h3; rfl
  · rw [if_neg hc] at h1; exact absurd h1 (by decide)
/-- For itself a field changes nothing. -/
theorem put_self (n : ByteArray) : ∀ x : Ex, x.okN → Ex.put n (.mk ⟨2, 0, 0, ⟨#[]⟩, n⟩ []) x = x := by
  refine Ex.ind fun d l ih => ?_
  intro h
  by_cases hd : d.op = 2 ∧ d.nm = n
  · obtain ⟨h1, h2, h3, h4⟩ := ref_node h hd.1
    rw [put_pos _ _ _ _ hd]
    obtain ⟨op, k, m, s, nm⟩ := d
    simp only at hd h2 h3 h4
    obtain ⟨e1, e2⟩ := hd
    subst h1 h2 h3 h4 e1 e2; rfl
  · rw [put_neg _ _ _ _ hd]
    congr 1
    have h2 := ((okN_mk d l).1 h).2
    exact (List.map_congr_left fun x hx => ih x hx (h2 x hx)).trans (List.map_id'' (fun _ => rfl) l)
/-- The names of what is put together. -/
theorem put_refs (n : ByteArray) (y : Ex) : ∀ x : Ex, x.okN → Ex.refs (Ex.put n y x) = (Ex.refs x).flatMap fun s => if s = n then Ex.refs y else [s] := by
  refine Ex.ind fun d l ih => ?_
  intro h
  have h2 := ((okN_mk d l).1 h).2
  have hm := refsL_map (l := l) (f := Ex.put n y) (g := fun s => if s = n then Ex.refs y else [s]) fun x hx => ih x hx (h2 x hx)
  by_cases hd : d.op = 2
  · obtain ⟨h1, _⟩ := ref_node h hd
    subst h1
    rw [refs_mk_pos d [] hd, refsL_nil]
    by_cases hn : d.nm = n
    · rw [put_pos n y d [] ⟨hd, hn⟩]; simp [hn]
    · rw [put_neg n y d [] (fun e => hn e.2), List.map_nil, refs_mk_pos d [] hd, refsL_nil]; simp [hn]
  · rw [put_neg n y d l (fun e => hd e.1), refs_mk_neg d _ hd, refs_mk_neg d _ hd, hm]
/-- All nodes are right where they were. -/
theorem put_okN (n : ByteArray) (y : Ex) (hy : y.okN) : ∀ x : Ex, x.okN → (Ex.put n y x).okN := by
  refine Ex.ind fun d l ih => ?_
  intro h
  by_cases hd : d.op = 2 ∧ d.nm = n
  · rw [put_pos n y d l hd]; exact hy
  · rw [put_neg n y d l hd]
    rw [okN_mk] at h ⊢
    refine ⟨by rw [List.length_map]; exact h.1, fun x hx => ?_⟩
    obtain ⟨z, hz, rfl⟩ := List.mem_map.1 hx
    exact ih z hz (h.2 z hz)
theorem checkE_ok_cases {x : Ex} (h : x.okN) : x.checkE = 0 ∨ x.checkE = 1 ∨ x.checkE = 4 := by
  unfold Ex.checkE
  by_cases h1 : 60 < x.nodes
  · rw [if_pos h1]; exact .inr (.inl rfl)
  · rw [if_neg h1]
    by_cases h2 : 12 < x.depth
    · rw [if_pos h2]; exact .inr (.inr rfl)
    · rw [if_neg h2]; exact .inl h
/-- How a putting together ends: its error, in the order of the document. -/
def putE (n : ByteArray) (x y : Ex) (ne : Int) : Int := if x.checkE = 0 then (if y.checkE = 0 then (if ne = 0 then (Ex.put n y x).checkE else ne) else y.checkE) else x.checkE
/-- The field is not asked for any more, if what stands for it does not. -/
theorem put_gone (n : ByteArray) (y x : Ex) (hx : x.okN) (hy : n ∉ Ex.refs y) : hasB (Ex.refs (Ex.put n y x)) n = false := by
  rw [Bool.eq_false_iff]
  intro h
  rw [hasB_true, put_refs n y x hx, List.mem_flatMap] at h
  obtain ⟨s, hs, hm⟩ := h
  by_cases e : s = n
  · rw [if_pos e] at hm; exact hy hm
  · rw [if_neg e] at hm; simp at hm; exact e hm.symm
theorem put_other (n m : ByteArray) (y x : Ex) (hx : x.okN) (hn : n ∈ Ex.refs x) (hne : m ≠ n) : hasB (Ex.refs (Ex.put n y x)) m = (hasB (Ex.refs x) m || hasB (Ex.refs y) m) := by
  rw [Bool.eq_iff_iff, Bool.or_eq_true, hasB_true, hasB_true, hasB_true, put_refs n y x hx, List.mem_flatMap]
  constructor
  · rintro ⟨s, hs, hm⟩
    by_cases e : s = n
    · rw [if_pos e] at hm; exact .inr hm
    · rw [if_neg e] at hm; simp at hm; subst hm; exact .inl hs
  · rintro (h | h)
    · exact ⟨m, h, by rw [if_neg hne]; simp⟩
    · exact ⟨n, hn, by rw [if_pos rfl]; exact h⟩
end Go.Proofs.YtehkebncdahmcaaGreatDoor.NmM
