/- The reference of package rank: what a field asks for; levels. -/
import Derived.Test.YtdlfhldboagbeaaGreatDoorRkOf
import Derived.Test.YtdlfhldboagbeaaGreatDoorNmTop
import Derived.Test.YtdlfhldboagbeaaGreatDoorFldCheck
import Derived.Test.YtdlfhldboagbeaaGreatDoorReg
import Derived.Deep.AppendLies
namespace Go.Proofs.YtdlfhldboagbeaaGreatDoor.RkL
open Go.RowKit
open ValM LexM NumM ExM NmM Kit ExL ExP ExN ExC RawV Within RawL GenL FldP FldR FldC TyM Ty NmO NmA NmI NmT NmR RkM RkA RkB RkC RkD RkO
set_option linter.unusedVariables false

/-- What a field asks for, by its names, rising. -/
def srcL (f : GenL.Fd) (x : Ex) : List ByteArray := if f.kind = 1 then [] else mkL (rise (bytesL (Ex.refs x)))
def SrcOut (L : List ByteArray) (w : World) (e : Ending) (w' : World) : Prop :=
  ∃ v, e = .returned v ∧ w'.ownsRow w.heap.size 9 1 v L.length (strV L) ∧ Below w.heap.size w w'
set_option maxRecDepth 100000 in
set_option maxHeartbeats 4000000 in
theorem sources_any (f : GenL.Fd) (x : Ex) (w : World) (hx : x.nodes ≤ 1048576) (his : Is w x f.d f.A f.n) :
    Calls Tryz.prog 57 #[.agg #[.string f.nm, .int .i64 f.kind, .int .i64 f.ty, .int .i64 f.d.op, .int .i64 f.d.k, .int .i64 f.d.n, .string f.d.s, .string f.d.nm, .slice f.A f.n f.c]] w (SrcOut (srcL f x) w) := by
  obtain ⟨W5, hW5⟩ : ∃ V, w.alloc (.cells #[.string f.nm, .int .i64 f.kind, .int .i64 f.ty, .int .i64 f.d.op, .int .i64 f.d.k, .int .i64 f.d.n, .string f.d.s, .string f.d.nm, .slice f.A f.n f.c] 50) = V := ⟨_, rfl⟩
  obtain ⟨B9, hB9⟩ : ∃ B, w.heap.size = B := ⟨_, rfl⟩
  have hb5 := b_new w (.cells #[.string f.nm, .int .i64 f.kind, .int .i64 f.ty, .int .i64 f.d.op, .int .i64 f.d.k, .int .i64 f.d.n, .string f.d.s, .string f.d.nm, .slice f.A f.n f.c] 50)
  have hcell := head_cells w f
  unfold rightHead at hcell
  rw [hW5, hB9] at hcell
  rw [hW5] at hb5
  obtain ⟨x0, x1, x2, x3, x4, x5, x6, x7, x8⟩ := hcell W5 (Below.refl _ _)
  have hask := fun c => asked_any x f.d f.A f.n c W5 hx (his.below hb5)
  have HAsk := Lib.hid hask
  have HW5 := Lib.hid hW5
  have HB9 := Lib.hid hB9
  have HB5 := Lib.hid hb5
  clear hcell hask hW5 hb5 his hB9
  by_cases hk : f.kind = 1
  · have t1 : (f.kind == 1) = true := beq_iff_eq.2 hk
    have hout : SrcOut (srcL f x) w (.returned (.slice none 0 0)) W5 := by
      unfold srcL
      rw [if_pos hk]
      exact ⟨_, rfl, World.ownsRow_nil _ _ _ _, HB5.out⟩
    have HOut := Lib.hid hout
    clear hout hk
    go_enter Tryz.func57, Tryz.ntmps57
    go_upto_region 1 with fail
    rw [HW5.out, HB9.out]
    go_wp2_with fail
    go_ret
    exact HOut.out
  · have t1 : (f.kind == 1) = false := beq_eq_false_iff_ne.2 hk
    have hout : ∀ v V, V.ownsRow w.heap.size 9 1 v (rise (bytesL (Ex.refs x))).length ((rise (bytesL (Ex.refs x))).map encStr) → Below w.heap.size w V → SrcOut (srcL f x) w (.returned v) V := fun v V h hV => by
      unfold srcL
      rw [if_neg hk]
      exact ⟨_, rfl, by rw [mkL_len, strV_mkL]; exact h, hV⟩
    have hln := refs_len x
    have HOut := Lib.hid hout
    clear hout hk
    go_enter Tryz.func57, Tryz.ntmps57
    go_upto_region 1 with fail
    rw [HW5.out, HB9.out]
    go_wp2_with fail
    refine (HAsk.out _).mono ?_; rintro e w2 ⟨v, rfl, hown, hb2⟩
    obtain ⟨A2, c2, rfl, hsr⟩ := SRow.of_own hown
    have hri := rising_any (Ex.refs x) A2 c2 w2 (by omega) hsr
    have HRi := Lib.hid hri
    have HB2 := Lib.hid (b_trans HB5.out hb2)
    clear hown hsr hri hb2
    go_wp2_with fail
    refine HRi.out.mono ?_; rintro e w3 ⟨v3, rfl, hown3, hb3⟩
    have HF := Lib.hid (HOut.out v3 w3 (own_base hown3 HB2.out.size) (b_trans HB2.out hb3))
    clear hown3 hb3
    go_wp2_with fail
    go_ret
    exact HF.out
/-! ### levels -/
theorem rk_down {ns : List (List Nat)} {r : List Int} (hf : Fix ns r) (hb : ∀ i, -1 ≤ rk r i) (hok : ∀ i, i < ns.length → ∀ j ∈ nd ns i, j < ns.length) (i : Nat) (hi : i < ns.length) : ∀ d : Nat, (d : Int) ≤ rk r i → ∃ k, k < ns.length ∧ rk r k = rk r i - d
  | 0, _ => ⟨i, hi, by omega⟩
  | d + 1, h => by
    obtain ⟨k, hk, e⟩ := rk_down hf hb hok i hi d (by omega)
    have hn : ∀ j ∈ nd ns k, 0 ≤ rk r j := fun j hj => by
      rcases Classical.em (rk r j = -1) with e1 | e1
      · have := above_un (nd ns k) 0 ⟨j, hj, e1⟩
        rw [hf k hk] at this
        omega
      · have := hb j; omega
    rcases (above_ok (nd ns k) 0 hn (Int.le_refl _)).2.2 with e1 | ⟨j, hj, e1⟩
    · rw [hf k hk] at e1; omega
    · rw [hf k hk] at e1
      exact ⟨j, hok k hk j hj, by omega⟩
/-- A rank is less than the number of fields. -/
theorem rk_lt {ns : List (List Nat)} {r : List Int} (hf : Fix ns r) (hb : ∀ i, -1 ≤ rk r i) (hok : ∀ i, i < ns.length → ∀ j ∈ nd ns i, j < ns.length) (i : Nat) (hi : i < ns.length) : rk r i < ns.length := by
  rcases Int.lt_or_le (rk r i) 0 with h0 | h0
  · omega
  · obtain ⟨R, hR⟩ : ∃ R : Nat, rk r i = (R : Int) := ⟨(rk r i).toNat, by omega⟩
    have hex : ∀ d : Nat, ∃ k, d ≤ R → k < ns.length ∧ rk r k = (R : Int) - d := fun d => by
      by_cases hd : d ≤ R
      · obtain ⟨k, h1, h2⟩ := rk_down hf hb hok i hi d (by omega)
        exact ⟨k, fun _ => ⟨h1, by omega⟩⟩
      · exact ⟨0, fun h => absurd h hd⟩
    obtain ⟨c, hc⟩ := Classical.axiomOfChoice hex
    have hnd : ∀ m, m ≤ R + 1 → ((List.range m).map c).Nodup := fun m => by
      induction m with
      | zero => intro _; simp
      | succ m ih =>
        intro hm
        rw [List.range_succ, List.map_append, List.nodup_append]
        refine ⟨ih (by omega), by simp, fun x hx y hy e => ?_⟩
        obtain ⟨p, hp, rfl⟩ := List.mem_map.1 hx
        rw [List.mem_range] at hp
        simp at hy
        subst hy
        have h1 := (hc p (by omega)).2
        have h2 := (hc m (by omega)).2
        rw [e] at h1
        omega
    have := nodup_bd ns.length _ (hnd (R + 1) (Nat.le_refl _)) (fun x hx => by
      obtain ⟨p, hp, rfl⟩ := List.mem_map.1 hx
      rw [List.mem_range] at hp
      exact (hc p (by omega)).1)
    rw [List.length_map, List.length_range] at this
    omega
/-- Done ahead of a level. -/
def doneB (r : List Int) (L i : Nat) : Bool := decide (0 ≤ rk r i ∧ rk r i < (L : Int))
/-- What is not done is ready at a level just when that is its rank. -/
theorem lev_step {ns : List (List Nat)} {r : List Int} (hf : Fix ns r) (hb : ∀ i, -1 ≤ rk r i) (L i : Nat) (hi : i < ns.length) (hd : doneB r L i = false) : (nd ns i).all (doneB r L) = decide (rk r i = (L : Int)) := by
  rw [Bool.eq_iff_iff, List.all_eq_true, decide_eq_true_eq]
  have hd : ¬ (0 ≤ rk r i ∧ rk r i < (L : Int)) := of_decide_eq_false hd
  constructor
  · intro h
    have hj : ∀ j ∈ nd ns i, 0 ≤ rk r j ∧ rk r j < (L : Int) := fun j hj => of_decide_eq_true (h j hj)
    obtain ⟨a, _, c⟩ := above_ok (nd ns i) 0 (fun j h => (hj j h).1) (Int.le_refl _)
    rw [hf i hi] at a c
    rcases c with c | ⟨j, h1, c⟩
    · omega
    · have := hj j h1; omega
  · intro h j hj
    have hn : ∀ j ∈ nd ns i, 0 ≤ rk r j := fun j hj => by
      rcases Classical.em (rk r j = -1) with e1 | e1
      · have := above_un (nd ns i) 0 ⟨j, hj, e1⟩
        rw [hf i hi] at this
        omega
      · have := hb j; omega
    have := (above_ok (nd ns i) 0 hn (Int.le_refl _)).2.1 j hj
    rw [hf i hi] at this
    exact decide_eq_true ⟨hn j hj, by omega⟩
/-- Behind the last level just those are done that have a rank. -/
theorem lev_last {ns : List (List Nat)} {r : List Int} (hf : Fix ns r) (hb : ∀ i, -1 ≤ rk r i) (hok : ∀ i, i < ns.length → ∀ j ∈ nd ns i, j < ns.length) (i : Nat) (hi : i < ns.length) : doneB r ns.length i = decide (rk r i ≠ -1) := by
  have h1 := rk_lt hf hb hok i hi
  have h2 := hb i
  unfold doneB
  rw [Bool.eq_iff_iff, decide_eq_true_eq, decide_eq_true_eq]
  omega
/-! ### what hangs on one, pass by pass -/
def passH (ns : List (List Nat)) (H : List Nat) : Nat → List Nat
  | 0 => H
  | k + 1 => if ((nd ns k).any fun j => decide (j ∈ passH ns H k)) = true ∧ ¬ k ∈ passH ns H k then passH ns H k ++ [k] else passH ns H k
def onH (ns : List (List Nat)) (p : Nat) : Nat → List Nat
  | 0 => [p]
  | m + 1 => passH ns (onH ns p m) ns.length
theorem passH_mono {ns : List (List Nat)} {H : List Nat} {x : Nat} (k : Nat) : ∀ d, x ∈ passH ns H k → x ∈ passH ns H (k + d)
  | 0, h => h
  | d + 1, h => by
    have ih := passH_mono (ns := ns) (H := H) (x := x) k d h
    show x ∈ passH ns H (k + d + 1)
    unfold passH
    split
    · exact List.mem_append_left _ ih
    · exact ih
theorem passH_sound {ns : List (List Nat)} {H : List Nat} {h : Nat → Bool} {p : Nat} (hh : ∀ i, i < ns.length → h i = (decide (i = p) || (nd ns i).any h)) (hH : ∀ x ∈ H, x < ns.length ∧ h x = true) : ∀ k, k ≤ ns.length → ∀ x ∈ passH ns H k, x < ns.length ∧ h x = true
  | 0, _ => hH
  | k + 1, hk => fun x hx => by
    have ih := passH_sound hh hH k (by omega)
    unfold passH at hx
    split at hx
    · rename_i hc
      rcases List.mem_append.1 hx with hx | hx
      · exact ih x hx
      · obtain rfl : x = k := by simpa using hx
        refine ⟨by omega, ?_⟩
        obtain ⟨j, hj, e⟩ := List.any_eq_true.1 hc.1
        rw [hh x (by omega), Bool.or_eq_true]
        exact .inr (List.any_eq_true.2 ⟨j, hj, (ih j (of_decide_eq_true e)).2⟩)
    · exact ih x hx
theorem passH_visit {ns : List (List Nat)} {H : List Nat} {k j : Nat} (hk : k < ns.length) (hj : j ∈ nd ns k) (hjH : j ∈ H) : k ∈ passH ns H ns.length := by
  have h1 : j ∈ passH ns H k := by
    have := passH_mono (ns := ns) (H := H) (x := j) 0 k hjH
    rwa [Nat.zero_add] at this
  have h2 : k ∈ passH ns H (k + 1) := by
    unfold passH
    by_cases e : k ∈ passH ns H k
    · rw [if_neg (fun h => h.2 e)]; exact e
    · rw [if_pos ⟨List.any_eq_true.2 ⟨j, hj, decide_eq_true h1⟩, e⟩]
      exact List.mem_append_right _ (by simp)
  have := passH_mono (ns := ns) (H := H) (x := k) (k + 1) (ns.length - (k + 1)) h2
  rwa [show k + 1 + (ns.length - (k + 1)) = ns.length by omega] at this
theorem onH_sub {ns : List (List Nat)} {p x m : Nat} (h : x ∈ onH ns p m) : x ∈ onH ns p (m + 1) := by
  have := passH_mono (ns := ns) (H := onH ns p m) (x := x) 0 ns.length h
  rwa [Nat.zero_add] at this
theorem onH_p (ns : List (List Nat)) (p : Nat) : ∀ m, p ∈ onH ns p m
  | 0 => by simp [onH]
  | m + 1 => onH_sub (onH_p ns p m)
/-- The reference's passes find just those that hang. -/
theorem onH_hang {ns : List (List Nat)} {r : List Int} {h : Nat → Bool} {p : Nat} (hp : p < ns.length) (hh : ∀ i, i < ns.length → h i = (decide (i = p) || (nd ns i).any h)) (hr : ∀ i, i < ns.length → 0 ≤ rk r i ∧ rk r i < ns.length ∧ ∀ j ∈ nd ns i, j < ns.length ∧ rk r j < rk r i) (i : Nat) (hi : i < ns.length) : i ∈ onH ns p ns.length ↔ h i = true := by
  have hs : ∀ m, ∀ x ∈ onH ns p m, x < ns.length ∧ h x = true := fun m => by
    induction m with
    | zero =>
      intro x hx
      obtain rfl : x = p := by simpa [onH] using hx
      exact ⟨hp, by rw [hh x hp]; simp⟩
    | succ m ih => exact passH_sound hh ih ns.length (Nat.le_refl _)
  have hc : ∀ m : Nat, ∀ i, i < ns.length → h i = true → rk r i < (m : Int) → i ∈ onH ns p m := fun m => by
    induction m with
    | zero => intro i hi _ hlt; have := (hr i hi).1; omega
    | succ m ih =>
      intro i hi ht hlt
      rw [hh i hi, Bool.or_eq_true] at ht
      rcases ht with ht | ht
      · rw [of_decide_eq_true ht]; exact onH_p ns p _
      · obtain ⟨j, hj, e⟩ := List.any_eq_true.1 ht
        obtain ⟨h1, h2⟩ := (hr i hi).2.2 j hj
        exact passH_visit hi hj (ih j h1 e (by omega))
  exact ⟨fun h => (hs _ i h).2, fun ht => hc _ i hi ht (hr i hi).2.1⟩
/-! ### the order, level by level -/
def lvlL (r : List Int) (n : Nat) : List Nat := (List.range n).flatMap fun (L : Nat) => (List.range n).filter fun i => decide (rk r i = (L : Int))
def lexR (r : List Int) (a b : Nat) : Prop := rk r a < rk r b ∨ (rk r a = rk r b ∧ a < b)
theorem lvl_asc (r : List Int) (n : Nat) : (lvlL r n).Pairwise (lexR r) := by
  unfold lvlL
  refine List.pairwise_flatMap.2 ⟨fun L _ => List.pairwise_filter.2 (List.pairwise_lt_range.imp fun h h1 h2 => ?_), List.pairwise_lt_range.imp fun h x hx y hy => ?_⟩
  · have e1 := of_decide_eq_true h1
    have e2 := of_decide_eq_true h2
    exact .inr ⟨e1.trans e2.symm, h⟩
  · have e1 := of_decide_eq_true (List.mem_filter.1 hx).2
    have e2 := of_decide_eq_true (List.mem_filter.1 hy).2
    exact .inl (by rw [e1, e2]; omega)
theorem lvl_mem {r : List Int} {n : Nat} (hr : ∀ i, i < n → 0 ≤ rk r i ∧ rk r i < (n : Int)) (x : Nat) : x ∈ lvlL r n ↔ x ∈ List.range n := by
  unfold lvlL
  rw [List.mem_flatMap]
  constructor
  · rintro ⟨L, _, h⟩
    exact (List.mem_filter.1 h).1
  · intro h
    obtain ⟨h1, h2⟩ := hr x (List.mem_range.1 h)
    exact ⟨(rk r x).toNat, List.mem_range.2 (by omega), List.mem_filter.2 ⟨h, decide_eq_true (by omega)⟩⟩
theorem lex_ne {r : List Int} {l : List Nat} (h : l.Pairwise (lexR r)) : l.Nodup := h.imp fun h e => by
  subst e
  rcases h with h | h <;> omega
/-- Any order of the places by rank, then by place, is that one. -/
theorem lvl_eq {r : List Int} {n : Nat} (hr : ∀ i, i < n → 0 ≤ rk r i ∧ rk r i < (n : Int)) {o : List Nat} (hp : o.Perm (List.range n)) (ha : o.Pairwise (lexR r)) : o = lvlL r n := by
  refine List.Perm.eq_of_pairwise (le := lexR r) (fun a b _ _ h1 h2 => ?_) ha (lvl_asc r n) (hp.trans ((List.perm_ext_iff_of_nodup List.nodup_range (lex_ne (lvl_asc r n))).2 fun x => (lvl_mem hr x).symm))
  unfold lexR at h1 h2
  omega
def curL (r : List Int) (n L i : Nat) : List Nat := ((List.range L).flatMap fun (l : Nat) => (List.range n).filter fun i => decide (rk r i = (l : Int))) ++ (List.range i).filter fun j => decide (rk r j = (L : Int))
theorem cur_zero (r : List Int) (n : Nat) : curL r n 0 0 = [] := by unfold curL; simp
theorem cur_next (r : List Int) (n L : Nat) : curL r n (L + 1) 0 = curL r n L n := by unfold curL; rw [List.range_succ, List.flatMap_append]; simp
theorem cur_last (r : List Int) (n : Nat) : curL r n n 0 = lvlL r n := by unfold curL lvlL; simp
theorem cur_succ (r : List Int) (n L i : Nat) : curL r n L (i + 1) = if rk r i = (L : Int) then curL r n L i ++ [i] else curL r n L i := by
  unfold curL
  rw [List.range_succ, List.filter_append]
  by_cases h : rk r i = (L : Int)
  · rw [if_pos h, List.append_assoc]; simp [h]
  · rw [if_neg h]; simp [h]
structure OI (r : List Int) (n L i : Nat) (w1 : World) (N : List Nat) (v : Value) (wr : World) : Prop where
  val : N = curL r n L i
  few : N.length ≤ 14 * L + i
  own : wr.ownsRow w1.heap.size 3 1 v N.length (nV N)
  below : Below w1.heap.size w1 wr
theorem OI.skip {r : List Int} {n L i : Nat} {w1 wr : World} {N : List Nat} {v : Value} (h : OI r n L i w1 N v wr) (hr : rk r i ≠ (L : Int)) : OI r n L (i + 1) w1 N v wr :=
  ⟨by rw [cur_succ, if_neg hr]; exact h.val, by have := h.few; omega, h.own, h.below⟩
theorem OI.next {r : List Int} {n L : Nat} {w1 wr : World} {N : List Nat} {v : Value} (h : OI r n L n w1 N v wr) (hn : n ≤ 14) : OI r n (L + 1) 0 w1 N v wr :=
  ⟨by rw [cur_next]; exact h.val, by have := h.few; omega, h.own, h.below⟩
theorem OI.step {r : List Int} {n L i gg cap : Nat} {w1 wr w6 : World} {N : List Nat} {v : Value} {o : Obj} (h : OI r n L i w1 N v wr) (hr : rk r i = (L : Int)) (hown : w6.ownsRow w1.heap.size 3 1 (.slice (some ⟨gg, 0, none⟩) (N.length + 1) cap) (N.length + 1) (nV N ++ [.int .i64 (i : Int)])) (hg : (wr.alloc o).grownBy w6 v.ownBlock) : OI r n L (i + 1) w1 (N ++ [i]) (.slice (some ⟨gg, 0, none⟩) (N ++ [i]).length cap) w6 := by
  have e : (N ++ [i]).length = N.length + 1 := by simp
  refine ⟨by rw [cur_succ, if_pos hr, h.val], by rw [e]; have := h.few; omega, by rw [e, nV_snoc]; exact hown, ?_⟩
  have hb := b_trans h.below (b_new wr o)
  exact hb.grown hg hb.size (fun k e => (h.own.lt k e).1)
/-! ### FieldHangs -/
def passI (ns : List (List Nat)) (H : List Nat) (i q : Nat) : List Nat := if (((nd ns i).take q).any fun j => decide (j ∈ H)) = true ∧ ¬ i ∈ H then H ++ [i] else H
theorem passI_zero (ns : List (List Nat)) (H : List Nat) (i : Nat) : passI ns H i 0 = H := by unfold passI; simp
theorem passI_last (ns : List (List Nat)) (H : List Nat) (k : Nat) : passI ns (passH ns H k) k (nd ns k).length = passH ns H (k + 1) := by
  unfold passI
  rw [List.take_length]
  conv => rhs; unfold passH
theorem passI_succ (ns : List (List Nat)) (H : List Nat) (i q : Nat) (hq : q < (nd ns i).length) : passI ns H i (q + 1) = if (nd ns i)[q] ∈ passI ns H i q ∧ ¬ i ∈ passI ns H i q then passI ns H i q ++ [i] else passI ns H i q := by
  have e : (((nd ns i).take (q + 1)).any fun j => decide (j ∈ H)) = ((((nd ns i).take q).any fun j => decide (j ∈ H)) || decide ((nd ns i)[q] ∈ H)) := by
    rw [List.take_succ_eq_append_getElem hq, List.any_append]; simp
  by_cases hi : i ∈ H
  · have h1 : ∀ q, passI ns H i q = H := fun q => by unfold passI; rw [if_neg (fun h => h.2 hi)]
    rw [h1, h1, if_neg (fun h => h.2 hi)]
  · by_cases ht : (((nd ns i).take q).any fun j => decide (j ∈ H)) = true
    · have h1 : passI ns H i q = H ++ [i] := by unfold passI; rw [if_pos ⟨ht, hi⟩]
      have h2 : passI ns H i (q + 1) = H ++ [i] := by unfold passI; rw [if_pos ⟨by rw [e, ht]; rfl, hi⟩]
      rw [h1, h2, if_neg (fun h => h.2 (by simp))]
    · have h1 : passI ns H i q = H := by unfold passI; rw [if_neg (fun h => ht h.1)]
      rw [h1]
      have ht2 : (((nd ns i).take q).any fun j => decide (j ∈ H)) = false := by simpa using ht
      unfold passI
      rw [e, ht2, Bool.false_or]
      by_cases h : (nd ns i)[q] ∈ H <;> simp [h, hi]
theorem hasB_nm {nm : Nat → ByteArray} {n : Nat} (hinj : ∀ i j, i < n → j < n → nm i = nm j → i = j) {H : List Nat} (hH : ∀ x ∈ H, x < n) (x : Nat) (hx : x < n) : hasB (H.map nm) (nm x) = decide (x ∈ H) := by
  rw [Bool.eq_iff_iff, hasB_true, decide_eq_true_eq, List.mem_map]
  constructor
  · rintro ⟨y, hy, e⟩
    rwa [← hinj y x (hH y hy) hx e]
  · intro h; exact ⟨x, h, rfl⟩
theorem passI_len (ns : List (List Nat)) (H : List Nat) (i q : Nat) : (passI ns H i q).length ≤ H.length + 1 := by
  unfold passI
  split
  · simp
  · omega
theorem passI_lt {ns : List (List Nat)} {H : List Nat} {i n : Nat} (q : Nat) (hi : i < n) (hH : ∀ x ∈ H, x < n) : ∀ x ∈ passI ns H i q, x < n := fun x hx => by
  unfold passI at hx
  split at hx
  · rcases List.mem_append.1 hx with hx | hx
    · exact hH x hx
    · obtain rfl : x = i := by simpa using hx
      exact hi
  · exact hH x hx
structure HS (w : World) (nm : Nat → ByteArray) (n b : Nat) (H0 H : List Nat) (v : Value) (wr : World) : Prop where
  val : H = H0
  few : H.length ≤ b
  lt : ∀ x ∈ H, x < n
  own : wr.ownsRow w.heap.size 9 1 v H.length (strV (H.map nm))
  below : Below w.heap.size w wr
theorem HS.own' {w : World} {nm : Nat → ByteArray} {n b : Nat} {H0 H : List Nat} {v : Value} {wr : World} (h : HS w nm n b H0 H v wr) : wr.ownsRow w.heap.size 9 1 v (H.map nm).length (strV (H.map nm)) := by rw [List.length_map]; exact h.own
theorem HS.to {w : World} {nm : Nat → ByteArray} {n b b' : Nat} {H0 H1 H : List Nat} {v : Value} {wr w' : World} (h : HS w nm n b H0 H v wr) (hb : Below wr.heap.size wr w') (e : H0 = H1) (hbb : H.length ≤ b') : HS w nm n b' H1 H v w' :=
  ⟨h.val.trans e, hbb, h.lt, GenL.own_below h.own hb, b_trans h.below hb⟩
end Go.Proofs.YtdlfhldboagbeaaGreatDoor.RkL
