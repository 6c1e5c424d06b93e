/- The reference of package rank: what a field asks for; levels. -/
import Derived.Test.YthgcmficmodhiaaGreatDoorRkOf
import Derived.Test.YthgcmficmodhiaaGreatDoorNmTop
import Derived.Test.YthgcmficmodhiaaGreatDoorFldRight
import Derived.Test.YthgcmficmodhiaaGreatDoorRegP
import Derived.Deep.AppendLies
namespace Go.Proofs.YthgcmficmodhiaaGreatDoor.RkL
open Go.RowKit
open ValM LexM NumM ExM NmM Kit ExL ExP ExN ExC RawV Within RawL GenL FldP FldR FldC TyM Ty NmO NmA NmI NmT NmR RkM RkA RkB RkC RkD RkO
set_option linter.unusedVariables false

/-- What a field asks for, by its names, rising. -/
def srcL (f : GenL.Fd) (x : Ex) : List ByteArray := if f.kind = 1 then [] else mkL (rise (bytesL (Ex.refs x)))
def SrcOut (L : List ByteArray) (w : World) (e : Ending) (w' : World) : Prop :=
  ∃ v, e = .returned v ∧ w'.ownsRow w.heap.size 9 1 v L.length (strV L) ∧ Below w.heap.size w w'
set_option maxRecDepth 100000 in
set_option maxHeartbeats 4000000 in
theorem sources_any (f : GenL.Fd) (x : Ex) (w : World) (hx : x.nodes ≤ 1048576) (his : Is w x f.d f.A f.n) :
    Calls Tryz.prog 19 #[.agg #[.string f.nm, .int .i64 f.kind, .int .i64 f.ty, .int .i64 f.d.op, .int .i64 f.d.k, .int .i64 f.d.n, .string f.d.s, .string f.d.nm, .slice f.A f.n f.c]] w (SrcOut (srcL f x) w) := by
  obtain ⟨W5, hW5⟩ : ∃ V, w.alloc (.cells #[.string f.nm, .int .i64 f.kind, .int .i64 f.ty, .int .i64 f.d.op, .int .i64 f.d.k, .int .i64 f.d.n, .string f.d.s, .string f.d.nm, .slice f.A f.n f.c] 48) = V := ⟨_, rfl⟩
  obtain ⟨B9, hB9⟩ : ∃ B, w.heap.size = B := ⟨_, rfl⟩
  have hb5 := b_new w (.cells #[.string f.nm, .int .i64 f.kind, .int .i64 f.ty, .int .i64 f.d.op, .int .i64 f.d.k, .int .i64 f.d.n, .string f.d.s, .string f.d.nm, .slice f.A f.n f.c] 48)
  have hcell := head_cells w f
  unfold rightHead at hcell
  rw [hW5, hB9] at hcell
  rw [hW5] at hb5
  obtain ⟨x0, x1, x2, x3, x4, x5, x6, x7, x8⟩ := hcell W5 (Below.refl _ _)
  have hask := fun c => asked_any x f.d f.A f.n c W5 hx (his.below hb5)
  have HAsk := Lib.hid hask
  have HW5 := Lib.hid hW5
  have HB9 := Lib.hid hB9
  have HB5 := Lib.hid hb5
  clear hcell hask hW5 hb5 his hB9
  by_cases hk : f.kind = 1
  · have t1 : (f.kind == 1) = true := beq_iff_eq.2 hk
    have hout : SrcOut (srcL f x) w (.returned (.slice none 0 0)) W5 := by
      unfold srcL
      rw [if_pos hk]
      exact ⟨_, rfl, World.ownsRow_nil _ _ _ _, HB5.out⟩
    have HOut := Lib.hid hout
    clear hout hk
    go_enter Tryz.func19, Tryz.ntmps19
    go_upto_region 1 with fail
    rw [HW5.out, HB9.out]
    go_wp2_with fail
    go_ret
    exact HOut.out
  · have t1 : (f.kind == 1) = false := beq_eq_false_iff_ne.2 hk
    have hout : ∀ v V, V.ownsRow w.heap.size 9 1 v (rise (bytesL (Ex.refs x))).length ((rise (bytesL (Ex.refs x))).map encStr) → Below w.heap.size w V → SrcOut (srcL f x) w (.returned v) V := fun v V h hV => by
      unfold srcL
      rw [if_neg hk]
      exact ⟨_, rfl, by rw [mkL_len, strV_mkL]; exact h, hV⟩
    have hln := refs_len x
    have HOut := Lib.hid hout
    clear hout hk
    go_enter Tryz.func19, Tryz.ntmps19
    go_upto_region 1 with fail
    rw [HW5.out, HB9.out]
    go_wp2_with fail
    refine (HAsk.out _).mono ?_; rintro e w2 ⟨v, rfl, hown, hb2⟩
    obtain ⟨A2, c2, rfl, hsr⟩ := SRow.of_own hown
    have hri := rising_any (Ex.refs x) A2 c2 w2 (by omega) hsr
    have HRi := Lib.hid hri
    have HB2 := Lib.hid (b_trans HB5.out hb2)
    clear hown hsr hri hb2
    go_wp2_with fail
    refine HRi.out.mono ?_; rintro e w3 ⟨v3, rfl, hown3, hb3⟩
    have HF := Lib.hid (HOut.out v3 w3 (own_base hown3 HB2.out.size) (b_trans HB2.out hb3))
    clear hown3 hb3
    go_wp2_with fail
    go_ret
    exact HF.out
/-! ### levels -/
theorem rk_down {ns : List (List Nat)} {r : List Int} (hf : Fix ns r) (hb : ∀ i, -1 ≤ rk r i) (hok : ∀ i, i < ns.length → ∀ j ∈ nd ns i, j < ns.length) (i : Nat) (hi : i < ns.length) : ∀ d : Nat, (d : Int) ≤ rk r i → ∃ k, k < ns.length ∧ rk r k = rk r i - d
  | 0, _ => ⟨i, hi, by omega⟩
  | d + 1, h => by
    obtain ⟨k, hk, e⟩ := rk_down hf hb hok i hi d (by omega)
    have hn : ∀ j ∈ nd ns k, 0 ≤ rk r j := fun j hj => by
      rcases Classical.em (rk r j = -1) with e1 | e1
      · have := above_un (nd ns k) 0 ⟨j, hj, e1⟩
        rw [hf k hk] at this
        omega
      · have := hb j; omega
    rcases (above_ok (nd ns k) 0 hn (Int.le_refl _)).2.2 with e1 | ⟨j, hj, e1⟩
    · rw [hf k hk] at e1; omega
    · rw [hf k hk] at e1
      exact ⟨j, hok k hk j hj, by omega⟩
/-- A rank is less than the number of fields. -/
theorem rk_lt {ns : List (List Nat)} {r : List Int} (hf : Fix ns r) (hb : ∀ i, -1 ≤ rk r i) (hok : ∀ i, i < ns.length → ∀ j ∈ nd ns i, j < ns.length) (i : Nat) (hi : i < ns.length) : rk r i < ns.length := by
  rcases Int.lt_or_le (rk r i) 0 with h0 | h0
  · omega
  · obtain ⟨R, hR⟩ : ∃ R : Nat, rk r i = (R : Int) := ⟨(rk r i).toNat, by omega⟩
    have hex : ∀ d : Nat, ∃ k, d ≤ R → k < ns.length ∧ rk r k = (R : Int) - d := fun d => by
      by_cases hd : d ≤ R
      · obtain ⟨k, h1, h2⟩ := rk_down hf hb hok i hi d (by omega)
        exact ⟨k, fun _ => ⟨h1, by omega⟩⟩
      · exact ⟨0, fun h => absurd h hd⟩
    obtain ⟨c, hc⟩ := Classical.axiomOfChoice hex
    have hnd : ∀ m, m ≤ R + 1 → ((List.range m).map c).Nodup := fun m => by
      induction m with
      | zero => intro _; simp
      | succ m ih =>
        intro hm
        rw [List.range_succ, List.map_append, List.nodup_append]
        refine ⟨ih (by omega), by simp, fun x hx y hy e => ?_⟩
        obtain ⟨p, hp, rfl⟩ := List.mem_map.1 hx
        rw [List.mem_range] at hp
        simp at hy
        subst hy
        have h1 := (hc p (by omega)).2
        have h2 := (hc m (by omega)).2
        rw [e] at h1
        omega
    have := nodup_bd ns.length _ (hnd (R + 1) (Nat.le_refl _)) (fun x hx => by
      obtain ⟨p, hp, rfl⟩ := List.mem_map.1 hx
      rw [List.mem_range] at hp
      exact (hc p (by omega)).1)
    rw [List.length_map, List.length_range] at this
    omega
/-- Done ahead of a level. -/
def doneB (r : List Int) (L i : Nat) : Bool := decide (0 ≤ rk r i ∧ rk r i < (L : Int))
/-- What is not done is ready at a level just when that is its rank. -/
theorem lev_step {ns : List (List Nat)} {r : List Int} (hf : Fix ns r) (hb : ∀ i, -1 ≤ rk r i) (L i : Nat) (hi : i < ns.length) (hd : doneB r L i = false) : (nd ns i).all (doneB r L) = decide (rk r i = (L : Int)) := by
  rw [Bool.eq_iff_iff, List.all_eq_true, decide_eq_true_eq]
  have hd : ¬ (0 ≤ rk r i ∧ rk r i < (L : Int)) := of_decide_eq_false hd
  constructor
  · intro h
    have hj : ∀ j ∈ nd ns i, 0 ≤ rk r j ∧ rk r j < (L : Int) := fun j hj => of_decide_eq_true (h j hj)
    obtain ⟨a, _, c⟩ := above_ok (nd ns i) 0 (fun j h => (hj j h).1) (Int.le_refl _)
    rw [hf i hi] at a c
    rcases c with c | ⟨j, h1, c⟩
    · omega
    · have := hj j h1; omega
  · intro h j hj
    have hn : ∀ j ∈ nd ns i, 0 ≤ rk r j := fun j hj => by
      rcases Classical.em (rk r j = -1) with e1 | e1
      · have := above_un (nd ns i) 0 ⟨j, hj, e1⟩
        rw [hf i hi] at this
        omega
      · have := hb j; omega
    have := (above_ok (nd ns i) 0 hn (Int.le_refl _)).2.1 j hj
    rw [hf i hi] at this
    exact decide_eq_true ⟨hn j hj, by omega⟩
/-- Behind the last level just those are done that have a rank. -/
theorem lev_last {ns : List (List Nat)} {r : List Int} (hf : Fix ns r) (hb : ∀ i, -1 ≤ rk r i) (hok : ∀ i, i < ns.length → ∀ j ∈ nd ns i, j < ns.length) (i : Nat) (hi : i < ns.length) : doneB r ns.length i = decide (rk r i ≠ -1) := by
  have h1 := rk_lt hf hb hok i hi
  have h2 := hb i
  unfold doneB
  rw [Bool.eq_iff_iff, decide_eq_true_eq, decide_eq_true_eq]
  omega
/-! ### what hangs on one, pass by pass -/
def passH (ns : List (List Nat)) (H : List Nat) : Nat → List Nat
  | 0 => H
  | k + 1 => if ((nd ns k).any fun j => decide (j ∈ passH ns H k)) = true ∧ ¬ k ∈ passH ns H k then passH ns H k ++ [k] else passH ns H k
def onH (ns : List (List Nat)) (p : Nat) : Nat → List Nat
  | 0 => [p]
  | m + 1 => passH ns (onH ns p m) ns.length
theorem passH_mono {ns : List (List Nat)} {H : List Nat} {x : Nat} (k : Nat) : ∀ d, x ∈ passH ns H k → x ∈ passH ns H (k + d)
  | 0, h => h
  | d + 1, h => by
    have ih := passH_mono (ns := ns) (H := H) (x := x) k d h
    show x ∈ passH ns H (k + d + 1)
    unfold passH
    split
    · exact List.mem_append_left _ ih
    · exact ih
theorem passH_sound {ns : List (List Nat)} {H : List Nat} {h : Nat → Bool} {p : Nat} (hh : ∀ i, i < ns.length → h i = (decide (i = p) || (nd ns i).any h)) (hH : ∀ x ∈ H, x < ns.length ∧ h x = true) : ∀ k, k ≤ ns.length → ∀ x ∈ passH ns H k, x < ns.length ∧ h x = true
  | 0, _ => hH
  | k + 1, hk => fun x hx => by
    have ih := passH_sound hh hH k (by omega)
    unfold passH at hx
    split at hx
    · rename_i hc
      rcases List.mem_append.1 hx with hx | hx
      · exact ih x hx
      · obtain rfl : x = k := by simpa using hx
        refine ⟨by omega, ?_⟩
        obtain ⟨j, hj, e⟩ := List.any_eq_true.1 hc.1
        rw [hh x (by omega), Bool.or_eq_true]
        exact .inr (List.any_eq_true.2 ⟨j, hj, (ih j (of_decide_eq_true e)).2⟩)
    · exact ih x hx
theorem passH_visit {ns : List (List Nat)} {H : List Nat} {k j : Nat} (hk : k < ns.length) (hj : j ∈ nd ns k) (hjH : j ∈ H) : k ∈ passH ns H ns.length := by
  have h1 : j ∈ passH ns H k := by
    have := passH_mono (ns := ns) (H := H) (x := j) 0 k hjH
    rwa [Nat.zero_add] at this
  have h2 : k ∈ passH ns H (k + 1) := by
    unfold passH
    by_cases e : k ∈ passH ns H k
    · rw [if_neg (fun h => h.2 e)]; exact e
    · rw [if_pos ⟨List.any_eq_true.2 ⟨j, hj, decide_eq_true h1⟩, e⟩]
      exact List.mem_append_right _ (by simp)
  have := passH_mono (ns := ns) (H := H) (x := k) (k + 1) (ns.length - (k + 1)) h2
  rwa [show k + 1 + (ns.length - (k + 1)) = ns.length by omega] at this
theorem onH_sub {ns : List (List Nat)} {p x m : Nat} (h : x ∈ onH ns p m) : x ∈ onH ns p (m + 1) := by
  have := passH_mono (ns := ns) (H := onH ns p m) (x := x) 0 ns.length h
  rwa [Nat.zero_add] at this
theorem onH_p (ns : List (List Nat)) (p : Nat) : ∀ m, p ∈ onH ns p m
  | 0 => by simp [onH]
  | m + 1 => onH_sub (onH_p ns p m)
/-- The reference's passes find just those that hang. -/
theorem onH_hang {ns : List (List Nat)} {r : List Int} {h : Nat → Bool} {p : Nat} (hp : p < ns.length) (hh : ∀ i, i < ns.length → h i = (decide (i = p) || (nd ns i).any h)) (hr : ∀ i, i < ns.length → 0 ≤ rk r i ∧ rk r i < ns.length ∧ ∀ j ∈ nd ns i, j < ns.length ∧ rk r j < rk r i) (i : Nat) (hi : i < ns.length) : i ∈ onH ns p ns.length ↔ h i = true := by
  have hs : ∀ m, ∀ x ∈ onH ns p m, x < ns.length ∧ h x = true := fun m => by
    induction m with
    | zero =>
      intro x hx
      obtain rfl : x = p := by simpa [onH] using hx
      exact ⟨hp, by rw [hh x hp]; simp⟩
    | succ m ih => exact passH_sound hh ih ns.length (Nat.le_refl _)
  have hc : ∀ m : Nat, ∀ i, i < ns.length → h i = true → rk r i < (m : Int) → i ∈ onH ns p m := fun m => by
    induction m with
    | zero => intro i hi _ hlt; have := (hr i hi).1; omega
    | succ m ih =>
      intro i hi ht hlt
      rw [hh i hi, Bool.or_eq_true] at ht
      rcases ht with ht | ht
      · rw [of_decide_eq_true ht]; exact onH_p ns p _
      · obtain ⟨j, hj, e⟩ := List.any_eq_true.1 ht
        obtain ⟨h1, h2⟩ := (hr i hi).2.2 j hj
        exact passH_visit hi hj (ih j h1 e (by omega))
  exact ⟨fun h => (hs _ i h).2, fun ht => hc _ i hi ht (hr i hi).2.1⟩
/-! ### the order, level by level -/
def lvlL (r : List Int) (n : Nat) : List Nat := (List.range n).flatMap fun (L : Nat) => (List.range n).filter fun i => decide (rk r i = (L : Int))
def lexR (r : List Int) (a b : Nat) : Prop := rk r a < rk r b ∨ (rk r a = rk r b ∧ a < b)
theorem lvl_asc (r : List Int) (n : Nat) : (lvlL r n).Pairwise (lexR r) := by
  unfold lvlL
  refine List.pairwise_flatMap.2 ⟨fun L _ => List.pairwise_filter.2 (List.pairwise_lt_range.imp fun h h1 h2 => ?_), List.pairwise_lt_range.imp fun h x hx y hy => ?_⟩
  · have e1 := of_decide_eq_true h1
    have e2 := of_decide_eq_true h2
    exact .inr ⟨e1.trans e2.symm, h⟩
  · have e1 := of_decide_eq_true (List.mem_filter.1 hx).2
    have e2 := of_decide_eq_true (List.mem_filter.1 hy).2
    exact .inl (by rw [e1, e2]; omega)
theorem lvl_mem {r : List Int} {n : Nat} (hr : ∀ i, i < n → 0 ≤ rk r i ∧ rk r i < (n : Int)) (x : Nat) : x ∈ lvlL r n ↔ x ∈ List.range n := by
  unfold lvlL
  rw [List.mem_flatMap]
  constructor
  · rintro ⟨L, _, h⟩
    exact (List.mem_filter.1 h).1
  · intro h
    obtain ⟨h1, h2⟩ := hr x (List.mem_range.1 h)
    exact ⟨(rk r x).toNat, List.mem_range.2 (by omega), List.mem_filter.2 ⟨h, decide_eq_true (by omega)⟩⟩
theorem lex_ne {r : List Int} {l : List Nat} (h : l.Pairwise (lexR r)) : l.Nodup := h.imp fun h e => by
  subst e
  rcases h with h | h <;> omega
/-- Any order of the places by rank, then by place, is that one. -/
theorem lvl_eq {r : List Int} {n : Nat} (hr : ∀ i, i < n → 0 ≤ rk r i ∧ rk r i < (n : Int)) {o : List Nat} (hp : o.Perm (List.range n)) (ha : o.Pairwise (lexR r)) : o = lvlL r n := by
  refine List.Perm.eq_of_pairwise (le := lexR r) (fun a b _ _ h1 h2 => ?_) ha (lvl_asc r n) (hp.trans ((List.perm_ext_iff_of_nodup List.nodup_range (lex_ne (lvl_asc r n))).2 fun x => (lvl_mem hr x).symm))
  unfold lexR at h1 h2
  omega
def curL (r : List Int) (n L i : Nat) : List Nat := ((List.range L).flatMap fun (l : Nat) => (List.range n).filter fun i => decide (rk r i = (l : Int))) ++ (List.range i).filter fun j => decide (rk r j = (L : Int))
theorem cur_zero (r : List Int) (n : Nat) : curL r n 0 0 = [] := by unfold curL; simp
theorem cur_next (r : List Int) (n L : Nat) : curL r n (L + 1) 0 = curL r n L n := by unfold curL; rw [List.range_succ, List.flatMap_append]; simp
theorem cur_last (r : List Int) (n : Nat) : curL r n n 0 = lvlL r n := by unfold curL lvlL; simp
theorem cur_succ (r : List Int) (n L i : Nat) : curL r n L (i + 1) = if rk r i = (L : Int) then curL r n L i ++ [i] else curL r n L i := by
  unfold curL
  rw [List.range_succ, List.filter_append]
  by_cases h : rk r i = (L : Int)
  · rw [if_pos h, List.append_assoc]; simp [h]
  · rw [if_neg h]; simp [h]
structure OI (r : List Int) (n L i : Nat) (w1 : World) (N : List Nat) (v : Value) (wr : World) : Prop where
  val : N = curL r n L i
  few : N.length ≤ 14 * L + i
  own : wr.ownsRow w1.heap.size 3 1 v N.length (nV N)
  below : Below w1.heap.size w1 wr
theorem OI.skip {r : List Int} {n L i : Nat} {w1 wr : World} {N : List Nat} {v : Value} (h : OI r n L i w1 N v wr) (hr : rk r i ≠ (L : Int)) : OI r n L (i + 1) w1 N v wr :=
  ⟨by rw [cur_succ, if_neg hr]; exact h.val, by have := h.few; omega, h.own, h.below⟩
theorem OI.next {r : List Int} {n L : Nat} {w1 wr : World} {N : List Nat} {v : Value} (h : OI r n L n w1 N v wr) (hn : n ≤ 14) : OI r n (L + 1) 0 w1 N v wr :=
  ⟨by rw [cur_next]; exact h.val, by have := h.few; omega, h.own, h.below⟩
theorem OI.step {r : List Int} {n L i gg cap : Nat} {w1 wr w6 : World} {N : List Nat} {v : Value} {o : Obj} (h : OI r n L i w1 N v wr) (hr : rk r i = (L : Int)) (hown : w6.ownsRow w1.heap.size 3 1 (.slice (some ⟨gg, 0, none⟩) (N.length + 1) cap) (N.length + 1) (nV N ++ [.int .i64 (i : Int)])) (hg : (wr.alloc o).grownBy w6 v.ownBlock) : OI r n L (i + 1) w1 (N ++ [i]) (.slice (some ⟨gg, 0, none⟩) (N ++ [i]).length cap) w6 := by
  have e : (N ++ [i]).length = N.length + 1 := by simp
  refine ⟨by rw [cur_succ, if_pos hr, h.val], by rw [e]; have := h.few; omega, by rw [e, nV_snoc]; exact hown, ?_⟩
  have hb := b_trans h.below (b_new wr o)
  exact hb.grown hg hb.size (fun k e => (h.own.lt k e).1)
set_option maxRecDepth 100000 in
set_option maxHeartbeats 4000000 in
/-- FieldOrder, where FieldRanks has told ranks. -/
theorem refOrder_any (r : List Int) (n : Nat) (FA : Option Addr) (fc : Nat) (w : World) (hn1 : 1 ≤ n) (hn : n ≤ 14) (hof : Calls Tryz.prog 6 #[.slice FA n fc] w fun e w' => ∃ v, e = .returned (.tuple #[v, .slice none 0 0, .int .i64 0]) ∧ w'.ownsRow w.heap.size 3 1 v n (iV r) ∧ Below w.heap.size w w') (hrl : r.length = n) :
    Calls Tryz.prog 11 #[.slice FA n fc] w fun e w' => ∃ A c, e = .returned (.tuple #[.slice A (lvlL r n).length c, .int .i64 0]) ∧ w'.ownsRow w.heap.size 3 1 (.slice A (lvlL r n).length c) (lvlL r n).length (nV (lvlL r n)) ∧ Below w.heap.size w w' := by
  obtain ⟨i0, hi, hz0, hz1, hz2⟩ := info_parts1 infoInt
  have HOf := Lib.hid hof
  have HRl := Lib.hid hrl
  clear hof hrl
  go_enter Tryz.func11, Tryz.ntmps11
  go_wp2_with fail
  refine HOf.out.mono ?_; rintro e w1 ⟨v, rfl, hown, hb⟩
  obtain ⟨gR, rc, rfl, _, hgl, _, _, hcl⟩ := GenL.own_form hown (by omega)
  have hcells : ∀ V, Below w1.heap.size w1 V → ∀ j, j < n → V.cell? ⟨gR, j, none⟩ = some (.int .i64 (rk r j)) := fun V hV j hj => by
    have h1 := hcl j (by omega)
    rw [iV_at _ _ (by rw [HRl.out]; exact hj)] at h1
    exact (hV.cell (p := ⟨gR, j, none⟩) hgl).trans h1
  have HC := Lib.hid hcells
  have HB := Lib.hid hb
  clear hown hcl hgl hb hcells
  go_wp2_with fail
  go_loopw [7, 8, 9] (fun out lv _ wr => ∃ (L : Nat) (A : Option Addr) (c : Nat) (N : List Nat), lv = .int .i64 L ∧ L ≤ n ∧ out = .slice A N.length c ∧ OI r n L 0 w1 N (.slice A N.length c) wr) (fun _ lv _ _ => n - (intOf lv).toNat)
  case atStart => exact ⟨0, none, 0, [], rfl, by omega, rfl, (cur_zero r n).symm, by simp, World.ownsRow_nil _ _ _ _, Below.refl _ _⟩
  case round =>
    obtain ⟨L, A, c, N, rfl, hL, rfl, hI⟩ := hrel
    obtain ⟨wo, rfl⟩ : ∃ V, V = wr := ⟨_, rfl⟩
    by_cases hLn : L < n
    · have HI := Lib.hid hI
      clear hI
      go_wp2_with fail
      go_loopw [7, 9, 27] (fun out _ ii wr => ∃ (i : Nat) (A : Option Addr) (c : Nat) (N : List Nat), ii = .int .i64 i ∧ i ≤ n ∧ out = .slice A N.length c ∧ OI r n L i w1 N (.slice A N.length c) wr) (fun _ _ ii _ => n - (intOf ii).toNat)
      case atStart => exact ⟨0, A, c, N, rfl, by omega, rfl, HI.out⟩
      case round =>
        obtain ⟨i, A, c, N, rfl, hin, rfl, hI⟩ := hrel
        by_cases hil : i < n
        · have hcl := HC.out wr hI.below i hil
          have hii : (i : Int) < (n : Int) := by omega
          by_cases hrv : rk r i = (L : Int)
          · have hstep : ∀ gg cap w6, w6.ownsRow w1.heap.size 3 1 (.slice (some ⟨gg, 0, none⟩) (N.length + 1) cap) (N.length + 1) (nV N ++ [.int .i64 (i : Int)]) → (wr.alloc (.cells #[.int .i64 (i : Int)] 3)).grownBy w6 (Value.slice A N.length c).ownBlock → OI r n L (i + 1) w1 (N ++ [i]) (.slice (some ⟨gg, 0, none⟩) (N ++ [i]).length cap) w6 := fun gg cap w6 h1 h2 => hI.step hrv h1 h2
            have t1 : ((rk r i : Int) == (L : Int)) = true := beq_iff_eq.2 hrv
            have hfew := hI.few
            have hszw := hI.below.size
            have HStep := Lib.hid hstep
            have HOwn := Lib.hid hI.own
            have hel : ∀ (A B : List Nat), A.length = B.length → True := fun _ _ _ => trivial
            generalize rk r i = rv at hcl t1
            clear hstep hI hrv hel
            obtain ⟨ln, hln⟩ : ∃ ln, N.length = ln := ⟨_, rfl⟩
            rw [hln] at HOwn hfew ⊢
            have HLn := Lib.hid hln
            clear hln
            go_wp2_with (at_builtin; refine wpList_append_lies _ rfl _ _ 23 rfl w1.heap.size 3 i0 (.int .i64 0) 1 8 Tryz.underlying23 hi hz0 hz1 hz2 rfl (by decide) (.slice A ln c) ln (nV N) rfl (HOwn.out.alloc _) ⟨wr.heap.size, 0, none⟩ 1 1 [.int .i64 (i : Int)] rfl rfl (World.news_of_block (cs := #[.int .i64 (i : Int)]) (t := 3) (fr := (0, 0)) (World.alloc_heap_new wr _)) (by simp [Value.oneCell']) (by decide) (by unfold maxLen; omega) (by omega) (by simp; omega) (wr.heap.size + 1) (by simp) ?_)
            intro gg cap w6 hown6 hgrow6 _ _
            have hN := HStep.out gg cap w6 (by rw [HLn.out]; exact hown6) (by rw [HLn.out]; exact hgrow6)
            have HN := Lib.hid hN
            have HLe := Lib.hid (show (N ++ [i]).length = ln + 1 by simp [HLn.out])
            clear hN hown6 hgrow6
            go_wp2_with fail
            go_roundw
            case rel => exact ⟨i + 1, _, _, N ++ [i], by go_num, by omega, by rw [HLe.out], HN.out⟩
            case measure => simp [intOf]; omega
          · have t1 : ((rk r i : Int) == (L : Int)) = false := beq_eq_false_iff_ne.2 hrv
            have HN := Lib.hid (hI.skip hrv)
            generalize rk r i = rv at hcl t1
            clear hI hrv
            go_wp2_with fail
            go_roundw
            case rel => exact ⟨i + 1, _, _, _, by go_num, by omega, rfl, HN.out⟩
            case measure => simp [intOf]; omega
        · have ei : i = n := by omega
          rw [ei] at hI ⊢
          have HN := Lib.hid (hI.next hn)
          clear hI ei hin hil
          go_wp2_with fail
          go_roundw
          case rel => exact ⟨L + 1, _, _, _, by go_num, by omega, rfl, HN.out⟩
          case measure => simp [intOf]; omega
    · have eL : L = n := by omega
      rw [eL] at hI ⊢
      have hv := hI.val
      rw [cur_last] at hv
      have hfin : w1.heap.size ≤ wo.heap.size := hI.below.size
      have hown := own_base hI.own HB.out.size
      have hbw := b_trans HB.out hI.below
      clear hI eL hL hLn
      subst hv
      have HO := Lib.hid hown
      have HBw := Lib.hid hbw
      clear hown hbw hfin
      go_wp2_with fail
      exact bodyPost_ret (v := .tuple #[.slice A (lvlL r n).length c, .int .i64 0]) (by simp [results, Tryz.results11, go_sem]) rfl ⟨A, c, rfl, HO.out, HBw.out⟩
/-! ### FieldHangs -/
def passI (ns : List (List Nat)) (H : List Nat) (i q : Nat) : List Nat := if (((nd ns i).take q).any fun j => decide (j ∈ H)) = true ∧ ¬ i ∈ H then H ++ [i] else H
theorem passI_zero (ns : List (List Nat)) (H : List Nat) (i : Nat) : passI ns H i 0 = H := by unfold passI; simp
theorem passI_last (ns : List (List Nat)) (H : List Nat) (k : Nat) : passI ns (passH ns H k) k (nd ns k).length = passH ns H (k + 1) := by
  unfold passI
  rw [List.take_length]
  conv => rhs; unfold passH
theorem passI_succ (ns : List (List Nat)) (H : List Nat) (i q : Nat) (hq : q < (nd ns i).length) : passI ns H i (q + 1) = if (nd ns i)[q] ∈ passI ns H i q ∧ ¬ i ∈ passI ns H i q then passI ns H i q ++ [i] else passI ns H i q := by
  have e : (((nd ns i).take (q + 1)).any fun j => decide (j ∈ H)) = ((((nd ns i).take q).any fun j => decide (j ∈ H)) || decide ((nd ns i)[q] ∈ H)) := by
    rw [List.take_succ_eq_append_getElem hq, List.any_append]; simp
  by_cases hi : i ∈ H
  · have h1 : ∀ q, passI ns H i q = H := fun q => by unfold passI; rw [if_neg (fun h => h.2 hi)]
    rw [h1, h1, if_neg (fun h => h.2 hi)]
  · by_cases ht : (((nd ns i).take q).any fun j => decide (j ∈ H)) = true
    · have h1 : passI ns H i q = H ++ [i] := by unfold passI; rw [if_pos ⟨ht, hi⟩]
      have h2 : passI ns H i (q + 1) = H ++ [i] := by unfold passI; rw [if_pos ⟨by rw [e, ht]; rfl, hi⟩]
      rw [h1, h2, if_neg (fun h => h.2 (by simp))]
    · have h1 : passI ns H i q = H := by unfold passI; rw [if_neg (fun h => ht h.1)]
      rw [h1]
      have ht2 : (((nd ns i).take q).any fun j => decide (j ∈ H)) = false := by simpa using ht
      unfold passI
      rw [e, ht2, Bool.false_or]
      by_cases h : (nd ns i)[q] ∈ H <;> simp [h, hi]
theorem hasB_nm {nm : Nat → ByteArray} {n : Nat} (hinj : ∀ i j, i < n → j < n → nm i = nm j → i = j) {H : List Nat} (hH : ∀ x ∈ H, x < n) (x : Nat) (hx : x < n) : hasB (H.map nm) (nm x) = decide (x ∈ H) := by
  rw [Bool.eq_iff_iff, hasB_true, decide_eq_true_eq, List.mem_map]
  constructor
  · rintro ⟨y, hy, e⟩
    rwa [← hinj y x (hH y hy) hx e]
  · intro h; exact ⟨x, h, rfl⟩
theorem passI_len (ns : List (List Nat)) (H : List Nat) (i q : Nat) : (passI ns H i q).length ≤ H.length + 1 := by
  unfold passI
  split
  · simp
  · omega
theorem passI_lt {ns : List (List Nat)} {H : List Nat} {i n : Nat} (q : Nat) (hi : i < n) (hH : ∀ x ∈ H, x < n) : ∀ x ∈ passI ns H i q, x < n := fun x hx => by
  unfold passI at hx
  split at hx
  · rcases List.mem_append.1 hx with hx | hx
    · exact hH x hx
    · obtain rfl : x = i := by simpa using hx
      exact hi
  · exact hH x hx
structure HS (w : World) (nm : Nat → ByteArray) (n b : Nat) (H0 H : List Nat) (v : Value) (wr : World) : Prop where
  val : H = H0
  few : H.length ≤ b
  lt : ∀ x ∈ H, x < n
  own : wr.ownsRow w.heap.size 9 1 v H.length (strV (H.map nm))
  below : Below w.heap.size w wr
theorem HS.own' {w : World} {nm : Nat → ByteArray} {n b : Nat} {H0 H : List Nat} {v : Value} {wr : World} (h : HS w nm n b H0 H v wr) : wr.ownsRow w.heap.size 9 1 v (H.map nm).length (strV (H.map nm)) := by rw [List.length_map]; exact h.own
theorem HS.to {w : World} {nm : Nat → ByteArray} {n b b' : Nat} {H0 H1 H : List Nat} {v : Value} {wr w' : World} (h : HS w nm n b H0 H v wr) (hb : Below wr.heap.size wr w') (e : H0 = H1) (hbb : H.length ≤ b') : HS w nm n b' H1 H v w' :=
  ⟨h.val.trans e, hbb, h.lt, GenL.own_below h.own hb, b_trans h.below hb⟩
set_option maxRecDepth 100000 in
set_option maxHeartbeats 8000000 in
/-- FieldHangs, where FieldRanks has told ranks and the name is there. -/
theorem refHangs_any (ns : List (List Nat)) (nm : Nat → ByteArray) (n p : Nat) (FA : Option Addr) (fc : Nat) (w : World) (hn1 : 1 ≤ n) (hn : n ≤ 14) (hp : p < n) (hnl : ns.length = n)
    (hof : Calls Tryz.prog 6 #[.slice FA n fc] w fun e w' => ∃ v, e = .returned (.tuple #[v, .slice none 0 0, .int .i64 0]) ∧ Below w.heap.size w w')
    (hfi : ∀ V, Below w.heap.size w V → Calls Tryz.prog 21 #[.slice FA n fc, .string (nm p)] V fun e w' => e = .returned (.int .i64 (p : Int)) ∧ Below V.heap.size V w')
    (hinj : ∀ i j, i < n → j < n → nm i = nm j → i = j) (hok : ∀ i, i < n → (nd ns i).length ≤ 1000 ∧ ∀ j ∈ nd ns i, j < n)
    (hfl : ∀ V, Below w.heap.size w V → ∀ i, i < n → ∃ (ad : Addr) (f : GenL.Fd), FA = some ad ∧ FdAt V (ad.add (i * 9)) f ∧ f.nm = nm i ∧ ∀ V', Below w.heap.size w V' → Calls Tryz.prog 19 #[.agg #[.string f.nm, .int .i64 f.kind, .int .i64 f.ty, .int .i64 f.d.op, .int .i64 f.d.k, .int .i64 f.d.n, .string f.d.s, .string f.d.nm, .slice f.A f.n f.c]] V' (SrcOut ((nd ns i).map nm) V')) :
    Calls Tryz.prog 12 #[.slice FA n fc, .string (nm p)] w fun e w' => ∃ A c, e = .returned (.tuple #[.slice A ((List.range n).filter fun i => decide (i ∈ onH ns p n)).length c, .int .i64 0]) ∧ w'.ownsRow w.heap.size 3 1 (.slice A ((List.range n).filter fun i => decide (i ∈ onH ns p n)).length c) ((List.range n).filter fun i => decide (i ∈ onH ns p n)).length (nV ((List.range n).filter fun i => decide (i ∈ onH ns p n))) ∧ Below w.heap.size w w' := by
  obtain ⟨i0, hi, hz0, hz1, hz2⟩ := info_parts1 infoInt
  obtain ⟨s0, hsi, hsz0, hsz1, hsz2⟩ := info_parts1 NmA.infoStr
  have tp : ((p : Int) == (n : Int)) = false := beq_eq_false_iff_ne.2 (by omega)
  have HOf := Lib.hid hof
  have HFi := Lib.hid hfi
  have HInj := Lib.hid hinj
  have HOk := Lib.hid hok
  have HFl := Lib.hid hfl
  have HNl := Lib.hid hnl
  clear hof hfi hinj hok hfl hnl
  go_enter Tryz.func12, Tryz.ntmps12
  go_wp2_with fail
  refine HOf.out.mono ?_; rintro e w1 ⟨v, rfl, hb1⟩
  have HB1 := Lib.hid hb1
  clear hb1
  go_wp2_with (go_at_call 21; refine (HFi.out _ HB1.out).mono ?_; rintro e w2 ⟨rfl, hb2⟩; have HB2 := Lib.hid (b_trans HB1.out hb2); clear hb2)
  obtain ⟨W3, hW3⟩ : ∃ V, w2.alloc (.cells #[.string (nm p)] 9) = V := ⟨_, rfl⟩
  have hH0 : HS w nm n 1 [p] [p] (.slice (some ⟨w2.heap.size, 0, none⟩) 1 1) W3 := by
    rw [← hW3]
    refine ⟨rfl, by simp, fun x hx => by simp at hx; omega, ?_, b_trans HB2.out (b_new _ _)⟩
    exact World.ownsRow_lit w2 #[.string (nm p)] 1 HB2.out.size (by unfold maxLen; omega) rfl
  have HH0 := Lib.hid hH0
  have HW3 := Lib.hid hW3
  clear hH0 hW3
  go_wp2_with fail
  rw [HW3.out]
  go_loopw [9, 36] (fun on ii wr => ∃ (m : Nat) (A : Option Addr) (c : Nat) (H : List Nat), ii = .int .i64 m ∧ m ≤ n ∧ on = .slice A H.length c ∧ HS w nm n (1 + 14 * m) (onH ns p m) H (.slice A H.length c) wr) (fun _ ii _ => n - (intOf ii).toNat)
  case atStart => exact ⟨0, _, _, [p], rfl, by omega, rfl, HH0.out⟩
  case round =>
    obtain ⟨m, A, c, H, rfl, hm, rfl, hI⟩ := hrel
    obtain ⟨wa, rfl⟩ : ∃ V, V = wr := ⟨_, rfl⟩
    by_cases hmn : m < n
    · have HI := Lib.hid hI
      clear hI
      go_wp2_with fail
      go_loopw [9, 11, 13, 40] (fun on _ _ ii wr => ∃ (k : Nat) (A : Option Addr) (c : Nat) (H : List Nat), ii = .int .i64 k ∧ k ≤ n ∧ on = .slice A H.length c ∧ HS w nm n (1 + 14 * m + k) (passH ns (onH ns p m) k) H (.slice A H.length c) wr) (fun _ _ _ ii _ => n - (intOf ii).toNat)
      case atStart => exact ⟨0, A, c, H, rfl, by omega, rfl, HI.out⟩
      case round =>
        obtain ⟨k, A, c, H, rfl, hkn, rfl, hI⟩ := hrel
        obtain ⟨wb, rfl⟩ : ∃ V, V = wr := ⟨_, rfl⟩
        by_cases hkl : k < n
        · obtain ⟨ad, f, rfl, hat, hfn, hsrc⟩ := HFl.out wb hI.below k hkl
          obtain ⟨q0, q1, q2, q3, q4, q5, q6, q7, q8⟩ := hat
          have hki : (k : Int) < (n : Int) := by omega
          obtain ⟨W5, hW5⟩ : ∃ V, wb.alloc (.cells #[.string f.nm, .int .i64 f.kind, .int .i64 f.ty, .int .i64 f.d.op, .int .i64 f.d.k, .int .i64 f.d.n, .string f.d.s, .string f.d.nm, .slice f.A f.n f.c] 48) = V := ⟨_, rfl⟩
          obtain ⟨B9, hB9⟩ : ∃ B, wb.heap.size = B := ⟨_, rfl⟩
          have hb5 := b_new wb (.cells #[.string f.nm, .int .i64 f.kind, .int .i64 f.ty, .int .i64 f.d.op, .int .i64 f.d.k, .int .i64 f.d.n, .string f.d.s, .string f.d.nm, .slice f.A f.n f.c] 48)
          have hcell := head_cells wb f
          unfold rightHead at hcell
          rw [hW5, hB9] at hcell
          rw [hW5] at hb5
          obtain ⟨x0, x1, x2, x3, x4, x5, x6, x7, x8⟩ := hcell W5 (Below.refl _ _)
          have hbw5 := b_trans hI.below hb5
          have hwb5 : wb.heap.size < W5.heap.size := by rw [← hW5]; simp
          obtain ⟨ob, hob⟩ : ∃ ob, (Value.slice A H.length c).ownBlock = ob := ⟨_, rfl⟩
          have hobl : ∀ g, ob = some g → g < B9 := fun g e => by rw [← hB9]; exact (hI.own.lt g (hob.trans e)).2
          rw [hB9] at hwb5
          have hsr := hsrc W5 hbw5
          have HI2 := Lib.hid (hI.to hb5 rfl hI.few)
          have HSr := Lib.hid hsr
          have HCell := Lib.hid hcell
          have HW5 := Lib.hid hW5
          have HB9 := Lib.hid hB9
          have HFn := Lib.hid hfn
          clear hI hb5 hcell hW5 hB9 hsrc hsr hbw5 hfn
          go_upto_region 12 with fail
          rw [HW5.out, HB9.out]
          go_wp2_with fail
          refine HSr.out.mono ?_; rintro e w6 ⟨vs, rfl, howns, hb6⟩
          obtain ⟨As, cs, rfl, hss⟩ := SRow.of_own howns
          obtain ⟨ln, hln⟩ : ∃ ln, ((nd ns k).map nm).length = ln := ⟨_, rfl⟩
          have hln2 : (nd ns k).length = ln := by rw [← hln, List.length_map]
          have hfew := HI2.out.few
          have hI6 := HI2.out.to (b' := 1 + 14 * m + k + 1) (H1 := passI ns (passH ns (onH ns p m) k) k 0) hb6 (passI_zero _ _ _).symm (by omega)
          have hbase : (passH ns (onH ns p m) k).length ≤ 1 + 14 * m + k := by rw [← HI2.out.val]; exact hfew
          have HI6 := Lib.hid hI6
          have HBase := Lib.hid hbase
          have HLn2 := Lib.hid hln2
          have hl1000 : ln ≤ 1000 := by have := (HOk.out k hkl).1; omega
          have hsc : ∀ q (hq : q < (nd ns k).length), ∃ gs, As = some ⟨gs, 0, none⟩ ∧ W5.heap.size ≤ gs ∧ w6.cell? ⟨gs, q, none⟩ = some (.string (nm (nd ns k)[q])) := fun q hq => by
            obtain ⟨gs, e, h⟩ := hss q (by rw [List.length_map]; exact hq)
            exact ⟨gs, e, (howns.lt gs (by rw [e]; rfl)).1, by rw [List.getElem_map] at h; exact h⟩
          have h6sz := hb6.size
          have hy6 := (HCell.out w6 hb6).1
          have HY6 := Lib.hid hy6
          have HObl := Lib.hid hobl
          have HOb := Lib.hid hob
          have HSc := Lib.hid hsc
          have HB6 := Lib.hid hb6
          rw [hln]
          clear hln hln2 hfew hI6 hbase hss howns hb6 hsc HSr hy6 hobl hob
          go_wp2_with fail
          go_loopw [9, 13, 47] (fun on _ ii wr => ∃ (q : Nat) (A : Option Addr) (c : Nat) (H : List Nat), ii = .int .i64 q ∧ q ≤ ln ∧ on = .slice A H.length c ∧ HS w nm n (1 + 14 * m + k + 1) (passI ns (passH ns (onH ns p m) k) k q) H (.slice A H.length c) wr ∧ w6.grownBy wr ob ∧ ((Value.slice A H.length c).ownBlock = ob ∨ ∃ g, (Value.slice A H.length c).ownBlock = some g ∧ w6.heap.size ≤ g)) (fun _ _ ii _ => ln - (intOf ii).toNat)
          case atStart => exact ⟨0, A, c, H, rfl, by omega, rfl, HI6.out, ⟨rfl, rfl, rfl, Nat.le_refl _, fun _ _ _ => rfl⟩, .inl HOb.out⟩
          case round =>
            obtain ⟨q, A, c, H, rfl, hq, rfl, hI, hgr, hblk⟩ := hrel
            by_cases hql : q < ln
            · have hqn : q < (nd ns k).length := by rw [HLn2.out]; exact hql
              obtain ⟨gs, rfl, hgs, hcs⟩ := HSc.out q hqn
              have hcs := (World.cell?_of_block (a := ⟨gs, q, none⟩) (hgr.block gs (World.block_lt_of_cell? w6 _ hcs) (fun e => by have := HObl.out gs e.symm; omega))).trans hcs
              have hxn := (HOk.out k hkl).2 _ (List.getElem_mem hqn)
              have hps := passI_succ ns (passH ns (onH ns p m) k) k q hqn
              have hpl := passI_len ns (passH ns (onH ns p m) k) k (q + 1)
              rw [← hI.val] at hps
              generalize (nd ns k)[q] = x at hcs hxn hps
              have y0 := (World.cell?_of_block (a := ⟨B9, 0, none⟩) (hgr.block B9 (World.block_lt_of_cell? w6 _ HY6.out) (fun e => by have := HObl.out B9 e.symm; omega))).trans HY6.out
              have hlt := hI.lt
              have hb1 := hasB_nm HInj.out hlt x hxn
              have hb2 := hasB_nm HInj.out hlt k hkl
              rw [← HFn.out] at hb2
              obtain ⟨A', c', ev, hsr⟩ := SRow.of_own hI.own'
              rw [List.length_map] at ev
              injection ev with ev1 ev2 ev3
              subst ev1 ev3
              have hfew := hI.few
              have hh1 := holds_any (H.map nm) (nm x) A c wr (by rw [List.length_map]; omega) hsr
              have hh2 := holds_any (H.map nm) f.nm A c wr (by rw [List.length_map]; omega) hsr
              rw [hb1, List.length_map] at hh1
              rw [hb2, List.length_map] at hh2
              generalize nm x = sx at hcs hh1
              have hqi : (q : Int) < (ln : Int) := by omega
              have hskip : ¬ (x ∈ H ∧ ¬ k ∈ H) → HS w nm n (1 + 14 * m + k + 1) (passI ns (passH ns (onH ns p m) k) k (q + 1)) H (.slice A H.length c) wr := fun h => hI.to (Below.refl _ _) (by rw [hps, if_neg h]; exact hI.val.symm) hI.few
              have hstep : x ∈ H → ¬ k ∈ H → ∀ gg cap w7, w7.ownsRow w.heap.size 9 1 (.slice (some ⟨gg, 0, none⟩) (H.length + 1) cap) (H.length + 1) (strV (H.map nm) ++ [.string f.nm]) → (wr.alloc (.cells #[.string f.nm] 9)).grownBy w7 (Value.slice A H.length c).ownBlock → ((Value.slice A H.length c).ownBlock = some gg ∨ gg = wr.heap.size + 1) →
                  HS w nm n (1 + 14 * m + k + 1) (passI ns (passH ns (onH ns p m) k) k (q + 1)) (H ++ [k]) (.slice (some ⟨gg, 0, none⟩) (H ++ [k]).length cap) w7 ∧ w6.grownBy w7 ob ∧ ((Value.slice (some ⟨gg, 0, none⟩) (H ++ [k]).length cap).ownBlock = ob ∨ ∃ g, (Value.slice (some ⟨gg, 0, none⟩) (H ++ [k]).length cap).ownBlock = some g ∧ w6.heap.size ≤ g) := fun hx hk gg cap w7 h1 h2 h3 => by
                rw [if_pos ⟨hx, hk⟩] at hps
                have el : (H ++ [k]).length = H.length + 1 := by simp
                have hbb := b_trans hI.below (b_new wr (.cells #[.string f.nm] 9))
                have hs := hgr.size
                have hs6 := h2.size
                rw [World.size_alloc] at hs6
                refine ⟨⟨hps.symm, by rw [← hps]; have := HBase.out; omega, fun y hy => ?_, ?_, hbb.grown h2 hbb.size (fun g e => (hI.own.lt g e).1)⟩, ⟨h2.os.trans hgr.os, h2.tape.trans hgr.tape, h2.output.trans hgr.output, by omega, fun b hb hne => ?_⟩, ?_⟩
                · rcases List.mem_append.1 hy with hy | hy
                  · exact hlt y hy
                  · obtain rfl : y = k := by simpa using hy
                    exact hkl
                · rw [el, List.map_append, strV_append]
                  have : strV (List.map nm [k]) = [.string f.nm] := by rw [HFn.out]; rfl
                  rw [this]; exact h1
                · refine (h2.block b (by rw [World.size_alloc]; omega) (fun e => ?_)).trans (((b_new wr _).block b (by omega)).trans (hgr.block b hb hne))
                  rcases hblk with hb1 | ⟨g, hb1, hb2⟩
                  · exact hne (e.trans hb1)
                  · rw [hb1] at e; injection e; omega
                · rcases h3 with e | e
                  · rcases hblk with hb1 | ⟨g, hb1, hb2⟩
                    · exact .inl (e.symm.trans hb1)
                    · exact .inr ⟨g, e.symm.trans hb1, hb2⟩
                  · exact .inr ⟨gg, rfl, by omega⟩
              have hownA := fun o : Obj => hI.own.alloc o
              have hszw := hI.below.size
              have HSkip := Lib.hid (fun h => And.intro (hskip h) (And.intro hgr hblk))
              have HStep := Lib.hid hstep
              have HOwnA := Lib.hid hownA
              have HH1 := Lib.hid hh1
              have HH2 := Lib.hid hh2
              have hl1 : (H ++ [k]).length = H.length + 1 := by simp
              obtain ⟨hl, hhl⟩ : ∃ hl, H.length = hl := ⟨_, rfl⟩
              rw [hhl] at hl1 hfew HOwnA HH1 HH2 HSkip HStep ⊢
              have HL1 := Lib.hid hl1
              have HHl := Lib.hid hhl
              clear hskip hstep hownA hh1 hh2 hI hgr hblk hb1 hb2 hsr ev2 hps hpl hlt hhl hl1 hxn
              by_cases hxH : x ∈ H
              · by_cases hkH : k ∈ H
                · have hn9 := HSkip.out (fun h => h.2 hkH)
                  rw [decide_eq_true hxH] at HH1
                  rw [decide_eq_true hkH] at HH2
                  have HN := Lib.hid hn9
                  clear hn9 HSkip HStep hxH hkH
                  go_wp2_with fail
                  refine HH1.out.mono ?_; rintro e w8 ⟨rfl, rfl⟩
                  go_wp2_with fail
                  refine HH2.out.mono ?_; rintro e w8 ⟨rfl, rfl⟩
                  go_wp2_with fail
                  go_roundw
                  case rel => exact ⟨q + 1, A, c, H, by go_num, by omega, by rw [HHl.out], by rw [HHl.out]; exact HN.out⟩
                  case measure => simp [intOf]; omega
                · have hst := HStep.out hxH hkH
                  rw [decide_eq_true hxH] at HH1
                  rw [decide_eq_false hkH] at HH2
                  have HSt := Lib.hid hst
                  clear hst HSkip HStep hxH hkH
                  go_wp2_with fail
                  refine HH1.out.mono ?_; rintro e w8 ⟨rfl, rfl⟩
                  go_wp2_with fail
                  refine HH2.out.mono ?_; rintro e w8 ⟨rfl, rfl⟩
                  go_wp2_with (at_builtin; refine wpList_append_lies _ rfl _ _ 24 rfl w.heap.size 9 s0 (.string ⟨#[]⟩) 1 16 Tryz.underlying24 hsi hsz0 hsz1 hsz2 rfl (by decide) (.slice A hl c) hl (strV (H.map nm)) rfl (HOwnA.out _) ⟨wr.heap.size, 0, none⟩ 1 1 [.string f.nm] rfl rfl (World.news_of_block (cs := #[.string f.nm]) (t := 9) (fr := (0, 0)) (World.alloc_heap_new wr _)) (by simp [Value.oneCell']) (by decide) (by unfold maxLen; omega) (by omega) (by simp; omega) (wr.heap.size + 1) (by simp) ?_)
                  intro gg cap w7 hown7 hgrow7 hat7 _
                  have hn9 := HSt.out gg cap w7 hown7 hgrow7 hat7
                  have HN := Lib.hid hn9
                  clear hn9 hown7 hgrow7 hat7 HSt
                  go_wp2_with fail
                  go_roundw
                  case rel => exact ⟨q + 1, some ⟨gg, 0, none⟩, cap, H ++ [k], by go_num, by omega, by rw [HL1.out], HN.out⟩
                  case measure => simp [intOf]; omega
              · have hn9 := HSkip.out (fun h => hxH h.1)
                rw [decide_eq_false hxH] at HH1
                have HN := Lib.hid hn9
                clear hn9 HSkip HStep hxH
                go_wp2_with fail
                refine HH1.out.mono ?_; rintro e w8 ⟨rfl, rfl⟩
                go_wp2_with fail
                go_roundw
                case rel => exact ⟨q + 1, A, c, H, by go_num, by omega, by rw [HHl.out], by rw [HHl.out]; exact HN.out⟩
                case measure => simp [intOf]; omega
            · have eq : q = ln := by omega
              rw [eq] at hI ⊢
              have hpv : passI ns (passH ns (onH ns p m) k) k ln = passH ns (onH ns p m) (k + 1) := by rw [← HLn2.out]; exact passI_last _ _ _
              have HN := Lib.hid (hI.to (Below.refl _ _) hpv hI.few)
              clear hI hq hql eq hpv
              go_wp2_with fail
              go_roundw
              case rel => exact ⟨k + 1, _, _, _, by go_num, by omega, rfl, HN.out⟩
              case measure => simp [intOf]; omega
        · have ek : k = n := by omega
          rw [ek] at hI ⊢
          have HN := Lib.hid (hI.to (b' := 1 + 14 * (m + 1)) (H1 := onH ns p (m + 1)) (Below.refl _ _) (by rw [← HNl.out]; rfl) (by have := hI.few; omega))
          clear hI ek hkl hkn
          go_wp2_with fail
          go_roundw
          case rel => exact ⟨m + 1, _, _, _, by go_num, by omega, rfl, HN.out⟩
          case measure => simp [intOf]; omega
    · have em : m = n := by omega
      rw [em] at hI ⊢
      have hfew := hI.few
      have hbwa := hI.below
      obtain ⟨A', c', ev, hsr⟩ := SRow.of_own hI.own'
      rw [List.length_map] at ev
      injection ev with ev1 ev2 ev3
      subst ev1 ev3
      have hhas := fun x (hx : x < n) => hasB_nm HInj.out hI.lt x hx
      have hhold : ∀ V, Below wa.heap.size wa V → ∀ x, x < n → Calls Tryz.prog 20 #[.slice A H.length c, .string (nm x)] V fun e w' => e = .returned (.bool (decide (x ∈ H))) ∧ V = w' := fun V hV x hx => by
        have := holds_any (H.map nm) (nm x) A c V (by rw [List.length_map]; omega) (NmT.SRow.below hsr hV)
        rw [hhas x hx, List.length_map] at this
        exact this
      have HVal := Lib.hid hI.val
      have HHold := Lib.hid hhold
      have HBwa := Lib.hid hbwa
      clear hI hsr hhas hhold ev2 em hm hmn hbwa
      generalize H.length = hl at HHold ⊢
      go_wp2_with fail
      go_loopw [14, 15, 16, 71] (fun out _ _ ii wr => ∃ (i : Nat) (A2 : Option Addr) (c2 : Nat) (N : List Nat), ii = .int .i64 i ∧ i ≤ n ∧ out = .slice A2 N.length c2 ∧ N = (List.range i).filter (fun j => decide (j ∈ H)) ∧ N.length ≤ i ∧ wr.ownsRow wa.heap.size 3 1 (.slice A2 N.length c2) N.length (nV N) ∧ Below wa.heap.size wa wr) (fun _ _ _ ii _ => n - (intOf ii).toNat)
      case atStart => exact ⟨0, none, 0, [], rfl, by omega, rfl, rfl, by simp, World.ownsRow_nil _ _ _ _, Below.refl _ _⟩
      case round =>
        obtain ⟨i, A2, c2, N, rfl, hin, rfl, hN, hNl, hown, hbr⟩ := hrel
        obtain ⟨wb, rfl⟩ : ∃ V, V = wr := ⟨_, rfl⟩
        by_cases hil : i < n
        · obtain ⟨ad, f, rfl, hat, hfn, _⟩ := HFl.out wb (b_trans HBwa.out hbr) i hil
          obtain ⟨q0, q1, q2, q3, q4, q5, q6, q7, q8⟩ := hat
          have hii : (i : Int) < (n : Int) := by omega
          obtain ⟨W5, hW5⟩ : ∃ V, wb.alloc (.cells #[.string f.nm, .int .i64 f.kind, .int .i64 f.ty, .int .i64 f.d.op, .int .i64 f.d.k, .int .i64 f.d.n, .string f.d.s, .string f.d.nm, .slice f.A f.n f.c] 48) = V := ⟨_, rfl⟩
          obtain ⟨B9, hB9⟩ : ∃ B, wb.heap.size = B := ⟨_, rfl⟩
          have hb5 := b_new wb (.cells #[.string f.nm, .int .i64 f.kind, .int .i64 f.ty, .int .i64 f.d.op, .int .i64 f.d.k, .int .i64 f.d.n, .string f.d.s, .string f.d.nm, .slice f.A f.n f.c] 48)
          have hcell := head_cells wb f
          unfold rightHead at hcell
          rw [hW5, hB9] at hcell
          rw [hW5] at hb5
          obtain ⟨x0, _⟩ := hcell W5 (Below.refl _ _)
          have hbr5 := b_trans hbr hb5
          have hown5 := GenL.own_below hown hb5
          have hh := HHold.out W5 hbr5 i hil
          rw [← hfn] at hh
          have hnx : (List.range (i + 1)).filter (fun j => decide (j ∈ H)) = if i ∈ H then N ++ [i] else N := by
            rw [List.range_succ, List.filter_append, ← hN]
            by_cases h : i ∈ H
            · rw [if_pos h]; simp [h]
            · rw [if_neg h]; simp [h]
          have hgr : ∀ gg cap w7, w7.ownsRow wa.heap.size 3 1 (.slice (some ⟨gg, 0, none⟩) (N.length + 1) cap) (N.length + 1) (nV N ++ [.int .i64 (i : Int)]) → (W5.alloc (.cells #[.int .i64 (i : Int)] 3)).grownBy w7 (Value.slice A2 N.length c2).ownBlock → w7.ownsRow wa.heap.size 3 1 (.slice (some ⟨gg, 0, none⟩) (N ++ [i]).length cap) (N ++ [i]).length (nV (N ++ [i])) ∧ Below wa.heap.size wa w7 := fun gg cap w7 h1 h2 => by
            have hbb := b_trans hbr5 (b_new W5 (.cells #[.int .i64 (i : Int)] 3))
            refine ⟨?_, hbb.grown h2 hbb.size (fun k e => (hown5.lt k e).1)⟩
            rw [show (N ++ [i]).length = N.length + 1 by simp, nV_snoc]; exact h1
          have hownA := fun o : Obj => hown5.alloc o
          have hszw := hbr5.size
          have hl1 : (N ++ [i]).length = N.length + 1 := by simp
          have HGr := Lib.hid hgr
          have HOwnA := Lib.hid hownA
          have HO5 := Lib.hid (And.intro hown5 hbr5)
          have HH := Lib.hid hh
          have HNx := Lib.hid hnx
          have HW5 := Lib.hid hW5
          have HB9 := Lib.hid hB9
          obtain ⟨nl, hnl⟩ : ∃ nl, N.length = nl := ⟨_, rfl⟩
          rw [hnl] at hl1 hNl HGr HOwnA HO5 ⊢
          have HL1 := Lib.hid hl1
          have HNl2 := Lib.hid hnl
          clear hN hown hbr hcell hb5 hbr5 hown5 hh hnx hgr hownA hW5 hB9 hl1 hnl hfn
          by_cases hiH : i ∈ H
          · rw [decide_eq_true hiH] at HH
            have HNx2 := Lib.hid (HNx.out.trans (if_pos hiH))
            clear hiH
            go_upto_region 24 with fail
            rw [HW5.out, HB9.out]
            go_wp2_with fail
            refine HH.out.mono ?_; rintro e w8 ⟨rfl, rfl⟩
            go_wp2_with (at_builtin; refine wpList_append_lies _ rfl _ _ 23 rfl wa.heap.size 3 i0 (.int .i64 0) 1 8 Tryz.underlying23 hi hz0 hz1 hz2 rfl (by decide) (.slice A2 nl c2) nl (nV N) rfl (HOwnA.out _) ⟨W5.heap.size, 0, none⟩ 1 1 [.int .i64 (i : Int)] rfl rfl (World.news_of_block (cs := #[.int .i64 (i : Int)]) (t := 3) (fr := (0, 0)) (World.alloc_heap_new W5 _)) (by simp [Value.oneCell']) (by decide) (by unfold maxLen; omega) (by omega) (by simp; omega) (W5.heap.size + 1) (by simp) ?_)
            intro gg cap w7 hown7 hgrow7 _ _
            have hn9 := HGr.out gg cap w7 hown7 hgrow7
            have HN := Lib.hid hn9
            clear hn9 hown7 hgrow7
            go_wp2_with fail
            go_roundw
            case rel => exact ⟨i + 1, some ⟨gg, 0, none⟩, cap, N ++ [i], by go_num, by omega, by rw [HL1.out], HNx2.out.symm, by rw [HL1.out]; omega, HN.out⟩
            case measure => simp [intOf]; omega
          · rw [decide_eq_false hiH] at HH
            have HNx2 := Lib.hid (HNx.out.trans (if_neg hiH))
            clear hiH
            go_upto_region 24 with fail
            rw [HW5.out, HB9.out]
            go_wp2_with fail
            refine HH.out.mono ?_; rintro e w8 ⟨rfl, rfl⟩
            go_wp2_with fail
            go_roundw
            case rel => exact ⟨i + 1, A2, c2, N, by go_num, by omega, by rw [HNl2.out], HNx2.out.symm, by rw [HNl2.out]; omega, by rw [HNl2.out]; exact HO5.out⟩
            case measure => simp [intOf]; omega
        · have ei : i = n := by omega
          rw [ei, HVal.out] at hN
          have hfin := And.intro (own_base hown HBwa.out.size) (b_trans HBwa.out hbr)
          subst hN
          have HFin := Lib.hid hfin
          clear hfin hown hbr hNl
          go_wp2_with fail
          exact bodyPost_ret (v := .tuple #[.slice A2 ((List.range n).filter (fun i => decide (i ∈ onH ns p n))).length c2, .int .i64 0]) (by simp [results, Tryz.results12, go_sem]) rfl ⟨A2, c2, rfl, HFin.out⟩
end Go.Proofs.YthgcmficmodhiaaGreatDoor.RkL
