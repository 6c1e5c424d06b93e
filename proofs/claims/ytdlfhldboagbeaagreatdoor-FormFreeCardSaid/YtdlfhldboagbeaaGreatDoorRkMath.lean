/- Ranks, plainly: passes over the fields, each rank one more than the greatest of those that a field needs. -/
import Derived.WalkKit
namespace Go.Proofs.YtdlfhldboagbeaaGreatDoor.RkM
set_option linter.unusedVariables false

def rk (r : List Int) (i : Nat) : Int := r.getD i 0
def nd (ns : List (List Nat)) (i : Nat) : List Nat := ns.getD i []
/-- One more than the greatest rank of these, at least a; -1 where one of them has none. -/
def aboveI (r : List Int) : List Nat → Int → Int
  | [], a => a
  | i :: l, a => if rk r i = -1 then -1 else aboveI r l (max a (rk r i + 1))
def sweepN (ns : List (List Nat)) (r : List Int) : Nat → List Int
  | 0 => r
  | k + 1 => (sweepN ns r k).set k (aboveI (sweepN ns r k) (nd ns k) 0)
def passN (ns : List (List Nat)) : Nat → List Int
  | 0 => List.replicate ns.length (-1)
  | p + 1 => sweepN ns (passN ns p) ns.length
def rankF (ns : List (List Nat)) : List Int := passN ns ns.length

theorem above_un {r : List Int} : ∀ (l : List Nat) (a : Int), (∃ i ∈ l, rk r i = -1) → aboveI r l a = -1
  | [], a, ⟨i, h, _⟩ => by simp at h
  | j :: l, a, ⟨i, h, e⟩ => by
    unfold aboveI
    by_cases hj : rk r j = -1
    · rw [if_pos hj]
    · rw [if_neg hj]
      rcases List.mem_cons.1 h with rfl | h
      · exact absurd e hj
      · exact above_un l _ ⟨i, h, e⟩
theorem above_ok {r : List Int} : ∀ (l : List Nat) (a : Int), (∀ i ∈ l, 0 ≤ rk r i) → 0 ≤ a → a ≤ aboveI r l a ∧ (∀ i ∈ l, rk r i + 1 ≤ aboveI r l a) ∧ (aboveI r l a = a ∨ ∃ i ∈ l, aboveI r l a = rk r i + 1)
  | [], a, _, _ => ⟨Int.le_refl _, fun i h => by simp at h, .inl rfl⟩
  | j :: l, a, h, ha => by
    have hj := h j (by simp)
    unfold aboveI
    rw [if_neg (by omega)]
    obtain ⟨h1, h2, h3⟩ := above_ok l (max a (rk r j + 1)) (fun i hi => h i (by simp [hi])) (by omega)
    refine ⟨by omega, fun i hi => ?_, ?_⟩
    · rcases List.mem_cons.1 hi with rfl | hi
      · omega
      · exact h2 i hi
    · rcases h3 with h3 | ⟨i, hi, e⟩
      · by_cases hm : a ≤ rk r j + 1
        · exact .inr ⟨j, by simp, by omega⟩
        · exact .inl (by omega)
      · exact .inr ⟨i, by simp [hi], e⟩
theorem above_congr {r s : List Int} : ∀ (l : List Nat) (a : Int), (∀ i ∈ l, rk r i = rk s i) → aboveI r l a = aboveI s l a
  | [], _, _ => rfl
  | j :: l, a, h => by
    unfold aboveI
    rw [h j (by simp), above_congr l _ fun i hi => h i (by simp [hi])]
theorem above_le {r : List Int} {b : Int} (hb : 0 ≤ b) (h : ∀ i, rk r i ≤ b) : ∀ (l : List Nat) (a : Int), a ≤ b + 1 → aboveI r l a ≤ b + 1
  | [], a, ha => ha
  | j :: l, a, ha => by
    unfold aboveI
    have := h j
    split
    · omega
    · exact above_le hb h l _ (by omega)
theorem above_ge {r : List Int} (h : ∀ i, -1 ≤ rk r i) : ∀ (l : List Nat) (a : Int), -1 ≤ a → -1 ≤ aboveI r l a
  | [], a, ha => ha
  | j :: l, a, ha => by
    unfold aboveI
    split
    · omega
    · exact above_ge h l _ (by omega)
theorem rk_set (r : List Int) (k : Nat) (v : Int) (i : Nat) (hk : k < r.length) : rk (r.set k v) i = if i = k then v else rk r i := by
  unfold rk
  rw [List.getD_eq_getElem?_getD, List.getD_eq_getElem?_getD, List.getElem?_set]
  by_cases h : i = k
  · subst h; rw [if_pos rfl, if_pos hk, if_pos rfl]; rfl
  · rw [if_neg (fun e => h e.symm), if_neg h]
theorem sweep_len (ns : List (List Nat)) (r : List Int) : ∀ k, (sweepN ns r k).length = r.length
  | 0 => rfl
  | k + 1 => by unfold sweepN; rw [List.length_set, sweep_len ns r k]
theorem pass_len (ns : List (List Nat)) : ∀ p, (passN ns p).length = ns.length
  | 0 => by unfold passN; rw [List.length_replicate]
  | p + 1 => by unfold passN; rw [sweep_len, pass_len ns p]
theorem rankF_len (ns : List (List Nat)) : (rankF ns).length = ns.length := pass_len ns _
/-! ### bounds -/
def Bd (r : List Int) (b : Int) : Prop := ∀ i, -1 ≤ rk r i ∧ rk r i ≤ b
theorem bd_above {r : List Int} {b : Int} (h : Bd r b) (hb : 0 ≤ b) (l : List Nat) : -1 ≤ aboveI r l 0 ∧ aboveI r l 0 ≤ b + 1 := ⟨above_ge (fun i => (h i).1) l 0 (by omega), above_le hb (fun i => (h i).2) l 0 (by omega)⟩
theorem bd_sweep {ns : List (List Nat)} {r : List Int} {b : Int} (h : Bd r b) (hb : 0 ≤ b) (hl : r.length = ns.length) : ∀ k : Nat, k ≤ ns.length → Bd (sweepN ns r k) (b + (k : Int))
  | 0, _ => fun i => by have := h i; show -1 ≤ rk r i ∧ rk r i ≤ b + 0; omega
  | k + 1, hk => fun i => by
    have ih := bd_sweep h hb hl k (by omega)
    have hv := bd_above ih (by omega) (nd ns k)
    unfold sweepN
    rw [rk_set _ _ _ _ (by rw [sweep_len]; omega)]
    have := ih i
    split <;> omega
theorem bd_pass (ns : List (List Nat)) : ∀ p : Nat, Bd (passN ns p) ((p : Int) * (ns.length : Int))
  | 0 => fun i => by
    unfold passN rk
    rw [List.getD_eq_getElem?_getD, List.getElem?_replicate]
    split <;> simp
  | p + 1 => by
    have := bd_sweep (bd_pass ns p) (Int.mul_nonneg (by omega) (by omega)) (pass_len ns p) ns.length (Nat.le_refl _)
    intro i
    have h := this i
    unfold passN
    rw [show ((p + 1 : Nat) : Int) * (ns.length : Int) = (p : Int) * (ns.length : Int) + (ns.length : Int) by rw [Int.natCast_add, Int.add_mul]; simp]
    exact h
/-! ### what has a rank keeps it -/
structure Con (ns : List (List Nat)) (r : List Int) : Prop where
  len : r.length = ns.length
  lo : ∀ i, -1 ≤ rk r i
  eq : ∀ i, i < ns.length → rk r i ≠ -1 → aboveI r (nd ns i) 0 = rk r i
def Mono (r s : List Int) : Prop := ∀ i, rk r i ≠ -1 → rk s i = rk r i
theorem Mono.refl (r : List Int) : Mono r r := fun _ _ => rfl
theorem Mono.trans {a b c : List Int} (h : Mono a b) (g : Mono b c) : Mono a c := fun i hi => by
  have h1 := h i hi
  rw [g i (by rw [h1]; exact hi), h1]
theorem above_all {r : List Int} {l : List Nat} {a : Int} (h : aboveI r l a ≠ -1) : ∀ i ∈ l, rk r i ≠ -1 := fun i hi e => h (above_un l a ⟨i, hi, e⟩)
theorem con_step {ns : List (List Nat)} {r : List Int} (h : Con ns r) {k : Nat} (hk : k < ns.length) : Con ns (r.set k (aboveI r (nd ns k) 0)) ∧ Mono r (r.set k (aboveI r (nd ns k) 0)) := by
  have hkl : k < r.length := by rw [h.len]; exact hk
  have hm : Mono r (r.set k (aboveI r (nd ns k) 0)) := fun i hi => by
    rw [rk_set _ _ _ _ hkl]
    by_cases e : i = k
    · subst e; rw [if_pos rfl, h.eq i hk hi]
    · rw [if_neg e]
  refine ⟨⟨by rw [List.length_set, h.len], fun i => ?_, fun i hi hne => ?_⟩, hm⟩
  · rw [rk_set _ _ _ _ hkl]
    split
    · exact above_ge h.lo _ _ (by omega)
    · exact h.lo i
  · have key : rk (r.set k (aboveI r (nd ns k) 0)) i = aboveI r (nd ns i) 0 := by
      rw [rk_set _ _ _ _ hkl] at hne ⊢
      by_cases e : i = k
      · subst e; rw [if_pos rfl]
      · rw [if_neg e] at hne ⊢; exact (h.eq i hi hne).symm
    rw [key] at hne ⊢
    exact above_congr _ _ fun j hj => hm j (above_all hne j hj)
theorem con_sweep {ns : List (List Nat)} {r : List Int} (h : Con ns r) : ∀ k : Nat, k ≤ ns.length → Con ns (sweepN ns r k) ∧ Mono r (sweepN ns r k)
  | 0, _ => ⟨h, Mono.refl _⟩
  | k + 1, hk => by
    obtain ⟨h1, h2⟩ := con_sweep h k (by omega)
    obtain ⟨h3, h4⟩ := con_step h1 (k := k) (by omega)
    exact ⟨h3, h2.trans h4⟩
theorem mono_sweep {ns : List (List Nat)} {r : List Int} (h : Con ns r) (k : Nat) : ∀ m : Nat, k + m ≤ ns.length → Mono (sweepN ns r k) (sweepN ns r (k + m))
  | 0, _ => Mono.refl _
  | m + 1, hm => by
    have h1 : k + m < ns.length := by omega
    exact (mono_sweep h k m (by omega)).trans (con_step (con_sweep h (k + m) (by omega)).1 h1).2
theorem con_pass (ns : List (List Nat)) : ∀ p, Con ns (passN ns p)
  | 0 => ⟨pass_len ns 0, fun i => (bd_pass ns 0 i).1, fun i hi hne => by
      exfalso; apply hne
      unfold passN rk
      rw [List.getD_eq_getElem?_getD, List.getElem?_replicate, if_pos hi]; rfl⟩
  | p + 1 => (con_sweep (con_pass ns p) _ (Nat.le_refl _)).1
/-! ### counting -/
def cnt (p : Nat → Bool) : Nat → Nat
  | 0 => 0
  | n + 1 => cnt p n + (if p n = true then 1 else 0)
theorem cnt_le (p q : Nat → Bool) : ∀ n, (∀ i, i < n → p i = true → q i = true) → cnt p n ≤ cnt q n
  | 0, _ => Nat.le_refl _
  | n + 1, h => by
    have := cnt_le p q n fun i hi => h i (by omega)
    have h2 := h n (by omega)
    unfold cnt
    by_cases hp : p n = true
    · rw [if_pos hp, if_pos (h2 hp)]; omega
    · rw [if_neg hp]; omega
theorem cnt_lt (p q : Nat → Bool) : ∀ n, (∀ i, i < n → p i = true → q i = true) → (∃ i, i < n ∧ q i = true ∧ p i = false) → cnt p n < cnt q n
  | 0, _, ⟨i, h, _⟩ => absurd h (by omega)
  | n + 1, h, ⟨i, hi, hq, hp⟩ => by
    unfold cnt
    by_cases e : i = n
    · subst e
      have := cnt_le p q i fun j hj => h j (by omega)
      rw [if_pos hq, if_neg (by rw [hp]; decide)]; omega
    · have := cnt_lt p q n (fun j hj => h j (by omega)) ⟨i, by omega, hq, hp⟩
      have h2 := h n (by omega)
      by_cases hp : p n = true
      · rw [if_pos hp, if_pos (h2 hp)]; omega
      · rw [if_neg hp]; omega
theorem cnt_bd (p : Nat → Bool) : ∀ n, cnt p n ≤ n
  | 0 => Nat.le_refl _
  | n + 1 => by unfold cnt; have := cnt_bd p n; split <;> omega
theorem cnt_all (p : Nat → Bool) (n : Nat) (h : n ≤ cnt p n) : ∀ i, i < n → p i = true := fun i hi => by
  by_cases hp : p i = true
  · exact hp
  · have h1 := cnt_lt p (fun _ => true) n (fun _ _ _ => rfl) ⟨i, hi, rfl, by simpa using hp⟩
    have h2 := cnt_bd (fun _ => true) n
    omega
/-! ### after as many passes as there are fields nothing changes -/
def Fix (ns : List (List Nat)) (r : List Int) : Prop := ∀ i, i < ns.length → aboveI r (nd ns i) 0 = rk r i
def isR (r : List Int) (i : Nat) : Bool := decide (rk r i ≠ -1)
theorem fix_sweep {ns : List (List Nat)} {r : List Int} (hl : r.length = ns.length) (h : Fix ns r) : ∀ k : Nat, k ≤ ns.length → ∀ i, rk (sweepN ns r k) i = rk r i
  | 0, _ => fun _ => rfl
  | k + 1, hk => fun i => by
    have ih := fix_sweep hl h k (by omega)
    unfold sweepN
    rw [rk_set _ _ _ _ (by rw [sweep_len]; omega), ih]
    by_cases e : i = k
    · subst e
      rw [if_pos rfl, above_congr _ _ (fun j _ => ih j), h i (by omega)]
    · rw [if_neg e]
theorem fix_of_eq {ns : List (List Nat)} {r s : List Int} (h : Fix ns r) (e : ∀ i, rk s i = rk r i) : Fix ns s := fun i hi => by
  rw [above_congr _ _ (fun j _ => e j), h i hi, e]
theorem still_fix {ns : List (List Nat)} {r : List Int} (hc : Con ns r) (h : ∀ i, i < ns.length → rk (sweepN ns r ns.length) i ≠ -1 → rk r i ≠ -1) : Fix ns r := fun i hi => by
  have hk : ∀ k, k ≤ ns.length → ∀ j, rk (sweepN ns r k) j = rk r j := fun k hk j => by
    obtain ⟨h1, h2⟩ := con_sweep hc k hk
    by_cases hr : rk r j = -1
    · by_cases hs : rk (sweepN ns r k) j = -1
      · rw [hs, hr]
      · exfalso
        have h3 := mono_sweep hc k (ns.length - k) (by omega) j hs
        rw [show k + (ns.length - k) = ns.length by omega] at h3
        by_cases hj : j < ns.length
        · exact h j hj (by rw [h3]; exact hs) hr
        · have : rk r j = 0 := by unfold rk; rw [List.getD_eq_getElem?_getD, List.getElem?_eq_none (by rw [hc.len]; omega)]; rfl
          omega
    · exact h2 j hr
  have h1 := hk (i + 1) (by omega) i
  unfold sweepN at h1
  rw [rk_set _ _ _ _ (by rw [sweep_len, hc.len]; exact hi), if_pos rfl, above_congr _ _ (fun j _ => hk i (by omega) j)] at h1
  exact h1
theorem pass_fix (ns : List (List Nat)) : ∀ p, Fix ns (passN ns p) ∨ p ≤ cnt (isR (passN ns p)) ns.length
  | 0 => .inr (Nat.zero_le _)
  | p + 1 => by
    have hc := con_pass ns p
    obtain ⟨_, hm⟩ := con_sweep hc ns.length (Nat.le_refl _)
    rcases pass_fix ns p with h | h
    · exact .inl (fix_of_eq h (fix_sweep (pass_len ns p) h ns.length (Nat.le_refl _)))
    · by_cases hx : ∃ i, i < ns.length ∧ isR (passN ns (p + 1)) i = true ∧ isR (passN ns p) i = false
      · right
        have := cnt_lt (isR (passN ns p)) (isR (passN ns (p + 1))) ns.length (fun i hi hp => by
          unfold isR at hp ⊢
          have hp := of_decide_eq_true hp
          refine decide_eq_true ?_
          show rk (sweepN ns (passN ns p) ns.length) i ≠ -1
          rw [hm i hp]; exact hp) hx
        omega
      · left
        have hf : Fix ns (passN ns p) := still_fix hc fun i hi hs hr => hx ⟨i, hi, decide_eq_true hs, by unfold isR; rw [hr]; rfl⟩
        exact fix_of_eq hf (fix_sweep (pass_len ns p) hf ns.length (Nat.le_refl _))
theorem rankF_fix (ns : List (List Nat)) : Fix ns (rankF ns) := by
  rcases pass_fix ns ns.length with h | h
  · exact h
  · intro i hi
    have := cnt_all _ _ h i hi
    exact (con_pass ns ns.length).eq i hi (of_decide_eq_true this)
theorem rankF_lo (ns : List (List Nat)) (i : Nat) : -1 ≤ rk (rankF ns) i := (con_pass ns ns.length).lo i
/-- Where no field needs one that is not less, all have ranks; none is greater than the measure. -/
theorem rankF_ok {ns : List (List Nat)} {m : Nat → Nat} (h : ∀ i, i < ns.length → ∀ j ∈ nd ns i, j < ns.length ∧ m j < m i) : ∀ (b i : Nat), m i ≤ b → i < ns.length → 0 ≤ rk (rankF ns) i ∧ rk (rankF ns) i ≤ (m i : Int)
  | b, i, hb, hi => by
    have hn : ∀ j ∈ nd ns i, 0 ≤ rk (rankF ns) j ∧ rk (rankF ns) j ≤ (m j : Int) := fun j hj => by
      obtain ⟨h1, h2⟩ := h i hi j hj
      exact rankF_ok h (b - 1) j (by omega) h1
    obtain ⟨h1, h2, h3⟩ := above_ok (nd ns i) 0 (fun j hj => (hn j hj).1) (by omega)
    rw [rankF_fix ns i hi] at h1 h2 h3
    refine ⟨h1, ?_⟩
    rcases h3 with h3 | ⟨j, hj, e⟩
    · omega
    · have := (hn j hj).2
      have := (h i hi j hj).2
      omega
termination_by b i => m i
decreasing_by exact h2
/-- The greatest of some ranks, and one. -/
def Mx (r : List Int) (S : Nat → Prop) (m : Int) : Prop := 0 ≤ m ∧ (∀ j, S j → rk r j + 1 ≤ m) ∧ (m = 0 ∨ ∃ j, S j ∧ m = rk r j + 1)
theorem Mx.uniq {r : List Int} {S : Nat → Prop} {a b : Int} (h : Mx r S a) (g : Mx r S b) : a = b := by
  obtain ⟨h1, h2, h3⟩ := h
  obtain ⟨g1, g2, g3⟩ := g
  have e1 : a ≤ b := by
    rcases h3 with h3 | ⟨j, hj, e⟩
    · omega
    · have := g2 j hj; omega
  have e2 : b ≤ a := by
    rcases g3 with h3 | ⟨j, hj, e⟩
    · omega
    · have := h2 j hj; omega
  omega
theorem rank_mx {ns : List (List Nat)} (h0 : ∀ i, i < ns.length → 0 ≤ rk (rankF ns) i) (h : ∀ i, i < ns.length → ∀ j ∈ nd ns i, j < ns.length) (i : Nat) (hi : i < ns.length) : Mx (rankF ns) (fun j => j ∈ nd ns i) (rk (rankF ns) i) := by
  obtain ⟨h1, h2, h3⟩ := above_ok (nd ns i) 0 (fun j hj => h0 j (h i hi j hj)) (by omega)
  rw [rankF_fix ns i hi] at h1 h2 h3
  exact ⟨h1, h2, h3⟩
end Go.Proofs.YtdlfhldboagbeaaGreatDoor.RkM
