/- Sorting by insertion keeps the order of those of one rank; cmp.Compare; the closure that compares ranks. -/
import Derived.Test.YtdndphagfohpnaaGreatDoorRkOf
import Derived.Test.YtdndphagfohpnaaGreatDoorSrt
import Derived.Sort.Walk13a
namespace Go.Proofs.YtdndphagfohpnaaGreatDoor.RkT
open Go.RowKit Go.Sort
open Kit RkM RkA RkB RkC
set_option linter.unusedVariables false

/-! ### plainly -/
theorem swp_at {α : Type} [Inhabited α] (d : Array α) (i j k : Nat) (hi : i < d.size) (hj : j < d.size) (hij : i ≠ j) (hk : k < d.size) : (swp d i j)[k]! = if k = j then d[i]! else if k = i then d[j]! else d[k]! := by
  unfold swp
  by_cases h1 : k = j
  · subst h1; rw [if_pos rfl, getElem!_set_same _ _ _ (by simpa using hj)]
  · rw [if_neg h1, getElem!_set_other _ _ _ _ h1]
    by_cases h2 : k = i
    · subst h2; rw [if_pos rfl, getElem!_set_same _ _ _ hi]
    · rw [if_neg h2, getElem!_set_other _ _ _ _ h2]
theorem swp_sz {α : Type} [Inhabited α] (d : Array α) (i j : Nat) : (swp d i j).size = d.size := by unfold swp; simp
/-- Those of one rank stand in their order. -/
def St {n : Nat} (r : List Int) (d : Array (Fin n)) [Inhabited (Fin n)] : Prop := ∀ i j, i < j → j < d.size → rk r (d[i]!).val = rk r (d[j]!).val → (d[i]!).val < (d[j]!).val
def ltR {n : Nat} (r : List Int) (x y : Fin n) : Bool := decide (rk r x.val < rk r y.val)
theorem swp_st {n : Nat} [Inhabited (Fin n)] {r : List Int} {d : Array (Fin n)} (h : St r d) {j : Nat} (hj : j + 1 < d.size) (hl : rk r (d[j + 1]!).val < rk r (d[j]!).val) : St r (swp d (j + 1) j) := fun a b hab hb he => by
  rw [swp_sz] at hb
  have e : ∀ k, k < d.size → (swp d (j + 1) j)[k]! = if k = j then d[j + 1]! else if k = j + 1 then d[j]! else d[k]! := fun k hk => swp_at d (j + 1) j k hj (by omega) (by omega) hk
  rw [e a (by omega), e b hb] at he ⊢
  by_cases a1 : a = j
  · rw [if_pos a1] at he ⊢
    by_cases b1 : b = j + 1
    · rw [if_neg (by omega), if_pos b1] at he; omega
    · rw [if_neg (by omega), if_neg b1] at he ⊢
      exact h (j + 1) b (by omega) hb he
  · rw [if_neg a1] at he ⊢
    by_cases a2 : a = j + 1
    · rw [if_pos a2] at he ⊢
      rw [if_neg (by omega), if_neg (by omega)] at he ⊢
      exact h j b (by omega) hb he
    · rw [if_neg a2] at he ⊢
      by_cases b1 : b = j
      · rw [if_pos b1] at he ⊢
        exact h a (j + 1) (by omega) hj he
      · rw [if_neg b1] at he ⊢
        by_cases b2 : b = j + 1
        · rw [if_pos b2] at he ⊢
          exact h a j (by omega) (by omega) he
        · rw [if_neg b2] at he ⊢
          exact h a b hab hb he
theorem inner_st {n : Nat} [Inhabited (Fin n)] {r : List Int} (a : Nat) : ∀ (j : Nat) (d : Array (Fin n)), j < d.size → St r d → St r (insInner (ltR r) a j d) ∧ (insInner (ltR r) a j d).size = d.size
  | 0, d, _, h => ⟨h, rfl⟩
  | j + 1, d, hj, h => by
    unfold insInner
    by_cases hc : (decide (j + 1 > a) && ltR r d[j + 1]! d[j]!) = true
    · rw [if_pos hc]
      rw [Bool.and_eq_true] at hc
      obtain ⟨h1, h2⟩ := inner_st a j (swp d (j + 1) j) (by rw [swp_sz]; omega) (swp_st h hj (of_decide_eq_true hc.2))
      exact ⟨h1, h2.trans (swp_sz _ _ _)⟩
    · rw [if_neg hc]; exact ⟨h, rfl⟩
theorem outer_st {n : Nat} [Inhabited (Fin n)] {r : List Int} (a b : Nat) : ∀ (m i : Nat) (d : Array (Fin n)), b - i = m → b ≤ d.size → St r d → St r (insOuter (ltR r) a b i d)
  | 0, i, d, hm, hb, h => by unfold insOuter; rw [if_neg (by omega)]; exact h
  | m + 1, i, d, hm, hb, h => by
    unfold insOuter
    rw [if_pos (by omega)]
    obtain ⟨h1, h2⟩ := inner_st (r := r) a i d (by omega) h
    exact outer_st a b m (i + 1) _ (by omega) (by rw [h2]; exact hb) h1
theorem ltR_swo {n : Nat} (r : List Int) : SWO (ltR (n := n) r) :=
  ⟨fun x => by unfold ltR; simp, fun x y z h1 h2 => by unfold ltR at *; have := of_decide_eq_true h1; have := of_decide_eq_true h2; exact decide_eq_true (by omega),
   fun x y z h1 h2 => by unfold ltR at *; have := of_decide_eq_false h1; have := of_decide_eq_false h2; exact decide_eq_false (by omega)⟩
/-- The order of places by their ranks, and by the places themselves within one rank. -/
structure OrdL (r : List Int) (n : Nat) (o : List Nat) : Prop where
  len : o.length = n
  perm : o.Perm (List.range n)
  asc : ∀ (i j : Nat) (hi : i < o.length) (hj : j < o.length), i < j → rk r o[i] < rk r o[j] ∨ (rk r o[i] = rk r o[j] ∧ o[i] < o[j])
def idA (n : Nat) : Array (Fin n) := Array.ofFn id
theorem idA_sz (n : Nat) : (idA n).size = n := by unfold idA; simp
theorem idA_at {n : Nat} [Inhabited (Fin n)] (i : Nat) (h : i < n) : (idA n)[i]! = ⟨i, h⟩ := by
  unfold idA
  rw [getElem!_pos _ _ (by simpa using h)]; simp
theorem ofFn_range : ∀ n : Nat, (List.ofFn fun i : Fin n => i.val) = List.range n := fun n => by
  refine List.ext_getElem (by simp) fun i h1 h2 => ?_
  simp
/-- What the library's sort makes of the places in their order. -/
theorem sorted_ordL (r : List Int) (n : Nat) [Inhabited (Fin n)] : OrdL r n ((insertionSort (ltR r) (idA n) 0 n).toList.map Fin.val) := by
  obtain ⟨h1, h2⟩ := insertionSort_holds (lt := ltR r) (ltR_swo r) (idA n) 0 n (Nat.zero_le _) (by rw [idA_sz]; exact Nat.le_refl _)
  obtain ⟨p1, _, p3⟩ := h1
  rw [idA_sz] at p1
  have hst : St r (insertionSort (ltR r) (idA n) 0 n) := outer_st 0 n _ _ (idA n) rfl (by rw [idA_sz]; exact Nat.le_refl _) (fun i j hij hj he => by
    rw [idA_sz] at hj
    rw [idA_at i (by omega), idA_at j hj]; exact hij)
  generalize insertionSort (ltR r) (idA n) 0 n = d' at h2 p1 p3 hst
  have e1 : d'.extract 0 n = d' := by
    have := Array.extract_size (xs := d')
    rw [p1] at this; exact this
  have e2 : (idA n).extract 0 n = idA n := by
    have := Array.extract_size (xs := idA n)
    rw [idA_sz] at this; exact this
  rw [e1, e2] at p3
  have hget : ∀ (i : Nat) (h : i < (d'.toList.map Fin.val).length), (d'.toList.map Fin.val)[i] = (d'[i]!).val := fun i h => by
    have hi : i < d'.size := by simpa using h
    rw [getElem!_pos d' i hi, List.getElem_map]; simp
  refine ⟨by simp [p1], ?_, fun i j hi hj hij => ?_⟩
  · have := p3.map Fin.val
    have e3 : (idA n).toList.map Fin.val = List.range n := by
      unfold idA
      rw [Array.toList_ofFn, List.map_ofFn]
      exact ofFn_range n
    rw [e3] at this; exact this
  · rw [hget i hi, hget j hj]
    have hj' : j < n := by simp [p1] at hj; exact hj
    have hs := of_decide_eq_false (h2 i j (Nat.zero_le _) hij hj')
    by_cases he : rk r (d'[i]!).val = rk r (d'[j]!).val
    · exact .inr ⟨he, hst i j hij (by rw [p1]; exact hj') he⟩
    · exact .inl (by omega)
end Go.Proofs.YtdndphagfohpnaaGreatDoor.RkT
