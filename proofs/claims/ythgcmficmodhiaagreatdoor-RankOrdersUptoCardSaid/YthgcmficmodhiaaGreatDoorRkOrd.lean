/- Sorting by insertion keeps the order of those of one rank; cmp.Compare; the closure that compares ranks. Package rank: Order: the places by their ranks. -/
import Derived.Test.YthgcmficmodhiaaGreatDoorRkOf
import Derived.Test.YthgcmficmodhiaaGreatDoorSrt
import Derived.Sort.Walk13a
namespace Go.Proofs.YthgcmficmodhiaaGreatDoor.RkT
open Go.RowKit Go.Sort
open Kit RkM RkA RkB RkC
set_option linter.unusedVariables false

/-! ### plainly -/
theorem swp_at {α : Type} [Inhabited α] (d : Array α) (i j k : Nat) (hi : i < d.size) (hj : j < d.size) (hij : i ≠ j) (hk : k < d.size) : (swp d i j)[k]! = if k = j then d[i]! else if k = i then d[j]! else d[k]! := by
  unfold swp
  by_cases h1 : k = j
  · subst h1; rw [if_pos rfl, getElem!_set_same _ _ _ (by simpa using hj)]
  · rw [if_neg h1, getElem!_set_other _ _ _ _ h1]
    by_cases h2 : k = i
    · subst h2; rw [if_pos rfl, getElem!_set_same _ _ _ hi]
    · rw [if_neg h2, getElem!_set_other _ _ _ _ h2]
theorem swp_sz {α : Type} [Inhabited α] (d : Array α) (i j : Nat) : (swp d i j).size = d.size := by unfold swp; simp
/-- Those of one rank stand in their order. -/
def St {n : Nat} (r : List Int) (d : Array (Fin n)) [Inhabited (Fin n)] : Prop := ∀ i j, i < j → j < d.size → rk r (d[i]!).val = rk r (d[j]!).val → (d[i]!).val < (d[j]!).val
def ltR {n : Nat} (r : List Int) (x y : Fin n) : Bool := decide (rk r x.val < rk r y.val)
theorem swp_st {n : Nat} [Inhabited (Fin n)] {r : List Int} {d : Array (Fin n)} (h : St r d) {j : Nat} (hj : j + 1 < d.size) (hl : rk r (d[j + 1]!).val < rk r (d[j]!).val) : St r (swp d (j + 1) j) := fun a b hab hb he => by
  rw [swp_sz] at hb
  have e : ∀ k, k < d.size → (swp d (j + 1) j)[k]! = if k = j then d[j + 1]! else if k = j + 1 then d[j]! else d[k]! := fun k hk => swp_at d (j + 1) j k hj (by omega) (by omega) hk
  rw [e a (by omega), e b hb] at he ⊢
  by_cases a1 : a = j
  · rw [if_pos a1] at he ⊢
    by_cases b1 : b = j + 1
    · rw [if_neg (by omega), if_pos b1] at he; omega
    · rw [if_neg (by omega), if_neg b1] at he ⊢
      exact h (j + 1) b (by omega) hb he
  · rw [if_neg a1] at he ⊢
    by_cases a2 : a = j + 1
    · rw [if_pos a2] at he ⊢
      rw [if_neg (by omega), if_neg (by omega)] at he ⊢
      exact h j b (by omega) hb he
    · rw [if_neg a2] at he ⊢
      by_cases b1 : b = j
      · rw [if_pos b1] at he ⊢
        exact h a (j + 1) (by omega) hj he
      · rw [if_neg b1] at he ⊢
        by_cases b2 : b = j + 1
        · rw [if_pos b2] at he ⊢
          exact h a j (by omega) (by omega) he
        · rw [if_neg b2] at he ⊢
          exact h a b hab hb he
theorem inner_st {n : Nat} [Inhabited (Fin n)] {r : List Int} (a : Nat) : ∀ (j : Nat) (d : Array (Fin n)), j < d.size → St r d → St r (insInner (ltR r) a j d) ∧ (insInner (ltR r) a j d).size = d.size
  | 0, d, _, h => ⟨h, rfl⟩
  | j + 1, d, hj, h => by
    unfold insInner
    by_cases hc : (decide (j + 1 > a) && ltR r d[j + 1]! d[j]!) = true
    · rw [if_pos hc]
      rw [Bool.and_eq_true] at hc
      obtain ⟨h1, h2⟩ := inner_st a j (swp d (j + 1) j) (by rw [swp_sz]; omega) (swp_st h hj (of_decide_eq_true hc.2))
      exact ⟨h1, h2.trans (swp_sz _ _ _)⟩
    · rw [if_neg hc]; exact ⟨h, rfl⟩
theorem outer_st {n : Nat} [Inhabited (Fin n)] {r : List Int} (a b : Nat) : ∀ (m i : Nat) (d : Array (Fin n)), b - i = m → b ≤ d.size → St r d → St r (insOuter (ltR r) a b i d)
  | 0, i, d, hm, hb, h => by unfold insOuter; rw [if_neg (by omega)]; exact h
  | m + 1, i, d, hm, hb, h => by
    unfold insOuter
    rw [if_pos (by omega)]
    obtain ⟨h1, h2⟩ := inner_st (r := r) a i d (by omega) h
    exact outer_st a b m (i + 1) _ (by omega) (by rw [h2]; exact hb) h1
theorem ltR_swo {n : Nat} (r : List Int) : SWO (ltR (n := n) r) :=
  ⟨fun x => by unfold ltR; simp, fun x y z h1 h2 => by unfold ltR at *; have := of_decide_eq_true h1; have := of_decide_eq_true h2; exact decide_eq_true (by omega),
   fun x y z h1 h2 => by unfold ltR at *; have := of_decide_eq_false h1; have := of_decide_eq_false h2; exact decide_eq_false (by omega)⟩
/-- The order of places by their ranks, and by the places themselves within one rank. -/
structure OrdL (r : List Int) (n : Nat) (o : List Nat) : Prop where
  len : o.length = n
  perm : o.Perm (List.range n)
  asc : ∀ (i j : Nat) (hi : i < o.length) (hj : j < o.length), i < j → rk r o[i] < rk r o[j] ∨ (rk r o[i] = rk r o[j] ∧ o[i] < o[j])
def idA (n : Nat) : Array (Fin n) := Array.ofFn id
theorem idA_sz (n : Nat) : (idA n).size = n := by unfold idA; simp
theorem idA_at {n : Nat} [Inhabited (Fin n)] (i : Nat) (h : i < n) : (idA n)[i]! = ⟨i, h⟩ := by
  unfold idA
  rw [getElem!_pos _ _ (by simpa using h)]; simp
theorem ofFn_range : ∀ n : Nat, (List.ofFn fun i : Fin n => i.val) = List.range n := fun n => by
  refine List.ext_getElem (by simp) fun i h1 h2 => ?_
  simp
/-- What the library's sort makes of the places in their order. -/
theorem sorted_ordL (r : List Int) (n : Nat) [Inhabited (Fin n)] : OrdL r n ((insertionSort (ltR r) (idA n) 0 n).toList.map Fin.val) := by
  obtain ⟨h1, h2⟩ := insertionSort_holds (lt := ltR r) (ltR_swo r) (idA n) 0 n (Nat.zero_le _) (by rw [idA_sz]; exact Nat.le_refl _)
  obtain ⟨p1, _, p3⟩ := h1
  rw [idA_sz] at p1
  have hst : St r (insertionSort (ltR r) (idA n) 0 n) := outer_st 0 n _ _ (idA n) rfl (by rw [idA_sz]; exact Nat.le_refl _) (fun i j hij hj he => by
    rw [idA_sz] at hj
    rw [idA_at i (by omega), idA_at j hj]; exact hij)
  generalize insertionSort (ltR r) (idA n) 0 n = d' at h2 p1 p3 hst
  have e1 : d'.extract 0 n = d' := by
    have := Array.extract_size (xs := d')
    rw [p1] at this; exact this
  have e2 : (idA n).extract 0 n = idA n := by
    have := Array.extract_size (xs := idA n)
    rw [idA_sz] at this; exact this
  rw [e1, e2] at p3
  have hget : ∀ (i : Nat) (h : i < (d'.toList.map Fin.val).length), (d'.toList.map Fin.val)[i] = (d'[i]!).val := fun i h => by
    have hi : i < d'.size := by simpa using h
    rw [getElem!_pos d' i hi, List.getElem_map]; simp
  refine ⟨by simp [p1], ?_, fun i j hi hj hij => ?_⟩
  · have := p3.map Fin.val
    have e3 : (idA n).toList.map Fin.val = List.range n := by
      unfold idA
      rw [Array.toList_ofFn, List.map_ofFn]
      exact ofFn_range n
    rw [e3] at this; exact this
  · rw [hget i hi, hget j hj]
    have hj' : j < n := by simp [p1] at hj; exact hj
    have hs := of_decide_eq_false (h2 i j (Nat.zero_le _) hij hj')
    by_cases he : rk r (d'[i]!).val = rk r (d'[j]!).val
    · exact .inr ⟨he, hst i j hij (by rw [p1]; exact hj') he⟩
    · exact .inl (by omega)
end Go.Proofs.YthgcmficmodhiaaGreatDoor.RkT
namespace Go.Proofs.YthgcmficmodhiaaGreatDoor.RkP
open Go.RowKit Go.Sort
open ValM LexM NumM ExM NmM Kit ExL ExP ExN ExC RawV Within RawL GenL FldP FldR FldC NmO NmA NmI NmT NmR RkM RkA RkB RkC RkD RkO RkT
set_option linter.unusedVariables false

theorem grown_putRow {α : Type} [Inhabited α] {enc : α → Value} {w : World} {g q : Nat} (d : Array α) : w.grownBy ((putRow enc w g 0 d).drewN q) (some g) := by
  refine ⟨rfl, rfl, rfl, by simp [putRow, mapBlock, World.drewN], fun k hk hne => ?_⟩
  have hne' : ¬ g = k := fun e => hne (by rw [e])
  simp [putRow, mapBlock, World.drewN, Array.getElem?_modify, hne']
theorem nan_any (x : Int) (w : World) : Calls Tryz.prog 44 #[.int .i64 x] w fun e w' => e = .returned (.bool false) ∧ w = w' := by
  have t1 : (x != x) = false := by simp
  go_enter Tryz.func44, Tryz.ntmps44
  go_wp2_with fail
  go_ret
  exact ⟨rfl, rfl⟩
def cmpI (x y : Int) : Int := if x < y then -1 else if y < x then 1 else 0
theorem compare_any (x y : Int) (w : World) : Calls Tryz.prog 26 #[.int .i64 x, .int .i64 y] w fun e w' => e = .returned (.int .i64 (cmpI x y)) ∧ w = w' := by
  unfold cmpI
  by_cases hxy : x < y
  · rw [if_pos hxy]
    go_enter Tryz.func26, Tryz.ntmps26
    go_wp2_with (go_at_call 44; refine (nan_any _ _).mono ?_; rintro e w1 ⟨rfl, rfl⟩)
    go_ret
    exact ⟨rfl, rfl⟩
  · rw [if_neg hxy]
    by_cases hyx : y < x
    · rw [if_pos hyx]
      go_enter Tryz.func26, Tryz.ntmps26
      go_wp2_with (go_at_call 44; refine (nan_any _ _).mono ?_; rintro e w1 ⟨rfl, rfl⟩)
      go_ret
      exact ⟨rfl, rfl⟩
    · rw [if_neg hyx]
      go_enter Tryz.func26, Tryz.ntmps26
      go_wp2_with (go_at_call 44; refine (nan_any _ _).mono ?_; rintro e w1 ⟨rfl, rfl⟩)
      go_ret
      exact ⟨rfl, rfl⟩
/-- The closure that compares two places by their ranks. -/
theorem closure_any (r : List Int) (B g c : Nat) (x y : Nat) (W : World) (hx : x < r.length) (hy : y < r.length) (hl : r.length ≤ 1000) (hbox : W.cell? ⟨B, 0, none⟩ = some (.slice (some ⟨g, 0, none⟩) r.length c)) (hrow : ∀ j, j < r.length → W.cell? ⟨g, j, none⟩ = some (.int .i64 (rk r j))) :
    Calls Tryz.prog 25 #[.int .i64 x, .int .i64 y, .pointer (some ⟨B, 0, none⟩)] W fun e w' => e = .returned (.int .i64 (cmpI (rk r x) (rk r y))) ∧ ∃ q, w' = W.drewN q := by
  have h1 := hrow x hx
  have h2 := hrow y hy
  have hc := fun V => compare_any (rk r x) (rk r y) V
  generalize rk r x = a at h1 hc
  generalize rk r y = b at h2 hc
  have HC := Lib.hid hc
  have hxi : (x : Int) < (r.length : Int) := by omega
  have hyi : (y : Int) < (r.length : Int) := by omega
  have hx0 : (0 : Int) ≤ (x : Int) := by omega
  have hy0 : (0 : Int) ≤ (y : Int) := by omega
  clear hc hrow
  go_enter Tryz.func25, Tryz.ntmps25
  go_wp2_with fail
  go_quiet ((go_at_call 26; exact (HC.out _).mono fun _ _ h => ⟨h.1, _, h.2.symm⟩))
  go_wp2_with fail
  go_ret
  exact ⟨rfl, _, rfl⟩
set_option maxRecDepth 100000 in
set_option maxHeartbeats 4000000 in
/-- slices.stableCmpFunc at 20 elements or fewer: one sort by insertion. -/
theorem stable_any (n g c : Nat) (fv : Value) (w : World) (R : Ending → World → Prop) (hn : n < 20) (hi : Calls Tryz.prog 60 #[.slice (some ⟨g, 0, none⟩) n c, .int .i64 0, .int .i64 n, fv] w fun e w' => e = .returned (.tuple #[]) ∧ R e w') :
    Calls Tryz.prog 43 #[.slice (some ⟨g, 0, none⟩) n c, .int .i64 n, fv] w fun e w' => e = .returned (.tuple #[]) ∧ R e w' := by
  have HI := Lib.hid hi
  have t1 : ¬ (20 : Int) ≤ (n : Int) := by omega
  have t2 : ¬ (20 : Int) < (n : Int) := by omega
  clear hi
  go_enter Tryz.func43, Tryz.ntmps43
  go_wp2_with fail
  go_loopw [7, 8] (fun a b wr => a = .int .i64 0 ∧ b = .int .i64 20 ∧ wr = w) (fun _ _ _ => 1)
  case atStart => exact ⟨rfl, rfl, rfl⟩
  case round =>
    obtain ⟨rfl, rfl, rfl⟩ := hrel
    go_wp2_with (go_at_call 60; refine HI.out.mono ?_; rintro e w1 ⟨rfl, h1⟩; have H1 := Lib.hid h1; clear h1)
    go_loopw [6, 7, 8, 9] (fun a _ _ _ wr => a = .int .i64 20 ∧ wr = w1) (fun _ _ _ _ _ => 1)
    case atStart => exact ⟨rfl, rfl⟩
    case round =>
      obtain ⟨rfl, rfl⟩ := hrel
      go_wp2_with fail
      go_end0
      exact ⟨rfl, H1.out⟩
theorem sortStable_any (n g c : Nat) (fv : Value) (w : World) (R : Ending → World → Prop) (hn : n < 20) (hi : Calls Tryz.prog 60 #[.slice (some ⟨g, 0, none⟩) n c, .int .i64 0, .int .i64 n, fv] w fun e w' => e = .returned (.tuple #[]) ∧ R e w') :
    Calls Tryz.prog 24 #[.slice (some ⟨g, 0, none⟩) n c, fv] w fun e w' => e = .returned (.tuple #[]) ∧ R e w' := by
  have h := stable_any n g c fv w R hn hi
  have H := Lib.hid h
  clear h hi
  go_enter Tryz.func24, Tryz.ntmps24
  go_wp2_with (go_at_call 43; refine H.out.mono ?_; rintro e w1 ⟨rfl, h1⟩)
  go_end0
  exact ⟨rfl, h1⟩
/-- The first k places, then noughts. -/
def idV (n k : Nat) : List Value := (List.range n).map fun j => Value.int .i64 ((if j < k then j else 0 : Nat) : Int)
theorem idV_len (n k : Nat) : (idV n k).length = n := by unfold idV; simp
theorem idV_at (n k j : Nat) (h : j < n) : (idV n k)[j]? = some (.int .i64 ((if j < k then j else 0 : Nat) : Int)) := by unfold idV; rw [List.getElem?_map, List.getElem?_range h]; rfl
theorem idV_set (n k : Nat) (h : k < n) : (idV n k).set k (.int .i64 (k : Int)) = idV n (k + 1) := by
  refine List.ext_getElem? fun j => ?_
  rw [List.getElem?_set, idV_len]
  by_cases e : k = j
  · subst e; rw [if_pos rfl, if_pos h, idV_at _ _ _ h, if_pos (by omega)]
  · rw [if_neg e]
    by_cases hj : j < n
    · rw [idV_at _ _ _ hj, idV_at _ _ _ hj]
      by_cases h1 : j < k
      · rw [if_pos h1, if_pos (by omega)]
      · rw [if_neg h1, if_neg (by omega)]
    · rw [List.getElem?_eq_none (by rw [idV_len]; omega), List.getElem?_eq_none (by rw [idV_len]; omega)]
theorem idV_zero (n : Nat) : idV n 0 = List.replicate n (.int .i64 0) := by
  refine List.ext_getElem (by rw [idV_len, List.length_replicate]) fun i h1 h2 => ?_
  unfold idV; simp
def encF {n : Nat} (x : Fin n) : Value := .int .i64 (x.val : Int)
def OrderAt (r : List Int) (n : Nat) (w : World) (e : Ending) (w' : World) : Prop :=
  ∃ g cap o, e = .returned (.tuple #[.slice (some ⟨g, 0, none⟩) n cap, .int .i64 0]) ∧ OrdL r n o ∧ (∀ (j : Nat) (h : j < o.length), w'.cell? ⟨g, j, none⟩ = some (.int .i64 (o[j] : Int))) ∧ w.heap.size ≤ g ∧ Below w.heap.size w w'
theorem cells_putRow {n : Nat} [Inhabited (Fin n)] {w : World} {g q : Nat} (d : Array (Fin n)) (hd : d.size = n) (h0 : Holds encF w g 0 (idA n)) : ∀ (j : Nat) (h : j < (d.toList.map Fin.val).length), ((putRow encF w g 0 d).drewN q).cell? ⟨g, j, none⟩ = some (.int .i64 ((d.toList.map Fin.val)[j] : Int)) := fun j h => by
  have hj : j < d.size := by simpa using h
  have h1 := holds_putRow encF w g 0 (idA n) d h0 (by rw [hd, idA_sz])
  have h2 := (h1 j hj).1
  rw [Nat.zero_add] at h2
  have e : ((d.toList.map Fin.val)[j] : Nat) = (d[j]!).val := by rw [getElem!_pos d j hj, List.getElem_map]; simp
  rw [e]
  exact h2
/-- What the sort makes of the places. -/
theorem sort_order (r : List Int) (n B g0 c0 g1 c1 : Nat) (w W : World) (hn : 1 ≤ n) (hn14 : n ≤ 14) (hl : r.length = n) (hb : Below w.heap.size w W) (hg1 : w.heap.size ≤ g1) (hBg : B ≠ g1) (h0g : g0 ≠ g1) (hBl : B < W.heap.size) (h0l : g0 < W.heap.size)
    (hbox : W.cell? ⟨B, 0, none⟩ = some (.slice (some ⟨g0, 0, none⟩) n c0)) (hrow : ∀ j, j < n → W.cell? ⟨g0, j, none⟩ = some (.int .i64 (rk r j))) (hown : W.ownsRow w.heap.size 3 1 (.slice (some ⟨g1, 0, none⟩) n c1) n (idV n n)) :
    Calls Tryz.prog 24 #[.slice (some ⟨g1, 0, none⟩) n c1, .func (.func 25) #[] #[.pointer (some ⟨B, 0, none⟩)]] W fun e w' => e = .returned (.tuple #[]) ∧ ∃ o, OrdL r n o ∧ (∀ (j : Nat) (h : j < o.length), w'.cell? ⟨g1, j, none⟩ = some (.int .i64 (o[j] : Int))) ∧ Below w.heap.size w w' := by
  haveI : Inhabited (Fin n) := ⟨⟨0, by omega⟩⟩
  have hH : Holds encF W g1 0 (idA n) := fun j hj => by
    rw [idA_sz] at hj
    rw [Nat.zero_add]
    refine ⟨?_, hown.frozenAt j⟩
    rw [hown.cellAt j (by omega), idV_at n n j hj, if_pos hj, idA_at j hj]; rfl
  have hcmp : CmpReads Tryz.prog 25 #[.pointer (some ⟨B, 0, none⟩)] encF (fun x y : Fin n => cmpI (rk r x.val) (rk r y.val)) g1 0 (idA n).size W := fun m os dk hdk x y => by
    have hk : ∀ (b j : Nat), b ≠ g1 → b < W.heap.size → (sortWorld encF W g1 0 m dk os).cell? ⟨b, j, none⟩ = W.cell? ⟨b, j, none⟩ := fun b j hne hl => by
      unfold sortWorld
      rw [cell?_grow _ _ _ (by show b < _; rw [size_putRow]; exact hl)]
      rw [putRow_ahead]
      exact cell?_putRow_other encF W g1 0 dk ⟨b, j, none⟩ (.inl hne)
    exact closure_any r B g0 c0 x.val y.val (sortWorld encF W g1 0 m dk os) (by rw [hl]; exact x.isLt) (by rw [hl]; exact y.isLt) (by omega) (by rw [hk _ _ hBg hBl, hl]; exact hbox) (fun j hj => by rw [hk _ _ h0g h0l]; exact hrow j (by omega))
  have eg : ∀ args w, (callFunc 25 args).run Tryz.prog w = .ok (.enter 25 args) w := enters_of Tryz.func25 (by kernel_rfl) rfl
  have hi := Tryz.insertionSortCmpFunc encF (fun _ => rfl) (fun x y : Fin n => cmpI (rk r x.val) (rk r y.val)) 25 #[.pointer (some ⟨B, 0, none⟩)] g1 0 c1 0 n (idA n) W eg hcmp hH (Nat.zero_le _) (by rw [idA_sz]; exact Nat.le_refl _) (by rw [idA_sz]; omega)
  have hlt : ltOf (fun x y : Fin n => cmpI (rk r x.val) (rk r y.val)) = ltR r := by
    funext x y
    unfold ltOf ltR cmpI
    show decide ((if rk r x.val < rk r y.val then (-1 : Int) else if rk r y.val < rk r x.val then 1 else 0) < 0) = decide (rk r x.val < rk r y.val)
    by_cases h1 : rk r x.val < rk r y.val
    · rw [if_pos h1]; simp [h1]
    · rw [if_neg h1]
      by_cases h2 : rk r y.val < rk r x.val
      · rw [if_pos h2]; simp [h1]
      · rw [if_neg h2]; simp [h1]
  rw [hlt, idA_sz] at hi
  have hS := sorted_ordL r n
  refine sortStable_any n g1 c1 _ W _ (by omega) (hi.mono fun e w' h => ⟨h.1, ?_⟩)
  obtain ⟨_, q, rfl⟩ := h
  have hd : (insertionSort (ltR r) (idA n) 0 n).size = n := by
    have := hS.len
    simpa using this
  exact ⟨_, hS, cells_putRow _ hd hH, hb.grown (grown_putRow _) hb.size (fun k e => by injection e with e; omega)⟩
theorem order_bad (n : Nat) (FA : Option Addr) (fc : Nat) (c : Value) (R : Int) (w : World) (h0 : R ≠ 0) (hof : Calls Tryz.prog 5 #[.slice FA n fc] w fun e w' => (∃ c, e = .returned (.tuple #[.slice none 0 0, c, .int .i64 R])) ∧ Below w.heap.size w w') :
    Calls Tryz.prog 9 #[.slice FA n fc] w fun e w' => e = .returned (.tuple #[.slice none 0 0, .int .i64 R]) ∧ Below w.heap.size w w' := by
  have t1 : (R != 0) = true := bne_iff_ne.2 h0
  have HO := Lib.hid hof
  clear hof h0
  go_enter Tryz.func9, Tryz.ntmps9
  go_wp2_with (go_at_call 5; refine HO.out.mono ?_; rintro e w1 ⟨⟨c1, rfl⟩, hb⟩; have HB := Lib.hid (b_more hb (.cells #[.slice none 0 0] 23)); clear hb)
  go_ret2
  exact ⟨rfl, HB.out⟩
set_option maxRecDepth 100000 in
set_option maxHeartbeats 4000000 in
theorem order_ok (ns : List (List Nat)) (n : Nat) (FA : Option Addr) (fc : Nat) (w : World) (hl : ns.length = n) (hn : 1 ≤ n) (hn14 : n ≤ 14) (hof : Calls Tryz.prog 5 #[.slice FA n fc] w (RankOk ns w)) :
    Calls Tryz.prog 9 #[.slice FA n fc] w (OrderAt (rankF ns) n w) := by
  obtain ⟨i0, hi, hz0, hz1, hz2⟩ := info_parts1 infoInt
  have hrl : (rankF ns).length = n := by rw [rankF_len, hl]
  have hmk : (madeCells (Value.int .i64 0).cells (n * 1)).toList = idV n 0 := by rw [Nat.mul_one, idV_zero]; exact toList_madeCells_one _ _
  have HO := Lib.hid hof
  have HL := Lib.hid hl
  have HRl := Lib.hid hrl
  have HMk := Lib.hid hmk
  clear hof hl hrl hmk
  go_enter Tryz.func9, Tryz.ntmps9
  go_wp2_with fail
  refine HO.out.mono ?_; rintro e w1 ⟨v, rfl, hown, hb⟩
  obtain ⟨g0, c0, rfl, hg0, h0l, _, _, hc0⟩ := GenL.own_form hown (by rw [HL.out]; omega)
  have hc1 : ∀ j, j < n → w1.cell? ⟨g0, j, none⟩ = some (.int .i64 (rk (rankF ns) j)) := fun j hj => by
    rw [hc0 j (by rw [HL.out]; omega), iV_at _ _ (by rw [HRl.out]; exact hj)]
  rw [HL.out]
  obtain ⟨W2, hW2⟩ : ∃ V, w1.alloc (.cells #[.slice (some ⟨g0, 0, none⟩) n c0] 23) = V := ⟨_, rfl⟩
  obtain ⟨B, hB⟩ : ∃ B, w1.heap.size = B := ⟨_, rfl⟩
  have hb2 := b_new w1 (.cells #[.slice (some ⟨g0, 0, none⟩) n c0] 23)
  have hblk := World.alloc_heap_new w1 (.cells #[.slice (some ⟨g0, 0, none⟩) n c0] 23)
  rw [hW2] at hb2 hblk
  rw [hB] at hblk
  have hBl := (Array.getElem?_eq_some_iff.1 hblk).1
  have hc2 : ∀ j, j < n → W2.cell? ⟨g0, j, none⟩ = some (.int .i64 (rk (rankF ns) j)) := fun j hj => (hb2.cell (p := ⟨g0, j, none⟩) h0l).trans (hc1 j hj)
  have hbox : W2.cell? ⟨B, 0, none⟩ = some (.slice (some ⟨g0, 0, none⟩) n c0) := by simp [World.cell?, hblk]
  have h0W : g0 < W2.heap.size := Nat.lt_of_lt_of_le h0l hb2.size
  have hbw2 := b_trans hb hb2
  have HW2 := Lib.hid hW2
  have HB := Lib.hid hB
  have HC := Lib.hid (And.intro hc2 hbox)
  have HBw := Lib.hid hbw2
  have HLt := Lib.hid (And.intro hBl h0W)
  clear hown hb hc0 hc1 hW2 hB hb2 hblk hBl hc2 hbox h0W hbw2 h0l hg0
  go_upto_region 2 with fail
  rw [HW2.out, HB.out]
  go_wp2_with (at_make; refine wpList_make_full _ rfl _ _ 23 rfl W2.heap.size 3 i0 _ 1 Tryz.underlying23 hi hz0 hz1 .i64 .i64 _ _ n rfl rfl rfl rfl (by rw [hz2]; omega) (by unfold maxLen; omega) (Nat.le_refl _) ?_; intro w3 hown hgrow; rw [HMk.out] at hown; have H3 := Lib.hid (And.intro hown hgrow); clear hown hgrow)
  go_loopw [8, 23] (fun _ ii wr => ∃ k : Nat, ii = .int .i64 k ∧ k ≤ n ∧ wr.ownsRow W2.heap.size 3 1 (.slice (some ⟨W2.heap.size, 0, none⟩) n n) n (idV n k) ∧ Below W2.heap.size W2 wr) (fun _ ii _ => n - (intOf ii).toNat)
  case atStart => exact ⟨0, rfl, by omega, H3.out.1, (Below.refl _ _).grown H3.out.2 (Nat.le_refl _) (fun k e => by cases e)⟩
  case round =>
    obtain ⟨k, rfl, hk, hown, hb⟩ := hrel
    by_cases hlt : k < n
    · have hcell : wr.cell? ⟨W2.heap.size, k, none⟩ = some (.int .i64 0) := by rw [hown.cellAt k (by omega), idV_at _ _ _ hlt, if_neg (Nat.lt_irrefl _)]; rfl
      have hfz := hown.frozenAt k
      have hst := (hown.stored k (.int .i64 (k : Int))).1
      rw [idV_set n k hlt] at hst
      have hb4 := hb.setCell (p := ⟨W2.heap.size, k, none⟩) (Nat.le_refl _) (.int .i64 (k : Int))
      have HS := Lib.hid (And.intro hst hb4)
      have hki : (k : Int) < (n : Int) := by omega
      clear hst hb4 hown hb
      go_wp2_with fail
      go_roundw
      case rel => exact ⟨k + 1, by go_num, by omega, HS.out.1, HS.out.2⟩
      case measure => simp [intOf]; omega
    · obtain rfl : k = n := by omega
      have hwl := HBw.out.size
      have hl2 := HLt.out
      have hs := hb.size
      have hso := sort_order (rankF ns) k B g0 c0 W2.heap.size k w wr hn hn14 HRl.out (b_trans HBw.out hb) hwl (by omega) (by omega) (by omega) (by omega) ((hb.cell (p := ⟨B, 0, none⟩) hl2.1).trans HC.out.2) (fun j hj => (hb.cell (p := ⟨g0, j, none⟩) hl2.2).trans (HC.out.1 j hj)) ⟨hown.1, hown.2.imp id fun ⟨g, cap, cur, a, b, c⟩ => ⟨g, cap, cur, a, Nat.le_trans hwl b, c⟩⟩
      have HSo := Lib.hid hso
      clear hso hown hb hl2 hs
      go_wp2_with (go_at_call 24; refine HSo.out.mono ?_; rintro e w5 ⟨rfl, o, ho, hco, hb5⟩; have H5 := Lib.hid (And.intro ho (And.intro hco hb5)); clear ho hco hb5)
      go_ret2
      exact ⟨_, _, o, rfl, H5.out.1, H5.out.2.1, hwl, H5.out.2.2⟩
end Go.Proofs.YthgcmficmodhiaaGreatDoor.RkP
namespace Go.Proofs.YthgcmficmodhiaaGreatDoor.RkF
open Go.RowKit
open Kit RkM RkA RkB RkC RkD RkO RkT RkP
set_option linter.unusedVariables false

/-- In their order fields need those ahead alone. -/
theorem ordL_lt {r : List Int} {n : Nat} {o : List Nat} (h : OrdL r n o) (k : Nat) (hk : k < o.length) : o[k] < n := by
  have := h.perm.mem_iff.1 (List.getElem_mem hk)
  exact List.mem_range.1 this
theorem ordL_inj {r : List Int} {n : Nat} {o : List Nat} (h : OrdL r n o) (i j : Nat) (hi : i < o.length) (hj : j < o.length) (e : o[i] = o[j]) : i = j := by
  by_cases h1 : i < j
  · have := h.asc i j hi hj h1; rw [e] at this; omega
  · by_cases h2 : j < i
    · have := h.asc j i hj hi h2; rw [e] at this; omega
    · omega
theorem ordL_ahead {r : List Int} {n : Nat} {o : List Nat} (h : OrdL r n o) (k : Nat) (hk : k < o.length) (j : Nat) (hj : j < n) (hr : rk r j < rk r o[k]) : j ∈ o.take k := by
  obtain ⟨m, hm, e⟩ := List.getElem_of_mem (h.perm.mem_iff.2 (List.mem_range.2 hj))
  by_cases hmk : m < k
  · rw [← e]
    have : (o.take k)[m]'(by rw [List.length_take]; omega) = o[m] := List.getElem_take
    rw [← this]; exact List.getElem_mem _
  · exfalso
    by_cases h1 : m = k
    · subst h1; rw [e] at hr; omega
    · have := h.asc k m hk hm (by omega)
      rw [e] at this; omega
end Go.Proofs.YthgcmficmodhiaaGreatDoor.RkF
