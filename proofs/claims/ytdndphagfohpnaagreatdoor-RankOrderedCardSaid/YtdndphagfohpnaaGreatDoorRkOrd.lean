/- Package rank: Order: the places by their ranks. -/
import Derived.Test.YtdndphagfohpnaaGreatDoorRkSort
namespace Go.Proofs.YtdndphagfohpnaaGreatDoor.RkP
open Go.RowKit Go.Sort
open ValM LexM NumM ExM NmM Kit ExL ExP ExN ExC RawV Within RawL GenL FldP FldR FldC NmO NmA NmI NmT NmR RkM RkA RkB RkC RkD RkO RkT
set_option linter.unusedVariables false

theorem grown_putRow {α : Type} [Inhabited α] {enc : α → Value} {w : World} {g q : Nat} (d : Array α) : w.grownBy ((putRow enc w g 0 d).drewN q) (some g) := by
  refine ⟨rfl, rfl, rfl, by simp [putRow, mapBlock, World.drewN], fun k hk hne => ?_⟩
  have hne' : ¬ g = k := fun e => hne (by rw [e])
  simp [putRow, mapBlock, World.drewN, Array.getElem?_modify, hne']
theorem nan_any (x : Int) (w : World) : Calls Tryz.prog 60 #[.int .i64 x] w fun e w' => e = .returned (.bool false) ∧ w = w' := by
  have t1 : (x != x) = false := by simp
  go_enter Tryz.func60, Tryz.ntmps60
  go_wp2_with fail
  go_ret
  exact ⟨rfl, rfl⟩
def cmpI (x y : Int) : Int := if x < y then -1 else if y < x then 1 else 0
theorem compare_any (x y : Int) (w : World) : Calls Tryz.prog 35 #[.int .i64 x, .int .i64 y] w fun e w' => e = .returned (.int .i64 (cmpI x y)) ∧ w = w' := by
  unfold cmpI
  by_cases hxy : x < y
  · rw [if_pos hxy]
    go_enter Tryz.func35, Tryz.ntmps35
    go_wp2_with (go_at_call 60; refine (nan_any _ _).mono ?_; rintro e w1 ⟨rfl, rfl⟩)
    go_ret
    exact ⟨rfl, rfl⟩
  · rw [if_neg hxy]
    by_cases hyx : y < x
    · rw [if_pos hyx]
      go_enter Tryz.func35, Tryz.ntmps35
      go_wp2_with (go_at_call 60; refine (nan_any _ _).mono ?_; rintro e w1 ⟨rfl, rfl⟩)
      go_ret
      exact ⟨rfl, rfl⟩
    · rw [if_neg hyx]
      go_enter Tryz.func35, Tryz.ntmps35
      go_wp2_with (go_at_call 60; refine (nan_any _ _).mono ?_; rintro e w1 ⟨rfl, rfl⟩)
      go_ret
      exact ⟨rfl, rfl⟩
/-- The closure that compares two places by their ranks. -/
theorem closure_any (r : List Int) (B g c : Nat) (x y : Nat) (W : World) (hx : x < r.length) (hy : y < r.length) (hl : r.length ≤ 1000) (hbox : W.cell? ⟨B, 0, none⟩ = some (.slice (some ⟨g, 0, none⟩) r.length c)) (hrow : ∀ j, j < r.length → W.cell? ⟨g, j, none⟩ = some (.int .i64 (rk r j))) :
    Calls Tryz.prog 34 #[.int .i64 x, .int .i64 y, .pointer (some ⟨B, 0, none⟩)] W fun e w' => e = .returned (.int .i64 (cmpI (rk r x) (rk r y))) ∧ ∃ q, w' = W.drewN q := by
  have h1 := hrow x hx
  have h2 := hrow y hy
  have hc := fun V => compare_any (rk r x) (rk r y) V
  generalize rk r x = a at h1 hc
  generalize rk r y = b at h2 hc
  have HC := Lib.hid hc
  have hxi : (x : Int) < (r.length : Int) := by omega
  have hyi : (y : Int) < (r.length : Int) := by omega
  have hx0 : (0 : Int) ≤ (x : Int) := by omega
  have hy0 : (0 : Int) ≤ (y : Int) := by omega
  clear hc hrow
  go_enter Tryz.func34, Tryz.ntmps34
  go_wp2_with fail
  go_quiet ((go_at_call 35; exact (HC.out _).mono fun _ _ h => ⟨h.1, _, h.2.symm⟩))
  go_wp2_with fail
  go_ret
  exact ⟨rfl, _, rfl⟩
set_option maxRecDepth 100000 in
set_option maxHeartbeats 4000000 in
/-- slices.stableCmpFunc at 20 elements or fewer: one sort by insertion. -/
theorem stable_any (n g c : Nat) (fv : Value) (w : World) (R : Ending → World → Prop) (hn : n < 20) (hi : Calls Tryz.prog 82 #[.slice (some ⟨g, 0, none⟩) n c, .int .i64 0, .int .i64 n, fv] w fun e w' => e = .returned (.tuple #[]) ∧ R e w') :
    Calls Tryz.prog 59 #[.slice (some ⟨g, 0, none⟩) n c, .int .i64 n, fv] w fun e w' => e = .returned (.tuple #[]) ∧ R e w' := by
  have HI := Lib.hid hi
  have t1 : ¬ (20 : Int) ≤ (n : Int) := by omega
  have t2 : ¬ (20 : Int) < (n : Int) := by omega
  clear hi
  go_enter Tryz.func59, Tryz.ntmps59
  go_wp2_with fail
  go_loopw [7, 8] (fun a b wr => a = .int .i64 0 ∧ b = .int .i64 20 ∧ wr = w) (fun _ _ _ => 1)
  case atStart => exact ⟨rfl, rfl, rfl⟩
  case round =>
    obtain ⟨rfl, rfl, rfl⟩ := hrel
    go_wp2_with (go_at_call 82; refine HI.out.mono ?_; rintro e w1 ⟨rfl, h1⟩; have H1 := Lib.hid h1; clear h1)
    go_loopw [6, 7, 8, 9] (fun a _ _ _ wr => a = .int .i64 20 ∧ wr = w1) (fun _ _ _ _ _ => 1)
    case atStart => exact ⟨rfl, rfl⟩
    case round =>
      obtain ⟨rfl, rfl⟩ := hrel
      go_wp2_with fail
      go_end0
      exact ⟨rfl, H1.out⟩
theorem sortStable_any (n g c : Nat) (fv : Value) (w : World) (R : Ending → World → Prop) (hn : n < 20) (hi : Calls Tryz.prog 82 #[.slice (some ⟨g, 0, none⟩) n c, .int .i64 0, .int .i64 n, fv] w fun e w' => e = .returned (.tuple #[]) ∧ R e w') :
    Calls Tryz.prog 33 #[.slice (some ⟨g, 0, none⟩) n c, fv] w fun e w' => e = .returned (.tuple #[]) ∧ R e w' := by
  have h := stable_any n g c fv w R hn hi
  have H := Lib.hid h
  clear h hi
  go_enter Tryz.func33, Tryz.ntmps33
  go_wp2_with (go_at_call 59; refine H.out.mono ?_; rintro e w1 ⟨rfl, h1⟩)
  go_end0
  exact ⟨rfl, h1⟩
/-- The first k places, then noughts. -/
def idV (n k : Nat) : List Value := (List.range n).map fun j => Value.int .i64 ((if j < k then j else 0 : Nat) : Int)
theorem idV_len (n k : Nat) : (idV n k).length = n := by unfold idV; simp
theorem idV_at (n k j : Nat) (h : j < n) : (idV n k)[j]? = some (.int .i64 ((if j < k then j else 0 : Nat) : Int)) := by unfold idV; rw [List.getElem?_map, List.getElem?_range h]; rfl
theorem idV_set (n k : Nat) (h : k < n) : (idV n k).set k (.int .i64 (k : Int)) = idV n (k + 1) := by
  refine List.ext_getElem? fun j => ?_
  rw [List.getElem?_set, idV_len]
  by_cases e : k = j
  · subst e; rw [if_pos rfl, if_pos h, idV_at _ _ _ h, if_pos (by omega)]
  · rw [if_neg e]
    by_cases hj : j < n
    · rw [idV_at _ _ _ hj, idV_at _ _ _ hj]
      by_cases h1 : j < k
      · rw [if_pos h1, if_pos (by omega)]
      · rw [if_neg h1, if_neg (by omega)]
    · rw [List.getElem?_eq_none (by rw [idV_len]; omega), List.getElem?_eq_none (by rw [idV_len]; omega)]
theorem idV_zero (n : Nat) : idV n 0 = List.replicate n (.int .i64 0) := by
  refine List.ext_getElem (by rw [idV_len, List.length_replicate]) fun i h1 h2 => ?_
  unfold idV; simp
def encF {n : Nat} (x : Fin n) : Value := .int .i64 (x.val : Int)
def OrderAt (r : List Int) (n : Nat) (w : World) (e : Ending) (w' : World) : Prop :=
  ∃ g cap o, e = .returned (.tuple #[.slice (some ⟨g, 0, none⟩) n cap, .int .i64 0]) ∧ OrdL r n o ∧ (∀ (j : Nat) (h : j < o.length), w'.cell? ⟨g, j, none⟩ = some (.int .i64 (o[j] : Int))) ∧ w.heap.size ≤ g ∧ Below w.heap.size w w'
theorem cells_putRow {n : Nat} [Inhabited (Fin n)] {w : World} {g q : Nat} (d : Array (Fin n)) (hd : d.size = n) (h0 : Holds encF w g 0 (idA n)) : ∀ (j : Nat) (h : j < (d.toList.map Fin.val).length), ((putRow encF w g 0 d).drewN q).cell? ⟨g, j, none⟩ = some (.int .i64 ((d.toList.map Fin.val)[j] : Int)) := fun j h => by
  have hj : j < d.size := by simpa using h
  have h1 := holds_putRow encF w g 0 (idA n) d h0 (by rw [hd, idA_sz])
  have h2 := (h1 j hj).1
  rw [Nat.zero_add] at h2
  have e : ((d.toList.map Fin.val)[j] : Nat) = (d[j]!).val := by rw [getElem!_pos d j hj, List.getElem_map]; simp
  rw [e]
  exact h2
/-- What the sort makes of the places. -/
theorem sort_order (r : List Int) (n B g0 c0 g1 c1 : Nat) (w W : World) (hn : 1 ≤ n) (hn14 : n ≤ 14) (hl : r.length = n) (hb : Below w.heap.size w W) (hg1 : w.heap.size ≤ g1) (hBg : B ≠ g1) (h0g : g0 ≠ g1) (hBl : B < W.heap.size) (h0l : g0 < W.heap.size)
    (hbox : W.cell? ⟨B, 0, none⟩ = some (.slice (some ⟨g0, 0, none⟩) n c0)) (hrow : ∀ j, j < n → W.cell? ⟨g0, j, none⟩ = some (.int .i64 (rk r j))) (hown : W.ownsRow w.heap.size 3 1 (.slice (some ⟨g1, 0, none⟩) n c1) n (idV n n)) :
    Calls Tryz.prog 33 #[.slice (some ⟨g1, 0, none⟩) n c1, .func (.func 34) #[] #[.pointer (some ⟨B, 0, none⟩)]] W fun e w' => e = .returned (.tuple #[]) ∧ ∃ o, OrdL r n o ∧ (∀ (j : Nat) (h : j < o.length), w'.cell? ⟨g1, j, none⟩ = some (.int .i64 (o[j] : Int))) ∧ Below w.heap.size w w' := by
  haveI : Inhabited (Fin n) := ⟨⟨0, by omega⟩⟩
  have hH : Holds encF W g1 0 (idA n) := fun j hj => by
    rw [idA_sz] at hj
    rw [Nat.zero_add]
    refine ⟨?_, hown.frozenAt j⟩
    rw [hown.cellAt j (by omega), idV_at n n j hj, if_pos hj, idA_at j hj]; rfl
  have hcmp : CmpReads Tryz.prog 34 #[.pointer (some ⟨B, 0, none⟩)] encF (fun x y : Fin n => cmpI (rk r x.val) (rk r y.val)) g1 0 (idA n).size W := fun m os dk hdk x y => by
    have hk : ∀ (b j : Nat), b ≠ g1 → b < W.heap.size → (sortWorld encF W g1 0 m dk os).cell? ⟨b, j, none⟩ = W.cell? ⟨b, j, none⟩ := fun b j hne hl => by
      unfold sortWorld
      rw [cell?_grow _ _ _ (by show b < _; rw [size_putRow]; exact hl)]
      rw [putRow_ahead]
      exact cell?_putRow_other encF W g1 0 dk ⟨b, j, none⟩ (.inl hne)
    exact closure_any r B g0 c0 x.val y.val (sortWorld encF W g1 0 m dk os) (by rw [hl]; exact x.isLt) (by rw [hl]; exact y.isLt) (by omega) (by rw [hk _ _ hBg hBl, hl]; exact hbox) (fun j hj => by rw [hk _ _ h0g h0l]; exact hrow j (by omega))
  have eg : ∀ args w, (callFunc 34 args).run Tryz.prog w = .ok (.enter 34 args) w := enters_of Tryz.func34 (by kernel_rfl) rfl
  have hi := Tryz.insertionSortCmpFunc encF (fun _ => rfl) (fun x y : Fin n => cmpI (rk r x.val) (rk r y.val)) 34 #[.pointer (some ⟨B, 0, none⟩)] g1 0 c1 0 n (idA n) W eg hcmp hH (Nat.zero_le _) (by rw [idA_sz]; exact Nat.le_refl _) (by rw [idA_sz]; omega)
  have hlt : ltOf (fun x y : Fin n => cmpI (rk r x.val) (rk r y.val)) = ltR r := by
    funext x y
    unfold ltOf ltR cmpI
    show decide ((if rk r x.val < rk r y.val then (-1 : Int) else if rk r y.val < rk r x.val then 1 else 0) < 0) = decide (rk r x.val < rk r y.val)
    by_cases h1 : rk r x.val < rk r y.val
    · rw [if_pos h1]; simp [h1]
    · rw [if_neg h1]
      by_cases h2 : rk r y.val < rk r x.val
      · rw [if_pos h2]; simp [h1]
      · rw [if_neg h2]; simp [h1]
  rw [hlt, idA_sz] at hi
  have hS := sorted_ordL r n
  refine sortStable_any n g1 c1 _ W _ (by omega) (hi.mono fun e w' h => ⟨h.1, ?_⟩)
  obtain ⟨_, q, rfl⟩ := h
  have hd : (insertionSort (ltR r) (idA n) 0 n).size = n := by
    have := hS.len
    simpa using this
  exact ⟨_, hS, cells_putRow _ hd hH, hb.grown (grown_putRow _) hb.size (fun k e => by injection e with e; omega)⟩
theorem order_bad (n : Nat) (FA : Option Addr) (fc : Nat) (c : Value) (R : Int) (w : World) (h0 : R ≠ 0) (hof : Calls Tryz.prog 7 #[.slice FA n fc] w fun e w' => (∃ c, e = .returned (.tuple #[.slice none 0 0, c, .int .i64 R])) ∧ Below w.heap.size w w') :
    Calls Tryz.prog 11 #[.slice FA n fc] w fun e w' => e = .returned (.tuple #[.slice none 0 0, .int .i64 R]) ∧ Below w.heap.size w w' := by
  have t1 : (R != 0) = true := bne_iff_ne.2 h0
  have HO := Lib.hid hof
  clear hof h0
  go_enter Tryz.func11, Tryz.ntmps11
  go_wp2_with (go_at_call 7; refine HO.out.mono ?_; rintro e w1 ⟨⟨c1, rfl⟩, hb⟩; have HB := Lib.hid (b_more hb (.cells #[.slice none 0 0] 23)); clear hb)
  go_ret2
  exact ⟨rfl, HB.out⟩
set_option maxRecDepth 100000 in
set_option maxHeartbeats 4000000 in
theorem order_ok (ns : List (List Nat)) (n : Nat) (FA : Option Addr) (fc : Nat) (w : World) (hl : ns.length = n) (hn : 1 ≤ n) (hn14 : n ≤ 14) (hof : Calls Tryz.prog 7 #[.slice FA n fc] w (RankOk ns w)) :
    Calls Tryz.prog 11 #[.slice FA n fc] w (OrderAt (rankF ns) n w) := by
  obtain ⟨i0, hi, hz0, hz1, hz2⟩ := info_parts1 infoInt
  have hrl : (rankF ns).length = n := by rw [rankF_len, hl]
  have hmk : (madeCells (Value.int .i64 0).cells (n * 1)).toList = idV n 0 := by rw [Nat.mul_one, idV_zero]; exact toList_madeCells_one _ _
  have HO := Lib.hid hof
  have HL := Lib.hid hl
  have HRl := Lib.hid hrl
  have HMk := Lib.hid hmk
  clear hof hl hrl hmk
  go_enter Tryz.func11, Tryz.ntmps11
  go_wp2_with fail
  refine HO.out.mono ?_; rintro e w1 ⟨v, rfl, hown, hb⟩
  obtain ⟨g0, c0, rfl, hg0, h0l, _, _, hc0⟩ := GenL.own_form hown (by rw [HL.out]; omega)
  have hc1 : ∀ j, j < n → w1.cell? ⟨g0, j, none⟩ = some (.int .i64 (rk (rankF ns) j)) := fun j hj => by
    rw [hc0 j (by rw [HL.out]; omega), iV_at _ _ (by rw [HRl.out]; exact hj)]
  rw [HL.out]
  obtain ⟨W2, hW2⟩ : ∃ V, w1.alloc (.cells #[.slice (some ⟨g0, 0, none⟩) n c0] 23) = V := ⟨_, rfl⟩
  obtain ⟨B, hB⟩ : ∃ B, w1.heap.size = B := ⟨_, rfl⟩
  have hb2 := b_new w1 (.cells #[.slice (some ⟨g0, 0, none⟩) n c0] 23)
  have hblk := World.alloc_heap_new w1 (.cells #[.slice (some ⟨g0, 0, none⟩) n c0] 23)
  rw [hW2] at hb2 hblk
  rw [hB] at hblk
  have hBl := (Array.getElem?_eq_some_iff.1 hblk).1
  have hc2 : ∀ j, j < n → W2.cell? ⟨g0, j, none⟩ = some (.int .i64 (rk (rankF ns) j)) := fun j hj => (hb2.cell (p := ⟨g0, j, none⟩) h0l).trans (hc1 j hj)
  have hbox : W2.cell? ⟨B, 0, none⟩ = some (.slice (some ⟨g0, 0, none⟩) n c0) := by simp [World.cell?, hblk]
  have h0W : g0 < W2.heap.size := Nat.lt_of_lt_of_le h0l hb2.size
  have hbw2 := b_trans hb hb2
  have HW2 := Lib.hid hW2
  have HB := Lib.hid hB
  have HC := Lib.hid (And.intro hc2 hbox)
  have HBw := Lib.hid hbw2
  have HLt := Lib.hid (And.intro hBl h0W)
  clear hown hb hc0 hc1 hW2 hB hb2 hblk hBl hc2 hbox h0W hbw2 h0l hg0
  go_upto_region 2 with fail
  rw [HW2.out, HB.out]
  go_wp2_with (at_make; refine wpList_make_full _ rfl _ _ 23 rfl W2.heap.size 3 i0 _ 1 Tryz.underlying23 hi hz0 hz1 .i64 .i64 _ _ n rfl rfl rfl rfl (by rw [hz2]; omega) (by unfold maxLen; omega) (Nat.le_refl _) ?_; intro w3 hown hgrow; rw [HMk.out] at hown; have H3 := Lib.hid (And.intro hown hgrow); clear hown hgrow)
  go_loopw [8, 23] (fun _ ii wr => ∃ k : Nat, ii = .int .i64 k ∧ k ≤ n ∧ wr.ownsRow W2.heap.size 3 1 (.slice (some ⟨W2.heap.size, 0, none⟩) n n) n (idV n k) ∧ Below W2.heap.size W2 wr) (fun _ ii _ => n - (intOf ii).toNat)
  case atStart => exact ⟨0, rfl, by omega, H3.out.1, (Below.refl _ _).grown H3.out.2 (Nat.le_refl _) (fun k e => by cases e)⟩
  case round =>
    obtain ⟨k, rfl, hk, hown, hb⟩ := hrel
    by_cases hlt : k < n
    · have hcell : wr.cell? ⟨W2.heap.size, k, none⟩ = some (.int .i64 0) := by rw [hown.cellAt k (by omega), idV_at _ _ _ hlt, if_neg (Nat.lt_irrefl _)]; rfl
      have hfz := hown.frozenAt k
      have hst := (hown.stored k (.int .i64 (k : Int))).1
      rw [idV_set n k hlt] at hst
      have hb4 := hb.setCell (p := ⟨W2.heap.size, k, none⟩) (Nat.le_refl _) (.int .i64 (k : Int))
      have HS := Lib.hid (And.intro hst hb4)
      have hki : (k : Int) < (n : Int) := by omega
      clear hst hb4 hown hb
      go_wp2_with fail
      go_roundw
      case rel => exact ⟨k + 1, by go_num, by omega, HS.out.1, HS.out.2⟩
      case measure => simp [intOf]; omega
    · obtain rfl : k = n := by omega
      have hwl := HBw.out.size
      have hl2 := HLt.out
      have hs := hb.size
      have hso := sort_order (rankF ns) k B g0 c0 W2.heap.size k w wr hn hn14 HRl.out (b_trans HBw.out hb) hwl (by omega) (by omega) (by omega) (by omega) ((hb.cell (p := ⟨B, 0, none⟩) hl2.1).trans HC.out.2) (fun j hj => (hb.cell (p := ⟨g0, j, none⟩) hl2.2).trans (HC.out.1 j hj)) ⟨hown.1, hown.2.imp id fun ⟨g, cap, cur, a, b, c⟩ => ⟨g, cap, cur, a, Nat.le_trans hwl b, c⟩⟩
      have HSo := Lib.hid hso
      clear hso hown hb hl2 hs
      go_wp2_with (go_at_call 33; refine HSo.out.mono ?_; rintro e w5 ⟨rfl, o, ho, hco, hb5⟩; have H5 := Lib.hid (And.intro ho (And.intro hco hb5)); clear ho hco hb5)
      go_ret2
      exact ⟨_, _, o, rfl, H5.out.1, H5.out.2.1, hwl, H5.out.2.2⟩
end Go.Proofs.YtdndphagfohpnaaGreatDoor.RkP
