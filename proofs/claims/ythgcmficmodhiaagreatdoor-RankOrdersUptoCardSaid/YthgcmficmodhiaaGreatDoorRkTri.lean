/- What rank.Of and the reference's FieldRanks tell, beside each other; rows of numbers and of texts that are the same. -/
import Derived.Test.YthgcmficmodhiaaGreatDoorRkRanks
import Derived.Test.YthgcmficmodhiaaGreatDoorShelf
namespace Go.Proofs.YthgcmficmodhiaaGreatDoor.RkX
open Go.RowKit
open ValM LexM NumM ExM NmM Kit ExL ExP ExN ExC RawV Within RawL GenL FldP FldR FldC TyM Ty NmO NmA NmI NmT NmR RkM RkA RkB RkC RkD RkO RkL CycO SMp RkV RkW
set_option linter.unusedVariables false

/-! ### rows that are the same -/
def IntsV (w : World) (v : Value) (L : List Int) : Prop := ∃ A c, v = .slice A L.length c ∧ ∀ (j : Nat) (h : j < L.length), ∃ g o : Nat, A = some ⟨g, o, none⟩ ∧ w.cell? ⟨g, o + j, none⟩ = some (.int .i64 L[j])
theorem IntsV.below {w w' : World} {v : Value} {L : List Int} (h : IntsV w v L) (hb : Below w.heap.size w w') : IntsV w' v L := by
  obtain ⟨A, c, e, hc⟩ := h
  refine ⟨A, c, e, fun j hj => ?_⟩
  obtain ⟨g, o, e2, h2⟩ := hc j hj
  exact ⟨g, o, e2, (hb.cell (p := ⟨g, o + j, none⟩) (World.block_lt_of_cell? w _ h2)).trans h2⟩
theorem IntsV.of_own {w : World} {base n : Nat} {v : Value} {r : List Int} (h : w.ownsRow base 3 1 v n (iV r)) (hl : r.length = n) : IntsV w v r := by
  subst hl
  obtain ⟨A, c, rfl, hr⟩ := IRow.of_own h
  refine ⟨A, c, rfl, fun j hj => ?_⟩
  obtain ⟨g, e, hc⟩ := hr j hj
  rw [rk_at r j hj] at hc
  exact ⟨g, 0, e, by rw [Nat.zero_add]; exact hc⟩
theorem IntsV.nil (w : World) : IntsV w (.slice none 0 0) [] := ⟨none, 0, rfl, fun j hj => absurd hj (by simp)⟩
def TextsV (w : World) (v : Value) (L : List ByteArray) : Prop := ∃ A c, v = .slice A L.length c ∧ ∀ (j : Nat) (h : j < L.length), ∃ g o : Nat, A = some ⟨g, o, none⟩ ∧ w.cell? ⟨g, o + j, none⟩ = some (.string L[j])
theorem TextsV.below {w w' : World} {v : Value} {L : List ByteArray} (h : TextsV w v L) (hb : Below w.heap.size w w') : TextsV w' v L := by
  obtain ⟨A, c, e, hc⟩ := h
  refine ⟨A, c, e, fun j hj => ?_⟩
  obtain ⟨g, o, e2, h2⟩ := hc j hj
  exact ⟨g, o, e2, (hb.cell (p := ⟨g, o + j, none⟩) (World.block_lt_of_cell? w _ h2)).trans h2⟩
theorem TextsV.nil (w : World) : TextsV w (.slice none 0 0) [] := ⟨none, 0, rfl, fun j hj => absurd hj (by simp)⟩
theorem eqInts_any (L : List Int) (v1 v2 : Value) (w : World) (hl : L.length ≤ 1048576) (h1 : IntsV w v1 L) (h2 : IntsV w v2 L) : Calls Tryz.prog 22 #[v1, v2] w fun e w' => e = .returned (.bool true) ∧ Below w.heap.size w w' := by
  obtain ⟨A1, c1, rfl, hc1⟩ := h1
  obtain ⟨A2, c2, rfl, hc2⟩ := h2
  rcases Nat.eq_zero_or_pos L.length with h0 | h0
  · rw [h0]
    exact (Tryz.slices_Equal_int_empty A1 A2 c1 0 c2 w (by omega)).mono fun e w' h => ⟨h.1, by rw [h.2]; exact Below.refl _ _⟩
  · obtain ⟨g1, o1, rfl, _⟩ := hc1 0 h0
    obtain ⟨g2, o2, rfl, _⟩ := hc2 0 h0
    have := Tryz.slices_Equal_int g1 o1 L.length c1 g2 o2 L.length c2 L L w (Nat.le_refl _) (Nat.le_refl _) (by omega) (by omega) (fun j hj => by
      obtain ⟨g, o, e, hc⟩ := hc1 j hj
      injection e with e; injection e with e e' _
      subst e e'
      rw [hc, List.getD_eq_getElem?_getD, List.getElem?_eq_getElem hj]; rfl) (fun j hj => by
      obtain ⟨g, o, e, hc⟩ := hc2 j hj
      injection e with e; injection e with e e' _
      subst e e'
      rw [hc, List.getD_eq_getElem?_getD, List.getElem?_eq_getElem hj]; rfl)
    refine this.mono fun e w' h => ⟨by rw [h.1]; simp, ?_⟩
    obtain ⟨q, rfl⟩ := h.2
    exact b_drewN (Below.refl _ _) q
theorem eqTexts_any (L : List ByteArray) (v1 v2 : Value) (w : World) (hl : L.length ≤ 1048576) (h1 : TextsV w v1 L) (h2 : TextsV w v2 L) : Calls Tryz.prog 23 #[v1, v2] w fun e w' => e = .returned (.bool true) ∧ Below w.heap.size w w' := by
  obtain ⟨A1, c1, rfl, hc1⟩ := h1
  obtain ⟨A2, c2, rfl, hc2⟩ := h2
  rcases Nat.eq_zero_or_pos L.length with h0 | h0
  · rw [h0]
    exact (Tryz.slices_Equal_string_empty A1 A2 c1 0 c2 w (by omega)).mono fun e w' h => ⟨h.1, by rw [h.2]; exact Below.refl _ _⟩
  · obtain ⟨g1, o1, rfl, _⟩ := hc1 0 h0
    obtain ⟨g2, o2, rfl, _⟩ := hc2 0 h0
    have := Tryz.slices_Equal_string g1 o1 L.length c1 g2 o2 L.length c2 L L w (Nat.le_refl _) (Nat.le_refl _) (by omega) (by omega) (fun j hj => by
      obtain ⟨g, o, e, hc⟩ := hc1 j hj
      injection e with e; injection e with e e' _
      subst e e'
      rw [hc, List.getD_eq_getElem?_getD, List.getElem?_eq_getElem hj]; rfl) (fun j hj => by
      obtain ⟨g, o, e, hc⟩ := hc2 j hj
      injection e with e; injection e with e e' _
      subst e e'
      rw [hc, List.getD_eq_getElem?_getD, List.getElem?_eq_getElem hj]; rfl)
    refine this.mono fun e w' h => ⟨by rw [h.1]; simp, ?_⟩
    obtain ⟨q, rfl⟩ := h.2
    exact b_drewN (Below.refl _ _) q
theorem sameInts_any (L : List Int) (v1 v2 : Value) (w : World) (hl : L.length ≤ 1048576) (h1 : IntsV w v1 L) (h2 : IntsV w v2 L) : Calls Tryz.prog 7 #[v1, v2] w fun e w' => e = .returned (.bool true) ∧ Below w.heap.size w w' := by
  have hc := eqInts_any L v1 v2 w hl h1 h2
  have HC := Lib.hid hc
  clear hc h1 h2
  go_enter Tryz.func7, Tryz.ntmps7
  go_wp2_with (go_at_call 22; refine HC.out.mono ?_; rintro e w1 ⟨rfl, hb⟩; have HB := Lib.hid hb; clear hb)
  go_ret
  exact ⟨rfl, HB.out⟩
theorem sameTexts_any (L : List ByteArray) (v1 v2 : Value) (w : World) (hl : L.length ≤ 1048576) (h1 : TextsV w v1 L) (h2 : TextsV w v2 L) : Calls Tryz.prog 8 #[v1, v2] w fun e w' => e = .returned (.bool true) ∧ Below w.heap.size w w' := by
  have hc := eqTexts_any L v1 v2 w hl h1 h2
  have HC := Lib.hid hc
  clear hc h1 h2
  go_enter Tryz.func8, Tryz.ntmps8
  go_wp2_with (go_at_call 23; refine HC.out.mono ?_; rintro e w1 ⟨rfl, hb⟩; have HB := Lib.hid hb; clear hb)
  go_ret
  exact ⟨rfl, HB.out⟩
/-! ### FieldRanks, the short ways -/
set_option maxRecDepth 100000 in
set_option maxHeartbeats 4000000 in
theorem refRanks_bad (n : Nat) (FA : Option Addr) (fc : Nat) (R : Int) (w : World) (h0 : R ≠ 0) (hff : Calls Tryz.prog 18 #[.slice FA n fc] w fun e w' => e = .returned (.int .i64 R) ∧ Below w.heap.size w w') :
    Calls Tryz.prog 6 #[.slice FA n fc] w fun e w' => e = .returned (.tuple #[.slice none 0 0, .slice none 0 0, .int .i64 R]) ∧ Below w.heap.size w w' := by
  have t1 : (R != 0) = true := bne_iff_ne.2 h0
  have HF := Lib.hid hff
  clear hff h0
  go_enter Tryz.func6, Tryz.ntmps6
  go_wp2_with (go_at_call 18; refine HF.out.mono ?_; rintro e w1 ⟨rfl, hb⟩; have HB := Lib.hid hb; clear hb)
  exact bodyPost_ret (v := .tuple #[.slice none 0 0, .slice none 0 0, .int .i64 R]) (by simp [results, Tryz.results6, go_sem]) rfl ⟨rfl, HB.out⟩
set_option maxRecDepth 100000 in
set_option maxHeartbeats 4000000 in
theorem refRanks_nil (FA : Option Addr) (fc : Nat) (w : World) (hff : Calls Tryz.prog 18 #[.slice FA 0 fc] w fun e w' => e = .returned (.int .i64 0) ∧ Below w.heap.size w w') :
    Calls Tryz.prog 6 #[.slice FA 0 fc] w fun e w' => e = .returned (.tuple #[.slice none 0 0, .slice none 0 0, .int .i64 0]) ∧ Below w.heap.size w w' := by
  have hmm := @run_makeMap Tryz.prog
  have HF := Lib.hid hff
  clear hff
  go_enter Tryz.func6, Tryz.ntmps6
  go_wp2_with (go_at_call 18; refine HF.out.mono ?_; rintro e w1 ⟨rfl, hb⟩; have HB := Lib.hid (b_more hb (.map #[] 0)); clear hb)
  go_loopw [7] (fun lv wr => lv = .int .i64 0 ∧ wr = w1.alloc (.map #[] 0)) (fun _ _ => 0)
  case atStart => exact ⟨rfl, rfl⟩
  case round =>
    obtain ⟨rfl, rfl⟩ := hrel
    go_wp2_with fail
    go_loopw [20, 94] (fun out ii wr => out = .slice none 0 0 ∧ ii = .int .i64 0 ∧ wr = w1.alloc (.map #[] 0)) (fun _ _ _ => 0)
    case atStart => exact ⟨rfl, rfl, rfl⟩
    case round =>
      obtain ⟨rfl, rfl, rfl⟩ := hrel
      go_wp2_with fail
      exact bodyPost_ret (v := .tuple #[.slice none 0 0, .slice none 0 0, .int .i64 0]) (by simp [results, Tryz.results6, go_sem]) rfl ⟨rfl, HB.out⟩
/-! ### a cycle -/
theorem cyc_ex {f : Nat → Nat} {a n : Nat} (hn : ∀ i, itN f a i < n) : ∃ k j, j < k ∧ k ≤ n ∧ itN f a k = itN f a j ∧ InjK f a k := by
  have key : ∀ d m, InjK f a m → m + d = n + 1 → ∃ k j, j < k ∧ k ≤ n ∧ itN f a k = itN f a j ∧ InjK f a k := fun d => by
    induction d with
    | zero =>
      intro m hm he
      have := inj_le hm hn
      omega
    | succ d ih =>
      intro m hm he
      by_cases h : ∃ i, i < m ∧ itN f a i = itN f a m
      · obtain ⟨i, hi, e⟩ := h
        exact ⟨m, i, hi, by omega, e.symm, hm⟩
      · exact ih (m + 1) (inj_step hm fun i hi e => h ⟨i, hi, e⟩) (by omega)
  exact key (n + 1) 0 (fun i i' hi => absurd hi (by omega)) (by omega)
def cycT (nm : Nat → ByteArray) (f : Nat → Nat) (a k j : Nat) : List ByteArray := (List.range (k - j)).map fun i => nm (itN f a (j + i))
theorem cyc_texts {nm : Nat → ByteArray} {f : Nat → Nat} {a n k j : Nat} (hj : j < k) (he : itN f a k = itN f a j) (hi : InjK f a k) {v : Value} {w : World} (h : CycAt nm f a n v w) : TextsV w v (cycT nm f a k j) := by
  obtain ⟨k', j', g, c, rfl, hj', _, he', hi', hc⟩ := h
  have ek : k' = k := by
    rcases Nat.lt_trichotomy k' k with h | h | h
    · have := hi k' j' h (by omega) he'
      omega
    · exact h
    · have := hi' k j h (by omega) he
      omega
  subst ek
  have ej : j' = j := hi' j' j hj' hj (he'.symm.trans he)
  subst ej
  have hl : (cycT nm f a k' j').length = k' - j' := by unfold cycT; simp
  refine ⟨some ⟨g, j', none⟩, c, by rw [hl], fun i hi9 => ⟨g, j', rfl, ?_⟩⟩
  rw [hl] at hi9
  have e : (cycT nm f a k' j')[i]'(by rw [hl]; exact hi9) = nm (itN f a (j' + i)) := by simp [cycT]
  rw [hc i hi9, e]
/-! ### both -/
def Tri (L : List Int) (T : List ByteArray) (R : Int) (w : World) (e : Ending) (w' : World) : Prop := ∃ v p, e = .returned (.tuple #[v, p, .int .i64 R]) ∧ IntsV w' v L ∧ TextsV w' p T ∧ Below w.heap.size w w'
end Go.Proofs.YthgcmficmodhiaaGreatDoor.RkX
