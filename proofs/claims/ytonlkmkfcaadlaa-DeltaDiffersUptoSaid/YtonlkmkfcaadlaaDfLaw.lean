/- The reference's DeltaNames; two rows of the same texts (DeltaDiffers). -/
import Derived.Test.YtonlkmkfcaadlaaDf
import Derived.Test.YtonlkmkfcaadlaaShelf
namespace Go.Proofs.Ytonlkmkfcaadlaa.DfL
open Go.RowKit
open ExM EvM Kit ExL ExP GenL NmA VlS DfP
set_option linter.unusedVariables false

theorem own_row {w : World} {base : Nat} {v : Value} {L : List ByteArray} (h : w.ownsRow base 9 1 v L.length (strV L)) : ∃ A c, v = .slice A L.length c ∧ SRow w A L := SRow.of_own h
theorem eqRow_any (L : List ByteArray) (A1 A2 : Option Addr) (c1 c2 : Nat) (w : World) (hl : L.length ≤ 1048576) (h1 : SRow w A1 L) (h2 : SRow w A2 L) : Calls Try.prog 7 #[.slice A1 L.length c1, .slice A2 L.length c2] w fun e w' => e = .returned (.bool true) ∧ Below w.heap.size w w' := by
  rcases Nat.eq_zero_or_pos L.length with h0 | h0
  · rw [h0]
    exact (Try.slices_Equal_string_empty A1 A2 c1 0 c2 w (by omega)).mono fun e w' h => ⟨h.1, by rw [h.2]; exact Below.refl _ _⟩
  · obtain ⟨g1, rfl, _⟩ := h1 0 h0
    obtain ⟨g2, rfl, _⟩ := h2 0 h0
    have := Try.slices_Equal_string g1 0 L.length c1 g2 0 L.length c2 L L w (Nat.le_refl _) (Nat.le_refl _) (by omega) (by omega) (fun j hj => by
      obtain ⟨g, e, hc⟩ := h1 j hj
      injection e with e; injection e with e _ _
      subst e
      rw [Nat.zero_add, hc, List.getD_eq_getElem?_getD, List.getElem?_eq_getElem hj]; rfl) (fun j hj => by
      obtain ⟨g, e, hc⟩ := h2 j hj
      injection e with e; injection e with e _ _
      subst e
      rw [Nat.zero_add, hc, List.getD_eq_getElem?_getD, List.getElem?_eq_getElem hj]; rfl)
    refine this.mono fun e w' h => ⟨by rw [h.1]; simp, ?_⟩
    obtain ⟨q, rfl⟩ := h.2
    exact b_drewN (Below.refl _ _) q
theorem sameRow_any (L : List ByteArray) (A1 A2 : Option Addr) (c1 c2 : Nat) (w : World) (hl : L.length ≤ 1048576) (h1 : SRow w A1 L) (h2 : SRow w A2 L) : Calls Try.prog 6 #[.slice A1 L.length c1, .slice A2 L.length c2] w fun e w' => e = .returned (.bool true) ∧ Below w.heap.size w w' := by
  have hc := eqRow_any L A1 A2 c1 c2 w hl h1 h2
  have HC := Lib.hid hc
  clear hc h1 h2
  go_enter Try.func6, Try.ntmps6
  go_wp2_with (go_at_call 7; refine HC.out.mono ?_; rintro e w1 ⟨rfl, hb⟩; have HB := Lib.hid hb; clear hb)
  go_ret
  exact ⟨rfl, HB.out⟩
theorem SRow.below' {w w' : World} {A : Option Addr} {L : List ByteArray} (h : SRow w A L) (hb : Below w.heap.size w w') : SRow w' A L := fun j hj => by
  obtain ⟨g, e, h1⟩ := h j hj
  exact ⟨g, e, (hb.cell (p := ⟨g, j, none⟩) (cell_lt' h1)).trans h1⟩
set_option maxRecDepth 100000 in
set_option maxHeartbeats 8000000 in
theorem refDiff_any (F : List GenL.Fd) (FA : Option Addr) (fc : Nat) (a b : List Vl) (A1 A2 : Option Addr) (c1 c2 : Nat) (w : World) (hf : Flds w FA F) (ha : Vls w A1 a) (hb : Vls w A2 b) (hn : F.length ≤ 1048576) (hna : a.length ≤ 1048576) (hnb : b.length ≤ 1048576) :
    Calls Try.prog 5 #[.slice FA F.length fc, .slice A1 a.length c1, .slice A2 b.length c2] w (DiffOut F a b w) := by
  obtain ⟨i0, hi, hz0, hz1, hz2⟩ := info_partS NmA.infoStr
  have hml : maxLen ≤ 9223372036854775807 := by unfold maxLen; omega
  unfold DiffOut
  by_cases hl : a.length = F.length ∧ b.length = F.length
  · have e1 : diffE F a b = 0 := if_pos hl
    have e2 : diffL F a b = diffK (nmF F) (vAt a) (vAt b) F.length := if_pos hl
    rw [e1, e2]
    obtain ⟨l1, l2⟩ := hl
    have hfl : ∀ V, Below w.heap.size w V → ∀ (i : Nat) (hi : i < F.length), ∃ ad, FA = some ad ∧ FdAt V (ad.add (i * 9)) F[i] := fun V hV i hi => hf.below hV i hi
    have hva : ∀ V, Below w.heap.size w V → ∀ (i : Nat) (hi : i < F.length), ∃ ad, A1 = some ad ∧ VlAt V (ad.add (i * 3)) (vAt a i) := fun V hV i hi => by
      obtain ⟨ad, e, h⟩ := ha.below hV i (by omega)
      exact ⟨ad, e, by rw [vAt_at (by omega)]; exact h⟩
    have hvb : ∀ V, Below w.heap.size w V → ∀ (i : Nat) (hi : i < F.length), ∃ ad, A2 = some ad ∧ VlAt V (ad.add (i * 3)) (vAt b i) := fun V hV i hi => by
      obtain ⟨ad, e, h⟩ := hb.below hV i (by omega)
      exact ⟨ad, e, by rw [vAt_at (by omega)]; exact h⟩
    have hnm : ∀ (i : Nat) (hi : i < F.length), nmF F i = F[i].nm := fun i hi => nmF_at hi
    rw [l1, l2]
    obtain ⟨va, hea⟩ : ∃ f, vAt a = f := ⟨_, rfl⟩
    obtain ⟨vb, heb⟩ : ∃ f, vAt b = f := ⟨_, rfl⟩
    obtain ⟨nm, hen⟩ : ∃ f, nmF F = f := ⟨_, rfl⟩
    simp only [hea] at hva ⊢
    simp only [heb] at hvb ⊢
    simp only [hen] at hnm ⊢
    have HFl := Lib.hid hfl
    have HVa := Lib.hid hva
    have HVb := Lib.hid hvb
    have HNm := Lib.hid hnm
    clear hfl hva hvb hnm hf ha hb hna hnb e1 e2 l1 l2 hea heb hen
    obtain ⟨n, hne⟩ : ∃ n, F.length = n := ⟨_, rfl⟩
    simp only [hne] at hn HFl HVa HVb HNm ⊢
    go_enter Try.func5, Try.ntmps5
    go_wp2_with fail
    go_loopw [8, 9, 24] (fun s8 _ ii wr => ∃ (k : Nat) (v : Value), v = s8 ∧ ii = .int .i64 k ∧ k ≤ n ∧ wr.ownsRow w.heap.size 9 1 v (diffK nm va vb k).length (strV (diffK nm va vb k)) ∧ Below w.heap.size w wr) (fun _ _ ii _ => n - (intOf ii).toNat)
    case atStart => exact ⟨0, _, rfl, rfl, Nat.zero_le _, World.ownsRow_nil _ _ _ _, Below.refl _ _⟩
    case round =>
      obtain ⟨k, v, rfl, rfl, hk, hown, hb⟩ := hrel
      obtain ⟨wa, rfl⟩ : ∃ V, V = wr := ⟨_, rfl⟩
      by_cases hlt : k < n
      · obtain ⟨ad, rfl, hat⟩ := HFl.out wa hb k (by omega)
        have hnmk := HNm.out k (by omega)
        have hle := diff_len nm va vb k
        obtain ⟨f, hfk⟩ : ∃ f, F[k]'(by omega) = f := ⟨_, rfl⟩
        rw [hfk] at hat hnmk
        obtain ⟨q0, q1, q2, q3, q4, q5, q6, q7, q8⟩ := hat
        obtain ⟨a1, rfl, y0, y1, y2⟩ := HVa.out wa hb k (by omega)
        obtain ⟨a2, rfl, z0, z1, z2⟩ := HVb.out wa hb k (by omega)
        have hcs := vl_tests (va k) (vb k)
        have hsame := fun h => diff_same (nm := nm) (a := va) (b := vb) (k := k) h
        have hother := fun h => diff_other (nm := nm) (a := va) (b := vb) (k := k) h
        have hlt' := hown.lt
        have tlt : (k : Int) < (n : Int) := by omega
        have hsz := hb.size
        have hq0 : ∀ V, Below wa.heap.size wa V → V.cell? (ad.add (k * 9)) = some (.string f.nm) := fun V hV => (hV.cell (World.block_lt_of_cell? wa _ q0)).trans q0
        have HCell := Lib.hid hq0
        generalize diffK nm va vb k = M at hown hsame hother hle
        rw [hnmk] at hother
        obtain ⟨x, hx⟩ : ∃ x, va k = x := ⟨_, rfl⟩
        obtain ⟨y, hy⟩ : ∃ y, vb k = y := ⟨_, rfl⟩
        rw [hx] at y0 y1 y2 hcs hsame hother
        rw [hy] at z0 z1 z2 hcs hsame hother
        obtain ⟨xk, xn, xs⟩ := x
        obtain ⟨yk, yn, ys⟩ := y
        rcases hcs with e | ⟨ne, hd⟩
        · have hN := hsame e
          injection e with e1 e2 e3
          subst e1 e2 e3
          have HN := Lib.hid (show wa.ownsRow w.heap.size 9 1 v (diffK nm va vb (k + 1)).length (strV (diffK nm va vb (k + 1))) ∧ Below w.heap.size w wa from by rw [hN]; exact ⟨hown, hb⟩)
          clear hN hsame hother hown hlt' hb hx hy hfk hnmk
          go_upto_region 7 with fail
          go_quiet (fail)
          go_wp2_with fail
          go_roundw
          case rel => exact ⟨k + 1, _, rfl, by go_num, by omega, HN.out.1, b_drewN HN.out.2 nq⟩
          case measure => simp [intOf]; omega
        · have hN := hother ne
          have hnx : ∀ (w6 : World), Below wa.heap.size wa w6 → ∀ (gg cap : Nat) (w8 : World), w8.ownsRow w.heap.size 9 1 (.slice (some ⟨gg, 0, none⟩) (M.length + 1) cap) (M.length + 1) (strV M ++ [.string f.nm]) → (w6.alloc (.cells #[.string f.nm] 9)).grownBy w8 v.ownBlock → w8.ownsRow w.heap.size 9 1 (.slice (some ⟨gg, 0, none⟩) (M.length + 1) cap) (diffK nm va vb (k + 1)).length (strV (diffK nm va vb (k + 1))) ∧ Below w.heap.size w w8 := fun w6 h6 gg cap w8 h1 h2 => by
            rw [hN, List.length_append, strV_snoc']
            have hb6 := b_trans (b_trans hb h6) (b_new w6 (.cells #[.string f.nm] 9))
            exact ⟨h1, hb6.grown h2 hb6.size (fun q e => (hown.lt q e).1)⟩
          have HNx := Lib.hid hnx
          have HOw := Lib.hid hown
          have HSz := Lib.hid hsz
          clear hnx hN hsame hother hown hlt' hb hx hy hfk hnmk hsz ne hq0
          rcases hd with t1 | ⟨t1, t2⟩ | ⟨t1, t2, t3⟩
          all_goals
            go_upto_region 7 with fail
            go_quiet (fail)
            obtain ⟨w6, hw6⟩ : ∃ V, wa.drewN nq = V := ⟨_, rfl⟩
            have hb6 : Below wa.heap.size wa w6 := by rw [← hw6]; exact b_drewN (Below.refl _ _) nq
            rw [hw6]
            have HB6 := Lib.hid hb6
            have HW6 := Lib.hid hw6
            clear hb6 hw6
            have hown6 := own_below HOw.out HB6.out
            have x0 := HCell.out w6 HB6.out
            have hsz : w.heap.size ≤ w6.heap.size := Nat.le_trans HSz.out HB6.out.size
            have HO6 := Lib.hid hown6
            clear hown6
            go_wp2_with (at_builtin; refine wpList_append_lies _ rfl _ _ 24 rfl w.heap.size 9 i0 _ 1 16 Try.underlying24 hi hz0 hz1 hz2 rfl (by decide) v M.length (strV M) rfl (HO6.out.alloc _) ⟨w6.heap.size, 0, none⟩ 1 1 [.string f.nm] rfl rfl (World.news_of_block (cs := #[.string f.nm]) (t := 9) (fr := (0, 0)) (World.alloc_heap_new w6 _)) (by simp [Value.oneCell']) (by decide) (by unfold maxLen; omega) (by omega) (by simp; omega) (w6.heap.size + 1) (by simp) ?_; intro gg cap w8 hown8 hgrow8 hat8 hlt8; have hN := HNx.out w6 HB6.out gg cap w8 hown8 hgrow8; have HN := Lib.hid hN; clear hN hown8 hgrow8 hat8 hlt8)
            go_roundw
            case rel => exact ⟨k + 1, _, rfl, by go_num, by omega, HN.out.1, HN.out.2⟩
            case measure => simp [intOf]; omega
      · have hO9 : wa.ownsRow w.heap.size 9 1 v (diffK nm va vb n).length (strV (diffK nm va vb n)) ∧ Below w.heap.size w wa := by
          have e : k = n := by omega
          rw [← e]; exact ⟨hown, hb⟩
        have HO9 := Lib.hid hO9
        clear hown hb hO9
        go_wp2_with fail
        go_ret2
        exact ⟨v, rfl, HO9.out.1, HO9.out.2⟩
  · have e1 : diffE F a b = 1 := if_neg hl
    have e2 : diffL F a b = [] := if_neg hl
    rw [e1, e2]
    clear hf ha hb e1 e2
    obtain ⟨n, hne⟩ : ∃ n, F.length = n := ⟨_, rfl⟩
    obtain ⟨na, hna'⟩ : ∃ n, a.length = n := ⟨_, rfl⟩
    obtain ⟨nb, hnb'⟩ : ∃ n, b.length = n := ⟨_, rfl⟩
    rw [hne] at hn hl ⊢
    rw [hna'] at hna hl ⊢
    rw [hnb'] at hnb hl ⊢
    have hcs : (((na : Int) != (n : Int)) = true) ∨ (((na : Int) != (n : Int)) = false ∧ ((nb : Int) != (n : Int)) = true) := by
      by_cases h1 : na = n
      · refine .inr ⟨by rw [h1]; exact bne_self_eq_false _, bne_iff_ne.2 fun e => hl ⟨h1, by omega⟩⟩
      · exact .inl (bne_iff_ne.2 fun e => h1 (by omega))
    clear hl hne hna' hnb'
    rcases hcs with t1 | ⟨t1, t2⟩
    all_goals
      go_enter Try.func5, Try.ntmps5
      go_wp2_with fail
      go_ret2
      exact ⟨_, rfl, World.ownsRow_nil _ _ _ _, Below.refl _ _⟩
end Go.Proofs.Ytonlkmkfcaadlaa.DfL
