/- Contract of eval.operation. -/
import Derived.Test.YtehkebncdahmcaaGreatDoorEvComp
import Derived.Test.YtehkebncdahmcaaGreatDoorGenLeaf
import Derived.Laws.Rows
namespace Go.Proofs.YtehkebncdahmcaaGreatDoor.EvO
open Go.RowKit
open NumM ValM StrM ExM TyM EvM Kit Ev EvC ExL
set_option linter.unusedVariables false

/-- A block of a value. -/
def BV (w : World) (B : Nat) (k n : Int) (s : ByteArray) : Prop := w.heap[B]? = some (.cells #[.int .i64 k, .int .i64 n, .string s] 23 (0, 0))
theorem BV.cells {w : World} {B : Nat} {k n : Int} {s : ByteArray} (h : BV w B k n s) : w.cell? ⟨B, 0, none⟩ = some (.int .i64 k) ∧ w.cell? ⟨B, 1, none⟩ = some (.int .i64 n) ∧ w.cell? ⟨B, 2, none⟩ = some (.string s) := by
  unfold BV at h
  exact ⟨by simp [World.cell?, h], by simp [World.cell?, h], by simp [World.cell?, h]⟩
theorem BV.frozen {w : World} {B : Nat} {k n : Int} {s : ByteArray} (h : BV w B k n s) (o : Nat) : w.frozen? ⟨B, o, none⟩ = false := by
  unfold BV at h; simp [World.frozen?, h]
theorem BV.lt {w : World} {B : Nat} {k n : Int} {s : ByteArray} (h : BV w B k n s) : B < w.heap.size := (Array.getElem?_eq_some_iff.1 h).1
theorem BV.below {w w' : World} {B : Nat} {k n : Int} {s : ByteArray} (h : BV w B k n s) (hb : Below w.heap.size w w') : BV w' B k n s := (hb.block B h.lt).trans h
theorem BV.new (w : World) (k n : Int) (s : ByteArray) : BV (w.alloc (.cells #[.int .i64 k, .int .i64 n, .string s] 23)) w.heap.size k n s := World.alloc_heap_new w _

theorem BV.set3 {w : World} {B : Nat} {k n : Int} {s : ByteArray} (h : BV w B k n s) (a b : Int) (c : ByteArray) : BV (((w.setCell ⟨B, 0, none⟩ (.int .i64 a)).setCell ⟨B, 1, none⟩ (.int .i64 b)).setCell ⟨B, 2, none⟩ (.string c)) B a b c := by
  have e1 := heap_setCell_same w B 0 _ _ (.int .i64 a) h
  have e2 := heap_setCell_same _ B 1 _ _ (.int .i64 b) e1
  have e3 := heap_setCell_same _ B 2 _ _ (.string c) e2
  exact e3

theorem ix0 (w : World) : (Instr.index 114 (.agg #[.int .i64 5, .int .i64 4]) (.int .i64 0)).run Tryz.prog w = .ok (.int .i64 5) w := by kernel_rfl
theorem ix1 (w : World) : (Instr.index 114 (.agg #[.int .i64 5, .int .i64 4]) (.int .i64 1)).run Tryz.prog w = .ok (.int .i64 4) w := by kernel_rfl
theorem opV_comp {op : Int} {vs : List Vl} (h5 : firstK 5 vs = none) (h4 : firstK 4 vs = none) : opV op vs = resV (compR op (vs.getD 0 zeroV) (vs.getD (vs.length - 1) zeroV)) := by
  unfold opV; rw [h5, h4]
theorem none_known {vs : List Vl} (hok : ∀ v ∈ vs, v.ok) (h5 : firstK 5 vs = none) (h4 : firstK 4 vs = none) : ∀ v ∈ vs, knownB v.k v.n v.s.data.toList = true := fun v hv =>
  ok_known (hok v hv) (firstK_none.1 h4 v hv) (firstK_none.1 h5 v hv)
theorem ok_short {v : Vl} (h : v.ok) : v.s.size ≤ 40 := by
  rcases ok_cases h with h | h | h | h | h
  · rw [h.2.2]; decide
  · rw [h.2.2]; decide
  · exact h.2.2.1
  · rw [h.2.2]; decide
  · rw [h.2.2.2]; decide
/-- computed, where each operand is known. -/
theorem computed_any (op : Int) (vs : List Vl) (g c : Nat) (w : World) (h3 : 3 ≤ op) (h18 : op ≤ 18) (hno : op ≠ 15 ∧ op ≠ 16 ∧ op ≠ 17) (hlen : vs.length = arity op) (hok : ∀ v ∈ vs, v.ok) (h5 : firstK 5 vs = none) (h4 : firstK 4 vs = none) (h : Vals w g vs) :
    Calls Tryz.prog 77 #[.int .i64 op, .slice (some ⟨g, 0, none⟩) vs.length c] w fun e w' => e = .returned (.tuple #[.agg #[.int .i64 (compR op (vs.getD 0 zeroV) (vs.getD (vs.length - 1) zeroV)).1.k, .int .i64 (compR op (vs.getD 0 zeroV) (vs.getD (vs.length - 1) zeroV)).1.n, .string (compR op (vs.getD 0 zeroV) (vs.getD (vs.length - 1) zeroV)).1.s], .int .i64 (compR op (vs.getD 0 zeroV) (vs.getD (vs.length - 1) zeroV)).2]) ∧ Below w.heap.size w w' := by
  obtain ⟨_, _, _, _, a5, a6⟩ := arity_cases op
  have hkn := none_known hok h5 h4
  by_cases pu : op = 3 ∨ op = 4 ∨ op = 18
  · have hl := hlen.trans (a5 pu)
    match vs, hl with
    | [b], _ =>
      have hb := hok b (by simp)
      rcases pu with rfl | rfl | rfl
      · exact comp_3 b b g c w h
      · exact comp_4 b b g c w hb h
      · exact comp_18 b b g c w (ok_short hb) h
  · have hl := hlen.trans (a6 (by omega) (by omega))
    match vs, hl with
    | [a, b], _ =>
      have ha := hok a (by simp)
      have hb := hok b (by simp)
      by_cases pc : 11 ≤ op ∧ op ≤ 14
      · exact comp_cmp a b g c w op pc (hkn a (by simp)) (hkn b (by simp)) h
      · have : op = 5 ∨ op = 6 ∨ op = 7 ∨ op = 8 ∨ op = 9 ∨ op = 10 := by omega
        rcases this with rfl | rfl | rfl | rfl | rfl | rfl
        · exact comp_5 a b g c w h
        · exact comp_6 a b g c w h
        · exact comp_7 a b g c w h
        · exact comp_8 a b g c w h
        · exact comp_9 a b g c w h
        · exact comp_10 a b g c w (ok_short ha) (ok_short hb) h

set_option maxRecDepth 100000 in
set_option maxHeartbeats 2000000 in
theorem operation_any (op : Int) (vs : List Vl) (g c : Nat) (w : World) (h3 : 3 ≤ op) (h18 : op ≤ 18) (hno : op ≠ 15 ∧ op ≠ 16 ∧ op ≠ 17) (hlen : vs.length = arity op) (hok : ∀ v ∈ vs, v.ok) (h : Vals w g vs) :
    Calls Tryz.prog 53 #[.int .i64 op, .slice (some ⟨g, 0, none⟩) vs.length c] w fun e w' => e = .returned (.agg #[.int .i64 (opV op vs).k, .int .i64 (opV op vs).n, .string (opV op vs).s]) ∧ Below w.heap.size w w' := by
  obtain ⟨r, hr⟩ : ∃ r, opV op vs = r := ⟨_, rfl⟩
  rw [hr]
  obtain ⟨rk, rn, rs⟩ := r
  have hl3 : vs.length ≤ 3 := by rw [hlen]; exact ((arity_cases op).2.2.1 (by omega) (by omega)).2
  have hcp := fun W (hb : Below w.heap.size w W) h5 h4 => computed_any op vs g c W h3 h18 hno hlen hok h5 h4 (h.below hb)
  have HV := Lib.hid h
  have HR := Lib.hid hr
  have HC := Lib.hid hcp
  have z0 := BV.new w 0 0 ⟨#[]⟩
  have hbW := b_new w (.cells #[.int .i64 0, .int .i64 0, .string ⟨#[]⟩] 23)
  obtain ⟨W, hW⟩ : ∃ W, w.alloc (.cells #[.int .i64 0, .int .i64 0, .string ⟨#[]⟩] 23) = W := ⟨_, rfl⟩
  rw [hW] at z0 hbW
  have HW := Lib.hid hW
  have HZ := Lib.hid z0
  have HBW := Lib.hid hbW
  clear h hr hcp hok hlen hno h3 h18 z0 hbW hW
  go_enter Tryz.func53, Tryz.ntmps53
  go_wp2_with fail
  rw [HW.out]
  go_loopw [6, 8, 12, 17] (fun _ _ i _ wr => ∃ j : Int, i = .int .i64 j ∧ (j = 0 ∨ j = 1 ∨ j = 2) ∧ Below W.heap.size W wr ∧ (j ≠ 0 → firstK 5 vs = none) ∧ (j = 2 → firstK 4 vs = none)) (fun _ _ i _ _ => 2 - (intOf i).toNat)
  case atStart => exact ⟨0, rfl, .inl rfl, Below.refl _ _, fun h => absurd rfl h, fun h => absurd h (by decide)⟩
  case round =>
    obtain ⟨j, rfl, hj, hb, f5, f4⟩ := hrel
    have F5 := Lib.hid f5
    have F4 := Lib.hid f4
    have HB := Lib.hid hb
    clear f5 f4 hb
    rcases hj with rfl | rfl | rfl
    · have ix0 := @ix0
      have ix1 := @ix1
      go_wp2_with fail
      obtain ⟨wo, rfl⟩ : ∃ wo : World, wo = wr := ⟨_, rfl⟩
      go_loopw [8, 17] (fun _ i wx => ∃ k : Nat, i = .int .i64 k ∧ k ≤ vs.length ∧ Below W.heap.size W wx ∧ (∀ i (hi : i < vs.length), i < k → vs[i].k ≠ 5)) (fun _ i _ => vs.length - (intOf i).toNat)
      case atStart => exact ⟨0, rfl, by omega, HB.out, fun i hi h => by omega⟩
      case round =>
        obtain ⟨k, rfl, hk, hbx, hne⟩ := hrel
        have HNE := Lib.hid hne
        have HBX := Lib.hid hbx
        clear hne hbx
        by_cases hlk : k < vs.length
        · obtain ⟨d0, d1, d2⟩ := (HV.out k hlk).below (b_trans HBW.out HBX.out)
          obtain ⟨x0, x1, x2⟩ := (HZ.out.below HBX.out).cells
          have y0 := (HZ.out.below HBX.out).frozen
          have zl := (HZ.out.below HBX.out).lt
          obtain ⟨v, hv⟩ : ∃ v, vs[k] = v := ⟨_, rfl⟩
          have HVk := Lib.hid hv
          rw [hv] at d0 d1 d2
          obtain ⟨vk, vn, vt⟩ := v
          simp only at d0 d1 d2
          clear hv
          by_cases hkk : vk = 5
          · have hfin : Value.agg #[.int .i64 vk, .int .i64 vn, .string vt] = .agg #[.int .i64 rk, .int .i64 rn, .string rs] := by
              have hh := firstK_hit 5 vs k hlk HNE.out (by rw [HVk.out]; exact hkk)
              have hr := HR.out
              unfold opV at hr
              rw [hh] at hr
              simp only at hr
              rw [HVk.out] at hr
              injection hr with e1 e2 e3
              rw [e1, e2, e3]
            subst hkk
            have HF := Lib.hid hfin
            have HBE2 := Lib.hid (b_trans HBW.out HBX.out)
            have kS := (HZ.out.below HBX.out).set3 5 vn vt
            have kY := kS.below (b_new _ (.cells #[.int .i64 5, .int .i64 vn, .string vt] 23))
            have hbY := b_more (b_set3 HBE2.out _ (Nat.le_refl _) (.int .i64 5) (.int .i64 vn) (.string vt)) (.cells #[.int .i64 5, .int .i64 vn, .string vt] 23)
            have KY := Lib.hid kY
            have KB := Lib.hid hbY
            clear hfin kS kY hbY
            go_wp2_with fail
            have kY := KY.out
            have hbY := KB.out
            clear KY KB
            generalize hY : World.alloc _ _ = Y at kY hbY ⊢
            obtain ⟨u0, u1, u2⟩ := kY.cells
            clear hY kY x0 x1 x2 y0
            refine bodyPost_ret (v := .agg #[.int .i64 5, .int .i64 vn, .string vt]) (by simp [results, Tryz.results53, go_sem, u0, u1, u2]) rfl ⟨by rw [HF.out], hbY⟩
          · have t0 : (vk == 5) = false := beq_eq_false_iff_ne.2 hkk
            go_wp2_with fail
            go_roundw
            case rel => exact ⟨k + 1, by go_num, by omega, HBX.out.trans ((b_new _ _).mono HBX.out.size), fun i hi h => by
              by_cases e : i = k
              · subst e; rw [HVk.out]; exact hkk
              · exact HNE.out i hi (by omega)⟩
            case measure => simp [intOf]; omega
        · have hnone : firstK 5 vs = none := firstK_none.2 fun v hv => by
            obtain ⟨i, hi, rfl⟩ := List.getElem_of_mem hv
            exact HNE.out i hi (by omega)
          have HN := Lib.hid hnone
          clear hnone
          go_wp2_with fail
          go_roundw
          case rel => exact ⟨0 + 1, by first | rfl | go_num, by omega, HBX.out, fun _ => HN.out, fun h => by omega⟩
          case measure => simp [intOf]
    · have ix0 := @ix0
      have ix1 := @ix1
      go_wp2_with fail
      obtain ⟨wo, rfl⟩ : ∃ wo : World, wo = wr := ⟨_, rfl⟩
      go_loopw [8, 17] (fun _ i wx => ∃ k : Nat, i = .int .i64 k ∧ k ≤ vs.length ∧ Below W.heap.size W wx ∧ (∀ i (hi : i < vs.length), i < k → vs[i].k ≠ 4)) (fun _ i _ => vs.length - (intOf i).toNat)
      case atStart => exact ⟨0, rfl, by omega, HB.out, fun i hi h => by omega⟩
      case round =>
        obtain ⟨k, rfl, hk, hbx, hne⟩ := hrel
        have HNE := Lib.hid hne
        have HBX := Lib.hid hbx
        clear hne hbx
        by_cases hlk : k < vs.length
        · obtain ⟨d0, d1, d2⟩ := (HV.out k hlk).below (b_trans HBW.out HBX.out)
          obtain ⟨x0, x1, x2⟩ := (HZ.out.below HBX.out).cells
          have y0 := (HZ.out.below HBX.out).frozen
          have zl := (HZ.out.below HBX.out).lt
          obtain ⟨v, hv⟩ : ∃ v, vs[k] = v := ⟨_, rfl⟩
          have HVk := Lib.hid hv
          rw [hv] at d0 d1 d2
          obtain ⟨vk, vn, vt⟩ := v
          simp only at d0 d1 d2
          clear hv
          by_cases hkk : vk = 4
          · have hfin : Value.agg #[.int .i64 vk, .int .i64 vn, .string vt] = .agg #[.int .i64 rk, .int .i64 rn, .string rs] := by
              have hh := firstK_hit 4 vs k hlk HNE.out (by rw [HVk.out]; exact hkk)
              have hr := HR.out
              unfold opV at hr
              rw [F5.out (by decide), hh] at hr
              simp only at hr
              rw [HVk.out] at hr
              injection hr with e1 e2 e3
              rw [e1, e2, e3]
            subst hkk
            have HF := Lib.hid hfin
            have HBE2 := Lib.hid (b_trans HBW.out HBX.out)
            have kS := (HZ.out.below HBX.out).set3 4 vn vt
            have kY := kS.below (b_new _ (.cells #[.int .i64 4, .int .i64 vn, .string vt] 23))
            have hbY := b_more (b_set3 HBE2.out _ (Nat.le_refl _) (.int .i64 4) (.int .i64 vn) (.string vt)) (.cells #[.int .i64 4, .int .i64 vn, .string vt] 23)
            have KY := Lib.hid kY
            have KB := Lib.hid hbY
            clear hfin kS kY hbY
            go_wp2_with fail
            have kY := KY.out
            have hbY := KB.out
            clear KY KB
            generalize hY : World.alloc _ _ = Y at kY hbY ⊢
            obtain ⟨u0, u1, u2⟩ := kY.cells
            clear hY kY x0 x1 x2 y0
            refine bodyPost_ret (v := .agg #[.int .i64 4, .int .i64 vn, .string vt]) (by simp [results, Tryz.results53, go_sem, u0, u1, u2]) rfl ⟨by rw [HF.out], hbY⟩
          · have t0 : (vk == 4) = false := beq_eq_false_iff_ne.2 hkk
            go_wp2_with fail
            go_roundw
            case rel => exact ⟨k + 1, by go_num, by omega, HBX.out.trans ((b_new _ _).mono HBX.out.size), fun i hi h => by
              by_cases e : i = k
              · subst e; rw [HVk.out]; exact hkk
              · exact HNE.out i hi (by omega)⟩
            case measure => simp [intOf]; omega
        · have hnone : firstK 4 vs = none := firstK_none.2 fun v hv => by
            obtain ⟨i, hi, rfl⟩ := List.getElem_of_mem hv
            exact HNE.out i hi (by omega)
          have HN := Lib.hid hnone
          clear hnone
          go_wp2_with fail
          go_roundw
          case rel => exact ⟨1 + 1, by first | rfl | go_num, by omega, HBX.out, fun _ => F5.out (by decide), fun h => HN.out⟩
          case measure => simp [intOf]
    · have f5 := F5.out (by decide)
      have f4 := F4.out rfl
      have hc := HC.out wr (b_trans HBW.out HB.out) f5 f4
      have hr := HR.out
      rw [opV_comp f5 f4] at hr
      obtain ⟨q, hq⟩ : ∃ q, compR op (vs.getD 0 zeroV) (vs.getD (vs.length - 1) zeroV) = q := ⟨_, rfl⟩
      rw [hq] at hc hr
      obtain ⟨⟨qk, qn, qs⟩, qe⟩ := q
      simp only at hc
      have HQ := Lib.hid hr
      have HC2 := Lib.hid hc
      clear hr hc hq f5 f4
      go_wp2_with fail
      refine HC2.out.mono ?_; rintro e w1 ⟨rfl, hb1⟩
      have hbE := b_trans HB.out hb1
      obtain ⟨x0, x1, x2⟩ := (HZ.out.below hbE).cells
      have y0 := (HZ.out.below hbE).frozen
      have zl := (HZ.out.below hbE).lt
      have HBE := Lib.hid hbE
      clear hb1 hbE
      by_cases h0 : qe = 0
      · subst h0
        have hr := HQ.out
        unfold resV at hr
        rw [if_pos rfl] at hr
        injection hr with e1 e2 e3
        subst e1 e2 e3
        go_wp2_with fail
        have kS := (HZ.out.below HBE.out).set3 qk qn qs
        have kY := kS.below (b_new _ (.cells #[.int .i64 qk, .int .i64 qn, .string qs] 23))
        have hbY := b_more (b_set3 (b_trans HBW.out HBE.out) _ (Nat.le_refl _) (.int .i64 qk) (.int .i64 qn) (.string qs)) (.cells #[.int .i64 qk, .int .i64 qn, .string qs] 23)
        clear kS
        generalize hY : World.alloc _ _ = Y at kY hbY ⊢
        obtain ⟨u0, u1, u2⟩ := kY.cells
        clear hY kY x0 x1 x2 y0
        refine bodyPost_ret (v := .agg #[.int .i64 qk, .int .i64 qn, .string qs]) (by simp [results, Tryz.results53, go_sem, u0, u1, u2]) rfl ⟨rfl, hbY⟩
      · have hr := HQ.out
        unfold resV at hr
        rw [if_neg h0] at hr
        injection hr with e1 e2 e3
        have e1 : (5 : Int) = rk := e1
        have e2 : qe = rn := e2
        have e3 : (⟨#[]⟩ : ByteArray) = rs := e3
        subst e1 e2 e3
        have t0 : (qe == 0) = false := beq_eq_false_iff_ne.2 h0
        go_wp2_with fail
        refine (fault_any _ _).mono ?_; rintro e w2 ⟨rfl, hb2⟩
        have hz2 := ((HZ.out.below HBE.out).below (b_new w1 (.cells #[.int .i64 qk, .int .i64 qn, .string qs] 23))).below hb2
        obtain ⟨u0, u1, u2⟩ := hz2.cells
        have v0 := hz2.frozen
        have vl := hz2.lt
        go_wp2_with fail
        refine bodyPost_ret (v := .agg #[.int .i64 5, .int .i64 qe, .string ⟨#[]⟩]) (by simp [results, Tryz.results53, go_sem, u0, u1, u2]) rfl ⟨rfl, b_set3 (b_trans (b_more (b_trans HBW.out HBE.out) _) hb2) _ (Nat.le_refl _) _ _ _⟩
end Go.Proofs.YtehkebncdahmcaaGreatDoor.EvO
