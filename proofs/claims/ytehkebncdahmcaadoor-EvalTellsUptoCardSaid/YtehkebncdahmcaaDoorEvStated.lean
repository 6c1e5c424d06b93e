/- Contracts of eval.stated and of the method field. -/
import Derived.Test.YtehkebncdahmcaaDoorEvMap
namespace Go.Proofs.YtehkebncdahmcaaDoor.EvS
open Go.RowKit Go.Maps
open NumM ValM StrM ExM TyM EvM Kit Ev EvC EvO EvF ExL
set_option linter.unusedVariables false

theorem look_none {W : World} {m : Nat} {fs : List (ByteArray × Vl)} (h : FM W m fs) (s : ByteArray) (hs : s.size ≤ maxLen) (hn : firstF fs s = none) :
    (Instr.lookup 45 (.map (some m)) (.string s) true).run Tryd.prog W = .ok (.tuple #[.agg #[.int .i64 0, .int .i64 0, .string ⟨#[]⟩], .bool false]) W := by
  have := h.look s hs
  rw [hn] at this; exact this
theorem look_some {W : World} {m : Nat} {fs : List (ByteArray × Vl)} (h : FM W m fs) (s : ByteArray) (hs : s.size ≤ maxLen) (k n : Int) (t : ByteArray) (hn : firstF fs s = some ⟨k, n, t⟩) :
    (Instr.lookup 45 (.map (some m)) (.string s) true).run Tryd.prog W = .ok (.tuple #[.agg #[.int .i64 k, .int .i64 n, .string t], .bool true]) W := by
  have := h.look s hs
  rw [hn] at this; exact this
set_option maxRecDepth 100000 in
set_option maxHeartbeats 1000000 in
theorem field_any (fs : List (ByteArray × Vl)) (m : Nat) (s : ByteArray) (hs : s.size ≤ maxLen) (w : World) (h : FM w m fs) :
    Calls Tryd.prog 27 #[.map (some m), .string s] w fun e w' => e = .returned (.agg #[.int .i64 (factV fs s).k, .int .i64 (factV fs s).n, .string (factV fs s).s]) ∧ Below w.heap.size w w' := by
  have h2 := h.below (b_new w (.cells #[.int .i64 0, .int .i64 0, .string ⟨#[]⟩] 23))
  rw [firstF_fact]
  rcases hff : firstF fs s with _ | v
  · simp only [Option.getD_none]
    have hl := look_none h2 s hs hff
    clear h h2 hff
    go_enter Tryd.func27, Tryd.ntmps27
    go_wp2_with fail
    refine (fault_any _ _).mono ?_; rintro e w1 ⟨rfl, hb1⟩
    have hz := (((BV.new w 0 0 ⟨#[]⟩).below (b_new _ (.cells #[.int .i64 0, .int .i64 0, .string ⟨#[]⟩] 23))).below hb1)
    obtain ⟨x0, x1, x2⟩ := hz.cells
    have y0 := hz.frozen
    have zl := hz.lt
    go_wp2_with fail
    refine bodyPost_ret (v := .agg #[.int .i64 5, .int .i64 5, .string ⟨#[]⟩]) (by simp [results, Tryd.results27, go_sem, x0, x1, x2]) rfl ⟨rfl, b_set3 (b_then (b_then hb1)) _ (Nat.le_refl _) _ _ _⟩
  · obtain ⟨k, n, t⟩ := v
    simp only [Option.getD_some]
    have hl := look_some h2 s hs k n t hff
    clear h h2 hff
    go_enter Tryd.func27, Tryd.ntmps27
    go_wp2_with fail
    refine bodyPost_ret (v := .agg #[.int .i64 k, .int .i64 n, .string t]) (by simp [results, Tryd.results27, go_sem]) rfl ⟨rfl, b_more (b_new _ _) _⟩

theorem take_fcs (l : List Fc) (k : Nat) (h : k < l.length) : fcs (l.take (k + 1)) = fcs (l.take k) ++ [(l[k].nm, l[k].v)] := by
  rw [take_at l k h]; unfold fcs; rw [List.map_append]; rfl
theorem b_grown {B : Nat} {a w w' : World} {m : Nat} (h : Below B a w) (hg : w.grownBy w' (some m)) (hB : B ≤ w.heap.size) (hm : B ≤ m) : Below B a w' := h.grown hg hB (fun k e => by injection e with e; omega)
set_option maxRecDepth 100000 in
set_option maxHeartbeats 2000000 in
theorem stated_any (l : List Fc) (A : Option Addr) (c : Nat) (w : World) (hl : l.length ≤ 1000000000000) (hnm : ∀ f ∈ l, f.nm.size ≤ maxLen) (h : Fcs w A l) :
    Calls Tryd.prog 13 #[.slice A l.length c] w fun e w' => (∃ mv, e = .returned (.tuple #[mv, .int .i64 (badF (fcs l))]) ∧ (badF (fcs l) = 0 → ∃ m, mv = .map (some m) ∧ FM w' m (fcs l))) ∧ Below w.heap.size w w' := by
  have HF := Lib.hid h
  have HN := Lib.hid hnm
  have hm0 := FM.made w
  have hbm := b_new w (.map #[] 0)
  obtain ⟨W, hW⟩ : ∃ W, w.alloc (.map #[] 0) = W := ⟨_, rfl⟩
  rw [hW] at hm0 hbm
  have HW := Lib.hid hW
  have HM := Lib.hid hm0
  have HB := Lib.hid hbm
  have hmm := @run_makeMap Tryd.prog
  clear h hnm hm0 hbm hW
  go_enter Tryd.func13, Tryd.ntmps13
  go_wp2_with fail
  rw [HW.out]
  go_loopw [6, 7, 8, 9, 13] (fun _ _ _ _ i wr => ∃ k : Nat, i = .int .i64 k ∧ k ≤ l.length ∧ Below w.heap.size w wr ∧ FM wr w.heap.size (fcs (l.take k)) ∧ (∀ j (hj : j < (fcs l).length), j < k → (fcs l)[j].2.ok)) (fun _ _ _ _ i _ => l.length - (intOf i).toNat)
  case atStart => exact ⟨0, rfl, by omega, HB.out, HM.out, fun j hj h => by omega⟩
  case round =>
    obtain ⟨k, rfl, hk, hb, hfm, hok⟩ := hrel
    have HBr := Lib.hid hb
    have HFr := Lib.hid hfm
    have HOk := Lib.hid hok
    clear hb hfm hok
    by_cases hlt : k < l.length
    · obtain ⟨a, rfl, hat⟩ := HF.out k hlt
      obtain ⟨h0, h1, h2, h3, h4, h5, h6⟩ := hat.below HBr.out
      have hns := HN.out l[k] (List.getElem_mem hlt)
      obtain ⟨f, hf⟩ : ∃ f, l[k] = f := ⟨_, rfl⟩
      have HFk := Lib.hid hf
      rw [hf] at h0 h1 h2 h3 h4 h5 h6 hns
      obtain ⟨nm, kk, kn, ks, ⟨vk, vn, vs⟩⟩ := f
      simp only at h0 h1 h2 h3 h4 h5 h6 hns
      clear hf hat
      have hc := fun W => Val.check_any vk vn vs W
      obtain ⟨e, he⟩ : ∃ e, valE vk vn vs.data.toList = e := ⟨_, rfl⟩
      rw [he] at hc
      have HC := Lib.hid hc
      have HE := Lib.hid he
      have HNs := Lib.hid hns
      clear hc he hns
      go_wp2_with fail
      refine (HC.out _).mono ?_; rintro e1 w1 ⟨rfl, hb1⟩
      have hbx : w1.heap[wr.heap.size]? = some (.cells #[.string nm, .int .i64 kk, .int .i64 kn, .string ks, .int .i64 vk, .int .i64 vn, .string vs] 41 (0, 0)) := (hb1.block _ (by simp)).trans (World.alloc_heap_new wr _)
      obtain ⟨b0, b4, b5, b6⟩ : w1.cell? ⟨wr.heap.size, 0, none⟩ = some (.string nm) ∧ w1.cell? ⟨wr.heap.size, 4, none⟩ = some (.int .i64 vk) ∧ w1.cell? ⟨wr.heap.size, 5, none⟩ = some (.int .i64 vn) ∧ w1.cell? ⟨wr.heap.size, 6, none⟩ = some (.string vs) :=
        ⟨by simp [World.cell?, hbx], by simp [World.cell?, hbx], by simp [World.cell?, hbx], by simp [World.cell?, hbx]⟩
      have bl : wr.heap.size < w1.heap.size := (Array.getElem?_eq_some_iff.1 hbx).1
      have hb2 : Below wr.heap.size wr w1 := b_then hb1
      have hb3 : Below w.heap.size w w1 := HBr.out.trans (hb2.mono HBr.out.size)
      have hfm1 := HFr.out.below hb2
      have HB3 := Lib.hid hb3
      have HF1 := Lib.hid hfm1
      clear h0 h1 h2 h3 h4 h5 h6 hb1 hbx hb2 hb3 hfm1
      by_cases he0 : e = 0
      · subst he0
        have hokv : (fcs l)[k]'(by rw [fcs_len]; exact hlt) |>.2.ok := by
          rw [fcs_at l k hlt, HFk.out]; exact HE.out
        have hokn : ∀ j (hj : j < (fcs l).length), j < k + 1 → (fcs l)[j].2.ok := fun j hj h => by
          by_cases e : j = k
          · subst e; exact hokv
          · exact HOk.out j hj (by omega)
        have HOn := Lib.hid hokn
        have htk := take_fcs l k hlt
        rw [HFk.out] at htk
        simp only at htk
        have HTk := Lib.hid htk
        clear hokv hokn htk
        rcases hff : firstF (fcs (l.take k)) nm with _ | v
        · have hlook := look_none HF1.out nm HNs.out hff
          obtain ⟨w3, hput, hfm3, hg3⟩ := (HF1.out.below (b_new w1 (.cells #[.int .i64 0, .int .i64 0, .string ⟨#[]⟩] 23))).put nm HNs.out ⟨vk, vn, vs⟩ (by rw [fcs_len, List.length_take]; unfold maxLen; omega) hff
          simp only at hput
          have HF3 := Lib.hid hfm3
          have HG3 := Lib.hid hg3
          have HFf := Lib.hid hff
          clear hfm3 hg3 hff
          go_wp2_with fail
          go_roundw
          case rel => exact ⟨k + 1, by go_num, by omega, b_grown (b_more HB3.out _) HG3.out (by have := HB3.out.size; simp; omega) (Nat.le_refl _), by rw [HTk.out]; exact HF3.out, HOn.out⟩
          case measure => simp [intOf]; omega
        · obtain ⟨uk, un, us⟩ := v
          have hlook := look_some HF1.out nm HNs.out uk un us hff
          have hsk := HF1.out.skip nm ⟨vk, vn, vs⟩ (by rw [hff]; rfl)
          have HSk := Lib.hid (hsk.below (b_new w1 (.cells #[.int .i64 uk, .int .i64 un, .string us] 23)))
          clear hsk hff
          go_wp2_with fail
          go_roundw
          case rel => exact ⟨k + 1, by go_num, by omega, b_more HB3.out _, by rw [HTk.out]; exact HSk.out, HOn.out⟩
          case measure => simp [intOf]; omega
      · have t0 : (e == 0) = false := beq_eq_false_iff_ne.2 he0
        have hbad : badF (fcs l) = e := by
          have hk' : k < (fcs l).length := by rw [fcs_len]; exact hlt
          have := badF_hit (fcs l) k hk' HOk.out (by rw [fcs_at l k hlt, HFk.out]; unfold Vl.ok; simp only; rw [HE.out]; exact he0)
          rw [this, fcs_at l k hlt, HFk.out]; exact HE.out
        have HBd := Lib.hid hbad
        clear hbad
        go_wp2_with fail
        go_ret2
        exact ⟨⟨.map none, congrArg (fun x => Ending.returned (.tuple #[.map none, .int .i64 x])) HBd.out.symm, fun h => absurd (HBd.out.symm.trans h) he0⟩, HB3.out⟩
    · have hkl : k = l.length := by omega
      subst hkl
      have h0 : badF (fcs l) = 0 := (badF_zero _).2 fun f hf => by
        obtain ⟨j, hj, rfl⟩ := List.getElem_of_mem hf
        exact HOk.out j hj (by rw [fcs_len] at hj; exact hj)
      have hfm := HFr.out
      rw [List.take_length] at hfm
      have H0 := Lib.hid h0
      have HFm := Lib.hid hfm
      clear h0 hfm
      go_wp2_with fail
      go_ret2
      exact ⟨⟨.map (some w.heap.size), congrArg (fun x => Ending.returned (.tuple #[.map (some w.heap.size), .int .i64 x])) H0.out.symm, fun _ => ⟨_, rfl, HFm.out⟩⟩, HBr.out⟩
end Go.Proofs.YtehkebncdahmcaaDoor.EvS
