/- The reference's ValueBy (P7.1). -/
import Derived.Test.YtehkebncdahmcaaDoorVdAll
import Derived.Test.YtehkebncdahmcaaDoorExRef
namespace Go.Proofs.YtehkebncdahmcaaDoor.VdB
open Go.RowKit
open NumM ValM StrM ExM NmM TyM EvM Kit ExL ExV Ev EvC EvO EvF Vd VdT VdA
set_option linter.unusedVariables false

set_option maxRecDepth 100000 in
set_option maxHeartbeats 4000000 in
theorem by_any (x : Ex) (l : List Fc) (FA : Option Addr) (fc : Nat) (d : Nd) (A : Option Addr) (n c : Nat) (w : World) (hl : l.length ≤ 1048576) (hx : x.nodes ≤ 1048576) (his : Is w x d A n) (hf : Fcs w FA l) :
    Calls Tryd.prog 6 #[.agg #[.int .i64 d.op, .int .i64 d.k, .int .i64 d.n, .string d.s, .string d.nm, .slice A n c], .slice FA l.length fc] w fun e w' => e = .returned (.tuple #[.agg #[.int .i64 (ofV (fcs l) x).k, .int .i64 (ofV (fcs l) x).n, .string (ofV (fcs l) x).s], .int .i64 (ofE (fcs l) x)]) ∧ Below w.heap.size w w' := by
  obtain ⟨R, hR⟩ : ∃ R, ofV (fcs l) x = R := ⟨_, rfl⟩
  obtain ⟨E, hE⟩ : ∃ E, ofE (fcs l) x = E := ⟨_, rfl⟩
  rw [hR, hE]
  have hck := fun W (hb : Below w.heap.size w W) => ExR.fault_any x d A n c W (by omega) (his.below hb)
  have hvd := fun W (hb : Below w.heap.size w W) (h0 : x.checkE = 0) (h1 : badF (fcs l) = 0) => vd_all l FA fc (by omega) ((badF_zero _).1 h1) x (checkE_zero h0).2.2 d A n c W (his.below hb) (hf.below hb)
  obtain ⟨e0, he0⟩ : ∃ e, x.checkE = e := ⟨_, rfl⟩
  obtain ⟨e1, he1⟩ : ∃ e, badF (fcs l) = e := ⟨_, rfl⟩
  rw [he0] at hck
  rw [he0, he1] at hvd
  have hEE : E = if e0 = 0 then e1 else e0 := by rw [← hE]; unfold ofE; rw [he0, he1]
  have hRR : R = if E = 0 then Ex.ev (fcs l) x else zeroV := by rw [← hR]; unfold ofV; rw [hE]
  have hz0 := BV.new (w.alloc (.cells #[.int .i64 d.op, .int .i64 d.k, .int .i64 d.n, .string d.s, .string d.nm, .slice A n c] 26)) 0 0 ⟨#[]⟩
  have hbx := (Box.new w d A n c).below (b_new _ (.cells #[.int .i64 0, .int .i64 0, .string ⟨#[]⟩] 23))
  have hb1 := b_more (b_new w (.cells #[.int .i64 d.op, .int .i64 d.k, .int .i64 d.n, .string d.s, .string d.nm, .slice A n c] 26)) (.cells #[.int .i64 0, .int .i64 0, .string ⟨#[]⟩] 23)
  rw [World.size_alloc] at hz0
  have HCk := Lib.hid hck
  have HVd := Lib.hid hvd
  have HB := Lib.hid hb1
  have HZ := Lib.hid hz0
  have HX := Lib.hid hbx
  have HF := Lib.hid hf
  have HE1 := Lib.hid he1
  clear hck hvd hb1 hz0 hbx hR hE he0 he1 his hf
  go_enter Tryd.func6, Tryd.ntmps6
  go_wp2_with fail
  refine (HCk.out _ HB.out).mono ?_; rintro e w1 ⟨rfl, hb1⟩
  have HB1 := Lib.hid (b_trans HB.out hb1)
  have hz1 := HZ.out.below hb1
  have hx1 := HX.out.below hb1
  have HZ1 := Lib.hid hz1
  have HX1 := Lib.hid hx1
  clear hb1
  by_cases h0 : e0 = 0
  · subst h0
    rw [if_pos rfl] at hEE
    subst hEE
    clear hz1 hx1
    go_wp2_with fail
    go_loopw [8, 9, 18] (fun _ _ i wr => ∃ k : Nat, i = .int .i64 k ∧ k ≤ l.length ∧ Below w1.heap.size w1 wr ∧ ∀ j (hj : j < (fcs l).length), j < k → (fcs l)[j].2.ok) (fun _ _ i _ => l.length - (intOf i).toNat)
    case atStart => exact ⟨0, rfl, by omega, Below.refl _ _, fun j hj h => by omega⟩
    case round =>
      obtain ⟨k, rfl, hk, hbr, hne⟩ := hrel
      have HNE := Lib.hid hne
      have HBR := Lib.hid hbr
      have hzr := HZ1.out.below hbr
      have hxr := HX1.out.below hbr
      clear hne
      by_cases hlt : k < l.length
      · obtain ⟨a, rfl, hat⟩ := (HF.out.below (b_trans HB1.out hbr)) k hlt
        obtain ⟨f, hfk⟩ : ∃ f, l[k] = f := ⟨_, rfl⟩
        have HFk := Lib.hid hfk
        rw [hfk] at hat
        obtain ⟨h0, h1, h2, h3, h4, h5, h6⟩ := hat
        obtain ⟨fnm, fkk, fkn, fks, fv⟩ := f
        obtain ⟨vk, vn, vs⟩ := fv
        simp only at h0 h1 h2 h3 h4 h5 h6
        obtain ⟨q, hq⟩ : ∃ q, valE vk vn vs.data.toList = q := ⟨_, rfl⟩
        have hvf := fun W => ValRef.fault_any vk vn vs W
        rw [hq] at hvf
        have HVf := Lib.hid hvf
        have HQ := Lib.hid hq
        have HZr := Lib.hid hzr
        clear hvf hq hbr hzr hxr hfk
        go_wp2_with fail
        refine (HVf.out _).mono ?_; rintro e w2 ⟨rfl, hb2⟩
        have hb2' := b_then hb2
        have HB2 := Lib.hid (b_trans HBR.out hb2')
        have hz2 := HZr.out.below hb2'
        clear h0 h1 h2 h3 h4 h5 h6
        by_cases hq0 : q = 0
        · subst hq0
          have hne2 : ∀ j (hj : j < (fcs l).length), j < k + 1 → (fcs l)[j].2.ok := fun j hj hjk => by
            by_cases e : j = k
            · subst e; rw [fcs_at _ _ hlt, HFk.out]; exact HQ.out
            · exact HNE.out j hj (by omega)
          have HN2 := Lib.hid hne2
          clear hne2 hb2 hb2' hz2
          go_wp2_with fail
          go_roundw
          case rel => exact ⟨k + 1, by go_num, by omega, HB2.out, HN2.out⟩
          case measure => simp [intOf]; omega
        · have hEq : E = q := by
            rw [← HE1.out, badF_hit (fcs l) k (by rw [fcs_len]; exact hlt) HNE.out (by rw [fcs_at _ _ hlt, HFk.out]; unfold Vl.ok; rw [HQ.out]; exact hq0), fcs_at _ _ hlt, HFk.out]
            exact HQ.out
          subst hEq
          rw [if_neg hq0] at hRR
          subst hRR
          have t1 : (E != 0) = true := bne_iff_ne.2 hq0
          obtain ⟨z0, z1, z2⟩ := hz2.cells
          have zf := hz2.frozen
          have zl := hz2.lt
          clear hb2 hb2' hz2 hq0
          go_wp2_with fail
          refine bodyPost_ret (v := .tuple #[.agg #[.int .i64 0, .int .i64 0, .string ⟨#[]⟩], .int .i64 E]) (by simp [results, Tryd.results6, go_sem, z0, z1, z2]) rfl ⟨rfl, b_set3 (b_trans HB1.out HB2.out) (w.heap.size + 1) (by omega) _ _ _⟩
      · have hE0 : E = 0 := by
          rw [← HE1.out]
          exact (badF_zero _).2 fun f hf => by
            obtain ⟨j, hj, rfl⟩ := List.getElem_of_mem hf
            exact HNE.out j hj (by rw [fcs_len] at hj; omega)
        subst hE0
        rw [if_pos rfl] at hRR
        have hc := HVd.out wr (b_trans HB1.out hbr) (by first | rfl | trivial) (by first | rfl | trivial)
        rw [← hRR] at hc
        obtain ⟨rk, rn, rs⟩ := R
        have HC := Lib.hid hc
        have HZr := Lib.hid hzr
        obtain ⟨p0, p1, p2, p3, p4, p5⟩ := hxr.cells
        clear hc hRR hzr hxr hbr
        go_wp2_with fail
        refine HC.out.mono ?_; rintro e w3 ⟨rfl, hb3⟩
        have hz3 := HZr.out.below hb3
        obtain ⟨z0, z1, z2⟩ := hz3.cells
        have zf := hz3.frozen
        have zl := hz3.lt
        have HB3 := Lib.hid (b_trans (b_trans HB1.out HBR.out) hb3)
        clear hb3 hz3 p0 p1 p2 p3 p4 p5
        go_wp2_with fail
        refine bodyPost_ret (v := .tuple #[.agg #[.int .i64 rk, .int .i64 rn, .string rs], .int .i64 0]) (by simp [results, Tryd.results6, go_sem, z0, z1, z2]) rfl ⟨rfl, b_set3 HB3.out (w.heap.size + 1) (by omega) _ _ _⟩
  · rw [if_neg h0] at hEE
    subst hEE
    rw [if_neg h0] at hRR
    subst hRR
    have t1 : (E != 0) = true := bne_iff_ne.2 h0
    obtain ⟨z0, z1, z2⟩ := hz1.cells
    have zf := hz1.frozen
    have zl := hz1.lt
    clear hz1 hx1 h0
    go_wp2_with fail
    refine bodyPost_ret (v := .tuple #[.agg #[.int .i64 0, .int .i64 0, .string ⟨#[]⟩], .int .i64 E]) (by simp [results, Tryd.results6, go_sem, z0, z1, z2]) rfl ⟨rfl, b_set3 HB1.out (w.heap.size + 1) (by omega) _ _ _⟩
end Go.Proofs.YtehkebncdahmcaaDoor.VdB
