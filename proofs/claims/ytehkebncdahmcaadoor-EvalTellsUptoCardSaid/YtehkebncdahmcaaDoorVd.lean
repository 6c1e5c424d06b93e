/- The reference's valued: the value of a right formula. -/
import Derived.Test.YtehkebncdahmcaaDoorVdKit
import Derived.Deep.RegionHeld3
import Derived.Deep.DrawnRows
import Derived.Deep.DeepCutAuto
namespace Go.Proofs.YtehkebncdahmcaaDoor.VdT
open Go.RowKit
open NumM ValM StrM ExM NmM TyM EvM Kit ExL ExV Ev EvC EvO EvF Vd
set_option linter.unusedVariables false

set_option maxRecDepth 100000 in
set_option maxHeartbeats 1000000 in
theorem vd_const (op k n : Int) (s nm : ByteArray) (A : Option Addr) (m c : Nat) (lv : Value) (w : World) (h : op = 1) :
    Calls Tryd.prog 17 #[.agg #[.int .i64 op, .int .i64 k, .int .i64 n, .string s, .string nm, .slice A m c], lv] w (ValOut ⟨k, n, s⟩ w) := by
  subst h
  go_enter Tryd.func17, Tryd.ntmps17
  go_wp2_with fail
  refine bodyPost_ret (v := .agg #[.int .i64 k, .int .i64 n, .string s]) (by simp [results, Tryd.results17, go_sem]) rfl ⟨rfl, b_more (b_new _ _) _⟩
set_option maxRecDepth 100000 in
set_option maxHeartbeats 2000000 in
theorem vd_ref (op k n : Int) (s nm : ByteArray) (A : Option Addr) (m c : Nat) (l : List Fc) (FA : Option Addr) (fc : Nat) (w : World) (h : op = 2) (hl : l.length ≤ 1000000000000) (hf : Fcs w FA l) :
    Calls Tryd.prog 17 #[.agg #[.int .i64 op, .int .i64 k, .int .i64 n, .string s, .string nm, .slice A m c], .slice FA l.length fc] w (ValOut (factV (fcs l) nm) w) := by
  subst h
  obtain ⟨R, hR⟩ : ∃ R, factV (fcs l) nm = R := ⟨_, rfl⟩
  rw [hR]
  have z0 := BV.new (w.alloc (.cells #[.int .i64 2, .int .i64 k, .int .i64 n, .string s, .string nm, .slice A m c] 26)) 0 0 ⟨#[]⟩
  rw [World.size_alloc] at z0
  have x0 := (Box.new w ⟨2, k, n, s, nm⟩ A m c).below (b_new _ (.cells #[.int .i64 0, .int .i64 0, .string ⟨#[]⟩] 23))
  have hbW := b_more (b_new w (.cells #[.int .i64 2, .int .i64 k, .int .i64 n, .string s, .string nm, .slice A m c] 26)) (.cells #[.int .i64 0, .int .i64 0, .string ⟨#[]⟩] 23)
  obtain ⟨W, hW⟩ : ∃ W, (w.alloc (.cells #[.int .i64 2, .int .i64 k, .int .i64 n, .string s, .string nm, .slice A m c] 26)).alloc (.cells #[.int .i64 0, .int .i64 0, .string ⟨#[]⟩] 23) = W := ⟨_, rfl⟩
  simp only at x0
  rw [hW] at z0 x0 hbW
  have HX := Lib.hid x0
  have HZ := Lib.hid z0
  have HB := Lib.hid hbW
  have HW := Lib.hid hW
  have HF := Lib.hid hf
  have HR := Lib.hid hR
  obtain ⟨m0, m1, m2, m3, m4, m5⟩ := x0.cells
  simp only at m0 m1 m2 m3 m4
  clear z0 x0 hbW hW hf hR
  go_enter Tryd.func17, Tryd.ntmps17
  go_upto_region 1 with fail
  rw [HW.out]
  go_wp2_with fail
  go_loopw [6, 31] (fun _ i wr => ∃ k : Nat, i = .int .i64 k ∧ k ≤ l.length ∧ Below W.heap.size W wr ∧ ∀ j (hj : j < (fcs l).length), j < k → (fcs l)[j].1 ≠ nm) (fun _ i _ => l.length - (intOf i).toNat)
  case atStart => exact ⟨0, rfl, by omega, Below.refl _ _, fun j hj h => by omega⟩
  case round =>
    obtain ⟨k, rfl, hk, hbr, hne⟩ := hrel
    have HNE := Lib.hid hne
    have HBR := Lib.hid hbr
    have hzr := HZ.out.below hbr
    clear hne
    by_cases hlt : k < l.length
    · obtain ⟨a, rfl, hat⟩ := (HF.out.below (b_trans HB.out hbr)) k hlt
      have hxr := HX.out.below hbr
      obtain ⟨p0, p1, p2, p3, p4, p5⟩ := hxr.cells
      simp only at p4
      have pl := hxr.lt
      obtain ⟨f, hfk⟩ : ∃ f, l[k] = f := ⟨_, rfl⟩
      have HFk := Lib.hid hfk
      rw [hfk] at hat
      obtain ⟨h0, h1, h2, h3, h4, h5, h6⟩ := hat
      obtain ⟨fnm, fkk, fkn, fks, fv⟩ := f
      obtain ⟨vk, vn, vs⟩ := fv
      simp only at h0 h1 h2 h3 h4 h5 h6
      have z0 := hzr.cells
      obtain ⟨z0, z1, z2⟩ := z0
      have zf := hzr.frozen
      have zl := hzr.lt
      by_cases he : fnm = nm
      · have t1 : (fnm.toList == nm.toList) = true := by rw [eqs_of]; exact decide_eq_true he
        have hres : R = ⟨vk, vn, vs⟩ := by
          rw [← HR.out, factV_hit (fcs l) nm k (by rw [fcs_len]; exact hlt) HNE.out (by rw [fcs_at _ _ hlt, HFk.out]; exact he), fcs_at _ _ hlt, HFk.out]
        have HRes := Lib.hid hres
        clear hres hbr hzr hxr hfk he
        go_wp2_with fail
        refine bodyPost_ret (v := .agg #[.int .i64 vk, .int .i64 vn, .string vs]) (by simp [results, Tryd.results17, go_sem, z0, z1, z2, zl]) rfl ⟨by rw [HRes.out], b_more (b_set3 (b_trans HB.out HBR.out) (w.heap.size + 1) (by omega) _ _ _) _⟩
      · have t1 : (fnm.toList == nm.toList) = false := by rw [eqs_of]; exact decide_eq_false he
        have hne2 : ∀ j (hj : j < (fcs l).length), j < k + 1 → (fcs l)[j].1 ≠ nm := fun j hj hjk => by
          by_cases e : j = k
          · subst e; rw [fcs_at _ _ hlt, HFk.out]; exact he
          · exact HNE.out j hj (by omega)
        have HN2 := Lib.hid hne2
        clear hne2 hbr hzr hxr hfk he
        go_wp2_with fail
        go_roundw
        case rel => exact ⟨k + 1, by go_num, by omega, b_more HBR.out _, HN2.out⟩
        case measure => simp [intOf]; omega
    · have hres : R = flt 5 := by
        rw [← HR.out]
        exact factV_none _ _ fun j hj => HNE.out j hj (by rw [fcs_len] at hj; omega)
      have HRes := Lib.hid hres
      clear hres hbr
      go_wp2_with fail
      refine (no_any 5 _).mono ?_; rintro e w3 ⟨rfl, hb3⟩
      have hz3 := hzr.below hb3
      obtain ⟨z0, z1, z2⟩ := hz3.cells
      have zf := hz3.frozen
      have zl := hz3.lt
      have HB3 := Lib.hid (b_trans (b_trans HB.out HBR.out) hb3)
      clear hb3 hz3 hzr
      go_wp2_with fail
      refine bodyPost_ret (v := .agg #[.int .i64 5, .int .i64 5, .string ⟨#[]⟩]) (by simp [results, Tryd.results17, go_sem, z0, z1, z2]) rfl ⟨by rw [HRes.out]; rfl, b_set3 HB3.out (w.heap.size + 1) (by omega) _ _ _⟩

/-- The contract of valued at a formula. -/
def VdAt (l : List Fc) (FA : Option Addr) (fc : Nat) (x : Ex) : Prop := ∀ (d : Nd) (A : Option Addr) (n c : Nat) (w : World), Is w x d A n → Fcs w FA l →
  Calls Tryd.prog 17 #[.agg #[.int .i64 d.op, .int .i64 d.k, .int .i64 d.n, .string d.s, .string d.nm, .slice A n c], .slice FA l.length fc] w (ValOut (Ex.ev (fcs l) x) w)
theorem at_lit {w : World} {a : Addr} {j : Nat} {d : Nd} {B : Option Addr} {n c : Nat} (h : At w (a.add j) d B n c) (hj : j ≠ 0) : w.cell? ⟨a.block, a.off + j, none⟩ = some (.int .i64 d.op) ∧ w.cell? ⟨a.block, a.off + j + 1, none⟩ = some (.int .i64 d.k) ∧ w.cell? ⟨a.block, a.off + j + 2, none⟩ = some (.int .i64 d.n) ∧ w.cell? ⟨a.block, a.off + j + 3, none⟩ = some (.string d.s) ∧ w.cell? ⟨a.block, a.off + j + 4, none⟩ = some (.string d.nm) ∧ w.cell? ⟨a.block, a.off + j + 5, none⟩ = some (.slice B n c) := by
  have e : a.add j = ⟨a.block, a.off + j, none⟩ := by unfold Addr.add; split <;> simp_all
  rw [e] at h
  exact h
/-- Operands that lie in a row. -/
theorem arg_at {w : World} {a : Addr} {l : List Ex} (h : ∀ (j : Nat) (h : j < l.length), ∃ a' d B n c, some a = some a' ∧ At w (a'.add (j * 6)) d B n c ∧ Is w l[j] d B n) (j : Nat) (hj : j < l.length) : ∃ d B n c, At w (a.add (j * 6)) d B n c ∧ Is w l[j] d B n := by
  obtain ⟨a', d, B, n, c, e, h1, h2⟩ := h j hj
  obtain rfl : a = a' := by injection e
  exact ⟨d, B, n, c, h1, h2⟩
set_option maxRecDepth 100000 in
set_option maxHeartbeats 4000000 in
/-- If. -/
theorem vd_if (k n : Int) (s nm : ByteArray) (xa xb xc : Ex) (A : Option Addr) (c : Nat) (l : List Fc) (FA : Option Addr) (fc : Nat) (w : World) (hok : (Ex.ev (fcs l) xa).ok) (hA : VdAt l FA fc xa) (hB : VdAt l FA fc xb) (hC : VdAt l FA fc xc)
    (hargs : ∀ (j : Nat) (h : j < [xa, xb, xc].length), ∃ a d B n c, A = some a ∧ At w (a.add (j * 6)) d B n c ∧ Is w [xa, xb, xc][j] d B n) (hf : Fcs w FA l) :
    Calls Tryd.prog 17 #[.agg #[.int .i64 17, .int .i64 k, .int .i64 n, .string s, .string nm, .slice A 3 c], .slice FA l.length fc] w (ValOut (choV [Ex.ev (fcs l) xa, Ex.ev (fcs l) xb, Ex.ev (fcs l) xc]) w) := by
  obtain ⟨a, _, _, _, _, rfl, _, _⟩ := hargs 0 (by simp)
  obtain ⟨da, Ba, na, ca, hatA, hisA⟩ := arg_at hargs 0 (by simp)
  obtain ⟨db, Bb, nb, cb, hatB, hisB⟩ := arg_at hargs 1 (by simp)
  obtain ⟨dc, Bc, nc, cc, hatC, hisC⟩ := arg_at hargs 2 (by simp)
  simp only [List.getElem_cons_zero, List.getElem_cons_succ] at hisA hisB hisC
  have e0 : a.add (0 * 6) = a := by unfold Addr.add; simp
  rw [e0] at hatA
  obtain ⟨va, hva⟩ : ∃ v, Ex.ev (fcs l) xa = v := ⟨_, rfl⟩
  obtain ⟨vb, hvb⟩ : ∃ v, Ex.ev (fcs l) xb = v := ⟨_, rfl⟩
  obtain ⟨vc, hvc⟩ : ∃ v, Ex.ev (fcs l) xc = v := ⟨_, rfl⟩
  unfold VdAt at hA hB hC
  rw [hva] at hA hok
  rw [hvb] at hB
  rw [hvc] at hC
  rw [hva, hvb, hvc]
  have z0 := BV.new (w.alloc (.cells #[.int .i64 17, .int .i64 k, .int .i64 n, .string s, .string nm, .slice (some a) 3 c] 26)) 0 0 ⟨#[]⟩
  rw [World.size_alloc] at z0
  have x0 := (Box.new w ⟨17, k, n, s, nm⟩ (some a) 3 c).below (b_new _ (.cells #[.int .i64 0, .int .i64 0, .string ⟨#[]⟩] 23))
  have hbW := b_more (b_new w (.cells #[.int .i64 17, .int .i64 k, .int .i64 n, .string s, .string nm, .slice (some a) 3 c] 26)) (.cells #[.int .i64 0, .int .i64 0, .string ⟨#[]⟩] 23)
  obtain ⟨W, hW⟩ : ∃ W, (w.alloc (.cells #[.int .i64 17, .int .i64 k, .int .i64 n, .string s, .string nm, .slice (some a) 3 c] 26)).alloc (.cells #[.int .i64 0, .int .i64 0, .string ⟨#[]⟩] 23) = W := ⟨_, rfl⟩
  simp only at x0
  rw [hW] at z0 x0 hbW
  have HX := Lib.hid x0
  have HZ := Lib.hid z0
  have HB := Lib.hid hbW
  have HW := Lib.hid hW
  have HF := Lib.hid hf
  have HOk := Lib.hid hok
  have HcA := Lib.hid (hA da Ba na ca W (hisA.below hbW) (hf.below hbW))
  have HcB := Lib.hid (fun V (hV : Below w.heap.size w V) => hB db Bb nb cb V (hisB.below hV) (hf.below hV))
  have HcC := Lib.hid (fun V (hV : Below w.heap.size w V) => hC dc Bc nc cc V (hisC.below hV) (hf.below hV))
  rw [show 1 * 6 = 6 from rfl] at hatB
  rw [show 2 * 6 = 12 from rfl] at hatC
  have HatB := Lib.hid hatB
  have HatC := Lib.hid hatC
  obtain ⟨m0, m1, m2, m3, m4, m5⟩ := x0.cells
  simp only at m0 m1 m2 m3 m4
  obtain ⟨q0, q1, q2, q3, q4, q5⟩ := hatA.below hbW
  clear z0 x0 hbW hW hf hok hA hB hC hargs hatA hatB hatC hisA hisB hisC hva hvb hvc e0
  go_enter Tryd.func17, Tryd.ntmps17
  go_upto_region 1 with fail
  rw [HW.out]
  go_wp2_with fail
  refine HcA.out.mono ?_; rintro e w1 ⟨rfl, hb1⟩
  obtain ⟨ak, an, az⟩ := va
  have hv1 := BV.new w1 ak an az
  have hx1 := (HX.out.below hb1).below (b_new w1 (.cells #[.int .i64 ak, .int .i64 an, .string az] 23))
  have hz1 := (HZ.out.below hb1).below (b_new w1 (.cells #[.int .i64 ak, .int .i64 an, .string az] 23))
  have hbY := b_more (b_trans HB.out hb1) (.cells #[.int .i64 ak, .int .i64 an, .string az] 23)
  obtain ⟨Y, hY⟩ : ∃ Y, w1.alloc (.cells #[.int .i64 ak, .int .i64 an, .string az] 23) = Y := ⟨_, rfl⟩
  rw [hY] at hv1 hx1 hz1 hbY
  obtain ⟨u0, u1, u2⟩ := hv1.cells
  obtain ⟨p0, p1, p2, p3, p4, p5⟩ := hx1.cells
  simp only at p0
  obtain ⟨z0, z1, z2⟩ := hz1.cells
  have zf := hz1.frozen
  have zl := hz1.lt
  have HZ1 := Lib.hid hz1
  have HBY := Lib.hid hbY
  have HY := Lib.hid hY
  clear m0 m1 m2 m3 m4 m5 q0 q1 q2 q3 q4 q5 hb1 hv1 hx1 hz1 hbY hY
  go_upto_region 12 with fail
  rw [HY.out]
  have hk := ok_kind HOk.out
  simp only at hk
  have hk5 : ak = 1 ∨ ak = 2 ∨ ak = 3 ∨ ak = 4 ∨ ak = 5 := by omega
  rcases hk5 with rfl | rfl | rfl | rfl | rfl
  · have hch : choV [⟨1, an, az⟩, vb, vc] = flt 9 := rfl
    have HCh := Lib.hid hch
    clear hch hk
    go_wp2_with fail
    refine (no_any 9 _).mono ?_; rintro e w3 ⟨rfl, hb3⟩
    have hz3 := HZ1.out.below hb3
    obtain ⟨z0, z1, z2⟩ := hz3.cells
    have zf := hz3.frozen
    have zl := hz3.lt
    have HB3 := Lib.hid (b_trans HBY.out hb3)
    clear hb3 hz3
    go_wp2_with fail
    refine bodyPost_ret (v := .agg #[.int .i64 5, .int .i64 9, .string ⟨#[]⟩]) (by simp [results, Tryd.results17, go_sem, z0, z1, z2]) rfl ⟨by rw [HCh.out]; rfl, b_set3 HB3.out (w.heap.size + 1) (by omega) _ _ _⟩
  · have hn : an = 0 ∨ an = 1 := by
      rcases ok_cases HOk.out with g | g | g | g | g
      · exact absurd (show (2 : Int) = 1 from g.1) (by decide)
      · exact g.2.1
      · exact absurd (show (2 : Int) = 3 from g.1) (by decide)
      · exact absurd (show (2 : Int) = 4 from g.1) (by decide)
      · exact absurd (show (2 : Int) = 5 from g.1) (by decide)
    rcases hn with rfl | rfl
    · have hch : choV [⟨2, 0, az⟩, vb, vc] = vc := rfl
      have HCh := Lib.hid hch
      obtain ⟨q0, q1, q2, q3, q4, q5⟩ := at_lit (HatC.out.below HBY.out) (by decide)
      have hc := HcC.out Y HBY.out
      have HC := Lib.hid hc
      clear hch hk hc
      go_wp2_with fail
      refine (HC.out).mono ?_; rintro e w3 ⟨rfl, hb3⟩
      have hz3 := HZ1.out.below hb3
      obtain ⟨z0, z1, z2⟩ := hz3.cells
      have zf := hz3.frozen
      have zl := hz3.lt
      have HB3 := Lib.hid (b_trans HBY.out hb3)
      clear hb3 hz3
      go_wp2_with fail
      refine bodyPost_ret (v := .agg #[.int .i64 vc.k, .int .i64 vc.n, .string vc.s]) (by simp [results, Tryd.results17, go_sem, z0, z1, z2]) rfl ⟨by rw [HCh.out], b_set3 HB3.out (w.heap.size + 1) (by omega) _ _ _⟩
    · have hch : choV [⟨2, 1, az⟩, vb, vc] = vb := rfl
      have HCh := Lib.hid hch
      obtain ⟨q0, q1, q2, q3, q4, q5⟩ := at_lit (HatB.out.below HBY.out) (by decide)
      have hc := HcB.out Y HBY.out
      have HC := Lib.hid hc
      clear hch hk hc
      go_wp2_with fail
      refine (HC.out).mono ?_; rintro e w3 ⟨rfl, hb3⟩
      have hz3 := HZ1.out.below hb3
      obtain ⟨z0, z1, z2⟩ := hz3.cells
      have zf := hz3.frozen
      have zl := hz3.lt
      have HB3 := Lib.hid (b_trans HBY.out hb3)
      clear hb3 hz3
      go_wp2_with fail
      refine bodyPost_ret (v := .agg #[.int .i64 vb.k, .int .i64 vb.n, .string vb.s]) (by simp [results, Tryd.results17, go_sem, z0, z1, z2]) rfl ⟨by rw [HCh.out], b_set3 HB3.out (w.heap.size + 1) (by omega) _ _ _⟩
  · have hch : choV [⟨3, an, az⟩, vb, vc] = flt 9 := rfl
    have HCh := Lib.hid hch
    clear hch hk
    go_wp2_with fail
    refine (no_any 9 _).mono ?_; rintro e w3 ⟨rfl, hb3⟩
    have hz3 := HZ1.out.below hb3
    obtain ⟨z0, z1, z2⟩ := hz3.cells
    have zf := hz3.frozen
    have zl := hz3.lt
    have HB3 := Lib.hid (b_trans HBY.out hb3)
    clear hb3 hz3
    go_wp2_with fail
    refine bodyPost_ret (v := .agg #[.int .i64 5, .int .i64 9, .string ⟨#[]⟩]) (by simp [results, Tryd.results17, go_sem, z0, z1, z2]) rfl ⟨by rw [HCh.out]; rfl, b_set3 HB3.out (w.heap.size + 1) (by omega) _ _ _⟩
  · have hch : choV [⟨4, an, az⟩, vb, vc] = ⟨4, an, az⟩ := rfl
    have HCh := Lib.hid hch
    clear hch hk
    go_wp2_with fail
    refine bodyPost_ret (v := .agg #[.int .i64 4, .int .i64 an, .string az]) (by simp [results, Tryd.results17, go_sem, z0, z1, z2]) rfl ⟨by rw [HCh.out], b_set3 HBY.out (w.heap.size + 1) (by omega) _ _ _⟩
  · have hch : choV [⟨5, an, az⟩, vb, vc] = ⟨5, an, az⟩ := rfl
    have HCh := Lib.hid hch
    clear hch hk
    go_wp2_with fail
    refine bodyPost_ret (v := .agg #[.int .i64 5, .int .i64 an, .string az]) (by simp [results, Tryd.results17, go_sem, z0, z1, z2]) rfl ⟨by rw [HCh.out], b_set3 HBY.out (w.heap.size + 1) (by omega) _ _ _⟩
end Go.Proofs.YtehkebncdahmcaaDoor.VdT
