/- The reference's valued: And, Or. -/
import Derived.Test.YtehkebncdahmcaaDoorVd
namespace Go.Proofs.YtehkebncdahmcaaDoor.VdC
open Go.RowKit
open NumM ValM StrM ExM NmM TyM EvM Kit ExL ExV Ev EvC EvO EvF Vd VdT
set_option linter.unusedVariables false

theorem con_stop (b : Bool) (n : Int) (s : ByteArray) (v : Vl) (h : n ≠ bitI b) : conV b [⟨2, n, s⟩, v] = ⟨2, n, s⟩ := by
  unfold conV
  rw [if_neg (fun g => h g.2)]; rfl
theorem con_go (b : Bool) (n : Int) (s : ByteArray) (v : Vl) (h : n = bitI b) : conV b [⟨2, n, s⟩, v] = condV v := by
  unfold conV
  rw [if_pos ⟨rfl, h⟩]; rfl
theorem cond_num (k n : Int) (s : ByteArray) (h : k = 1 ∨ k = 3) : condV ⟨k, n, s⟩ = flt 9 := by unfold condV; rw [if_pos h]
theorem cond_own (k n : Int) (s : ByteArray) (h : ¬ (k = 1 ∨ k = 3)) : condV ⟨k, n, s⟩ = ⟨k, n, s⟩ := by unfold condV; rw [if_neg h]
set_option maxRecDepth 100000 in
set_option maxHeartbeats 4000000 in
theorem vd_con_15 (k n : Int) (s nm : ByteArray) (xa xb : Ex) (A : Option Addr) (c : Nat) (l : List Fc) (FA : Option Addr) (fc : Nat) (w : World) (hok : (Ex.ev (fcs l) xa).ok) (hA : VdAt l FA fc xa) (hB : VdAt l FA fc xb)
    (hargs : ∀ (j : Nat) (h : j < [xa, xb].length), ∃ a d B n c, A = some a ∧ At w (a.add (j * 6)) d B n c ∧ Is w [xa, xb][j] d B n) (hf : Fcs w FA l) :
    Calls Tryd.prog 17 #[.agg #[.int .i64 15, .int .i64 k, .int .i64 n, .string s, .string nm, .slice A 2 c], .slice FA l.length fc] w (ValOut (conV true [Ex.ev (fcs l) xa, Ex.ev (fcs l) xb]) w) := by
  obtain ⟨a, _, _, _, _, rfl, _, _⟩ := hargs 0 (by simp)
  obtain ⟨da, Ba, na, ca, hatA, hisA⟩ := arg_at hargs 0 (by simp)
  obtain ⟨db, Bb, nb, cb, hatB, hisB⟩ := arg_at hargs 1 (by simp)
  simp only [List.getElem_cons_zero, List.getElem_cons_succ] at hisA hisB
  have e0 : a.add (0 * 6) = a := by unfold Addr.add; simp
  rw [e0] at hatA
  obtain ⟨va, hva⟩ : ∃ v, Ex.ev (fcs l) xa = v := ⟨_, rfl⟩
  obtain ⟨vb, hvb⟩ : ∃ v, Ex.ev (fcs l) xb = v := ⟨_, rfl⟩
  unfold VdAt at hA hB
  rw [hva] at hA hok
  rw [hvb] at hB
  rw [hva, hvb]
  have z0 := BV.new (w.alloc (.cells #[.int .i64 15, .int .i64 k, .int .i64 n, .string s, .string nm, .slice (some a) 2 c] 26)) 0 0 ⟨#[]⟩
  rw [World.size_alloc] at z0
  have x0 := (Box.new w ⟨15, k, n, s, nm⟩ (some a) 2 c).below (b_new _ (.cells #[.int .i64 0, .int .i64 0, .string ⟨#[]⟩] 23))
  have hbW := b_more (b_new w (.cells #[.int .i64 15, .int .i64 k, .int .i64 n, .string s, .string nm, .slice (some a) 2 c] 26)) (.cells #[.int .i64 0, .int .i64 0, .string ⟨#[]⟩] 23)
  obtain ⟨W, hW⟩ : ∃ W, (w.alloc (.cells #[.int .i64 15, .int .i64 k, .int .i64 n, .string s, .string nm, .slice (some a) 2 c] 26)).alloc (.cells #[.int .i64 0, .int .i64 0, .string ⟨#[]⟩] 23) = W := ⟨_, rfl⟩
  simp only at x0
  rw [hW] at z0 x0 hbW
  have HX := Lib.hid x0
  have HZ := Lib.hid z0
  have HB := Lib.hid hbW
  have HW := Lib.hid hW
  have HF := Lib.hid hf
  have HOk := Lib.hid hok
  have HcA := Lib.hid (hA da Ba na ca W (hisA.below hbW) (hf.below hbW))
  have HcB := Lib.hid (fun V (hV : Below w.heap.size w V) => hB db Bb nb cb V (hisB.below hV) (hf.below hV))
  rw [show 1 * 6 = 6 from rfl] at hatB
  have HatB := Lib.hid hatB
  obtain ⟨m0, m1, m2, m3, m4, m5⟩ := x0.cells
  simp only at m0 m1 m2 m3 m4
  obtain ⟨q0, q1, q2, q3, q4, q5⟩ := hatA.below hbW
  clear z0 x0 hbW hW hf hok hA hB hargs hatA hatB hisA hisB hva hvb e0
  go_enter Tryd.func17, Tryd.ntmps17
  go_upto_region 1 with fail
  rw [HW.out]
  go_wp2_with fail
  refine HcA.out.mono ?_; rintro e w1 ⟨rfl, hb1⟩
  obtain ⟨ak, an, az⟩ := va
  have hv1 := BV.new w1 ak an az
  have hx1 := (HX.out.below hb1).below (b_new w1 (.cells #[.int .i64 ak, .int .i64 an, .string az] 23))
  have hz1 := (HZ.out.below hb1).below (b_new w1 (.cells #[.int .i64 ak, .int .i64 an, .string az] 23))
  have hbY := b_more (b_trans HB.out hb1) (.cells #[.int .i64 ak, .int .i64 an, .string az] 23)
  obtain ⟨Y, hY⟩ : ∃ Y, w1.alloc (.cells #[.int .i64 ak, .int .i64 an, .string az] 23) = Y := ⟨_, rfl⟩
  rw [hY] at hv1 hx1 hz1 hbY
  obtain ⟨u0, u1, u2⟩ := hv1.cells
  obtain ⟨p0, p1, p2, p3, p4, p5⟩ := hx1.cells
  simp only at p0
  obtain ⟨z0, z1, z2⟩ := hz1.cells
  have zf := hz1.frozen
  have zl := hz1.lt
  have HZ1 := Lib.hid hz1
  have HBY := Lib.hid hbY
  have HY := Lib.hid hY
  clear m0 m1 m2 m3 m4 m5 q0 q1 q2 q3 q4 q5 hb1 hv1 hx1 hz1 hbY hY
  go_upto_region 12 with fail
  rw [HY.out]
  have hk := ok_kind HOk.out
  simp only at hk
  have hk5 : ak = 1 ∨ ak = 2 ∨ ak = 3 ∨ ak = 4 ∨ ak = 5 := by omega
  rcases hk5 with rfl | rfl | rfl | rfl | rfl
  · have hch : conV true [⟨1, an, az⟩, vb] = flt 9 := rfl
    have HCh := Lib.hid hch
    clear hch hk
    go_wp2_with fail
    refine (no_any 9 _).mono ?_; rintro e w3 ⟨rfl, hb3⟩
    have hz3 := HZ1.out.below hb3
    obtain ⟨z0, z1, z2⟩ := hz3.cells
    have zf := hz3.frozen
    have zl := hz3.lt
    have HB3 := Lib.hid (b_trans HBY.out hb3)
    clear hb3 hz3
    go_wp2_with fail
    refine bodyPost_ret (v := .agg #[.int .i64 5, .int .i64 9, .string ⟨#[]⟩]) (by simp [results, Tryd.results17, go_sem, z0, z1, z2]) rfl ⟨by rw [HCh.out]; rfl, b_set3 HB3.out (w.heap.size + 1) (by omega) _ _ _⟩
  · have hn : an = 0 ∨ an = 1 := by
      rcases ok_cases HOk.out with g | g | g | g | g
      · exact absurd (show (2 : Int) = 1 from g.1) (by decide)
      · exact g.2.1
      · exact absurd (show (2 : Int) = 3 from g.1) (by decide)
      · exact absurd (show (2 : Int) = 4 from g.1) (by decide)
      · exact absurd (show (2 : Int) = 5 from g.1) (by decide)
    rcases hn with rfl | rfl
    · have hch : conV true [⟨2, 0, az⟩, vb] = ⟨2, 0, az⟩ := con_stop true 0 az vb (by decide)
      have HCh := Lib.hid hch
      clear hch hk
      go_wp2_with fail
      refine bodyPost_ret (v := .agg #[.int .i64 2, .int .i64 0, .string az]) (by simp [results, Tryd.results17, go_sem, z0, z1, z2]) rfl ⟨by rw [HCh.out], b_set3 HBY.out (w.heap.size + 1) (by omega) _ _ _⟩
    · have hch : conV true [⟨2, 1, az⟩, vb] = condV vb := con_go true 1 az vb rfl
      have HCh := Lib.hid hch
      obtain ⟨q0, q1, q2, q3, q4, q5⟩ := at_lit (HatB.out.below HBY.out) (by decide)
      have hc := HcB.out Y HBY.out
      have HC := Lib.hid hc
      clear hch hk hc
      go_wp2_with fail
      refine HC.out.mono ?_; rintro e w4 ⟨rfl, hb4⟩
      obtain ⟨bk, bn, bz⟩ := vb
      have hw4 := BV.new w4 bk bn bz
      have hz4 := (HZ1.out.below hb4).below (b_new w4 (.cells #[.int .i64 bk, .int .i64 bn, .string bz] 23))
      have hbX := b_more (b_trans HBY.out hb4) (.cells #[.int .i64 bk, .int .i64 bn, .string bz] 23)
      obtain ⟨X, hX⟩ : ∃ X, w4.alloc (.cells #[.int .i64 bk, .int .i64 bn, .string bz] 23) = X := ⟨_, rfl⟩
      rw [hX] at hw4 hz4 hbX
      obtain ⟨y0, y1, y2⟩ := hw4.cells
      have HZ4 := Lib.hid hz4
      have HBX := Lib.hid hbX
      have HX4 := Lib.hid hX
      have hz4c := hz4.cells
      have zf4 := hz4.frozen
      have zl4 := hz4.lt
      clear z0 z1 z2 zf zl u0 u1 u2 p0 p1 p2 p3 p4 p5 q0 q1 q2 q3 q4 q5 hb4 hw4 hz4 hbX hX
      obtain ⟨z0, z1, z2⟩ := hz4c
      go_upto_region 24 with fail
      rw [HX4.out]
      by_cases hb1 : bk = 1
      · subst hb1
        have hcv := cond_num 1 bn bz (.inl rfl)
        have HCv := Lib.hid hcv
        clear hcv
        go_wp2_with fail
        refine (no_any 9 _).mono ?_; rintro e w3 ⟨rfl, hb3⟩
        have hz3 := HZ4.out.below hb3
        obtain ⟨z0, z1, z2⟩ := hz3.cells
        have zf := hz3.frozen
        have zl := hz3.lt
        have HB3 := Lib.hid (b_trans HBX.out hb3)
        clear hb3 hz3
        go_wp2_with fail
        refine bodyPost_ret (v := .agg #[.int .i64 5, .int .i64 9, .string ⟨#[]⟩]) (by simp [results, Tryd.results17, go_sem, z0, z1, z2]) rfl ⟨by rw [HCh.out, HCv.out]; rfl, b_set3 HB3.out (w.heap.size + 1) (by omega) _ _ _⟩
      · by_cases hb3 : bk = 3
        · subst hb3
          have hcv := cond_num 3 bn bz (.inr rfl)
          have HCv := Lib.hid hcv
          clear hcv hb1
          go_wp2_with fail
          refine (no_any 9 _).mono ?_; rintro e w3 ⟨rfl, hb3⟩
          have hz3 := HZ4.out.below hb3
          obtain ⟨z0, z1, z2⟩ := hz3.cells
          have zf := hz3.frozen
          have zl := hz3.lt
          have HB3 := Lib.hid (b_trans HBX.out hb3)
          clear hb3 hz3
          go_wp2_with fail
          refine bodyPost_ret (v := .agg #[.int .i64 5, .int .i64 9, .string ⟨#[]⟩]) (by simp [results, Tryd.results17, go_sem, z0, z1, z2]) rfl ⟨by rw [HCh.out, HCv.out]; rfl, b_set3 HB3.out (w.heap.size + 1) (by omega) _ _ _⟩
        · have t1 : (bk == 1) = false := beq_eq_false_iff_ne.2 hb1
          have t3 : (bk == 3) = false := beq_eq_false_iff_ne.2 hb3
          have hcv := cond_own bk bn bz (fun g => g.elim hb1 hb3)
          have HCv := Lib.hid hcv
          clear hcv hb1 hb3
          go_wp2_with fail
          refine bodyPost_ret (v := .agg #[.int .i64 bk, .int .i64 bn, .string bz]) (by simp [results, Tryd.results17, go_sem, z0, z1, z2]) rfl ⟨by rw [HCh.out, HCv.out], b_set3 HBX.out (w.heap.size + 1) (by omega) _ _ _⟩
  · have hch : conV true [⟨3, an, az⟩, vb] = flt 9 := rfl
    have HCh := Lib.hid hch
    clear hch hk
    go_wp2_with fail
    refine (no_any 9 _).mono ?_; rintro e w3 ⟨rfl, hb3⟩
    have hz3 := HZ1.out.below hb3
    obtain ⟨z0, z1, z2⟩ := hz3.cells
    have zf := hz3.frozen
    have zl := hz3.lt
    have HB3 := Lib.hid (b_trans HBY.out hb3)
    clear hb3 hz3
    go_wp2_with fail
    refine bodyPost_ret (v := .agg #[.int .i64 5, .int .i64 9, .string ⟨#[]⟩]) (by simp [results, Tryd.results17, go_sem, z0, z1, z2]) rfl ⟨by rw [HCh.out]; rfl, b_set3 HB3.out (w.heap.size + 1) (by omega) _ _ _⟩
  · have hch : conV true [⟨4, an, az⟩, vb] = ⟨4, an, az⟩ := rfl
    have HCh := Lib.hid hch
    clear hch hk
    go_wp2_with fail
    refine bodyPost_ret (v := .agg #[.int .i64 4, .int .i64 an, .string az]) (by simp [results, Tryd.results17, go_sem, z0, z1, z2]) rfl ⟨by rw [HCh.out], b_set3 HBY.out (w.heap.size + 1) (by omega) _ _ _⟩
  · have hch : conV true [⟨5, an, az⟩, vb] = ⟨5, an, az⟩ := rfl
    have HCh := Lib.hid hch
    clear hch hk
    go_wp2_with fail
    refine bodyPost_ret (v := .agg #[.int .i64 5, .int .i64 an, .string az]) (by simp [results, Tryd.results17, go_sem, z0, z1, z2]) rfl ⟨by rw [HCh.out], b_set3 HBY.out (w.heap.size + 1) (by omega) _ _ _⟩
set_option maxRecDepth 100000 in
set_option maxHeartbeats 4000000 in
theorem vd_con_16 (k n : Int) (s nm : ByteArray) (xa xb : Ex) (A : Option Addr) (c : Nat) (l : List Fc) (FA : Option Addr) (fc : Nat) (w : World) (hok : (Ex.ev (fcs l) xa).ok) (hA : VdAt l FA fc xa) (hB : VdAt l FA fc xb)
    (hargs : ∀ (j : Nat) (h : j < [xa, xb].length), ∃ a d B n c, A = some a ∧ At w (a.add (j * 6)) d B n c ∧ Is w [xa, xb][j] d B n) (hf : Fcs w FA l) :
    Calls Tryd.prog 17 #[.agg #[.int .i64 16, .int .i64 k, .int .i64 n, .string s, .string nm, .slice A 2 c], .slice FA l.length fc] w (ValOut (conV false [Ex.ev (fcs l) xa, Ex.ev (fcs l) xb]) w) := by
  obtain ⟨a, _, _, _, _, rfl, _, _⟩ := hargs 0 (by simp)
  obtain ⟨da, Ba, na, ca, hatA, hisA⟩ := arg_at hargs 0 (by simp)
  obtain ⟨db, Bb, nb, cb, hatB, hisB⟩ := arg_at hargs 1 (by simp)
  simp only [List.getElem_cons_zero, List.getElem_cons_succ] at hisA hisB
  have e0 : a.add (0 * 6) = a := by unfold Addr.add; simp
  rw [e0] at hatA
  obtain ⟨va, hva⟩ : ∃ v, Ex.ev (fcs l) xa = v := ⟨_, rfl⟩
  obtain ⟨vb, hvb⟩ : ∃ v, Ex.ev (fcs l) xb = v := ⟨_, rfl⟩
  unfold VdAt at hA hB
  rw [hva] at hA hok
  rw [hvb] at hB
  rw [hva, hvb]
  have z0 := BV.new (w.alloc (.cells #[.int .i64 16, .int .i64 k, .int .i64 n, .string s, .string nm, .slice (some a) 2 c] 26)) 0 0 ⟨#[]⟩
  rw [World.size_alloc] at z0
  have x0 := (Box.new w ⟨16, k, n, s, nm⟩ (some a) 2 c).below (b_new _ (.cells #[.int .i64 0, .int .i64 0, .string ⟨#[]⟩] 23))
  have hbW := b_more (b_new w (.cells #[.int .i64 16, .int .i64 k, .int .i64 n, .string s, .string nm, .slice (some a) 2 c] 26)) (.cells #[.int .i64 0, .int .i64 0, .string ⟨#[]⟩] 23)
  obtain ⟨W, hW⟩ : ∃ W, (w.alloc (.cells #[.int .i64 16, .int .i64 k, .int .i64 n, .string s, .string nm, .slice (some a) 2 c] 26)).alloc (.cells #[.int .i64 0, .int .i64 0, .string ⟨#[]⟩] 23) = W := ⟨_, rfl⟩
  simp only at x0
  rw [hW] at z0 x0 hbW
  have HX := Lib.hid x0
  have HZ := Lib.hid z0
  have HB := Lib.hid hbW
  have HW := Lib.hid hW
  have HF := Lib.hid hf
  have HOk := Lib.hid hok
  have HcA := Lib.hid (hA da Ba na ca W (hisA.below hbW) (hf.below hbW))
  have HcB := Lib.hid (fun V (hV : Below w.heap.size w V) => hB db Bb nb cb V (hisB.below hV) (hf.below hV))
  rw [show 1 * 6 = 6 from rfl] at hatB
  have HatB := Lib.hid hatB
  obtain ⟨m0, m1, m2, m3, m4, m5⟩ := x0.cells
  simp only at m0 m1 m2 m3 m4
  obtain ⟨q0, q1, q2, q3, q4, q5⟩ := hatA.below hbW
  clear z0 x0 hbW hW hf hok hA hB hargs hatA hatB hisA hisB hva hvb e0
  go_enter Tryd.func17, Tryd.ntmps17
  go_upto_region 1 with fail
  rw [HW.out]
  go_wp2_with fail
  refine HcA.out.mono ?_; rintro e w1 ⟨rfl, hb1⟩
  obtain ⟨ak, an, az⟩ := va
  have hv1 := BV.new w1 ak an az
  have hx1 := (HX.out.below hb1).below (b_new w1 (.cells #[.int .i64 ak, .int .i64 an, .string az] 23))
  have hz1 := (HZ.out.below hb1).below (b_new w1 (.cells #[.int .i64 ak, .int .i64 an, .string az] 23))
  have hbY := b_more (b_trans HB.out hb1) (.cells #[.int .i64 ak, .int .i64 an, .string az] 23)
  obtain ⟨Y, hY⟩ : ∃ Y, w1.alloc (.cells #[.int .i64 ak, .int .i64 an, .string az] 23) = Y := ⟨_, rfl⟩
  rw [hY] at hv1 hx1 hz1 hbY
  obtain ⟨u0, u1, u2⟩ := hv1.cells
  obtain ⟨p0, p1, p2, p3, p4, p5⟩ := hx1.cells
  simp only at p0
  obtain ⟨z0, z1, z2⟩ := hz1.cells
  have zf := hz1.frozen
  have zl := hz1.lt
  have HZ1 := Lib.hid hz1
  have HBY := Lib.hid hbY
  have HY := Lib.hid hY
  clear m0 m1 m2 m3 m4 m5 q0 q1 q2 q3 q4 q5 hb1 hv1 hx1 hz1 hbY hY
  go_upto_region 12 with fail
  rw [HY.out]
  have hk := ok_kind HOk.out
  simp only at hk
  have hk5 : ak = 1 ∨ ak = 2 ∨ ak = 3 ∨ ak = 4 ∨ ak = 5 := by omega
  rcases hk5 with rfl | rfl | rfl | rfl | rfl
  · have hch : conV false [⟨1, an, az⟩, vb] = flt 9 := rfl
    have HCh := Lib.hid hch
    clear hch hk
    go_wp2_with fail
    refine (no_any 9 _).mono ?_; rintro e w3 ⟨rfl, hb3⟩
    have hz3 := HZ1.out.below hb3
    obtain ⟨z0, z1, z2⟩ := hz3.cells
    have zf := hz3.frozen
    have zl := hz3.lt
    have HB3 := Lib.hid (b_trans HBY.out hb3)
    clear hb3 hz3
    go_wp2_with fail
    refine bodyPost_ret (v := .agg #[.int .i64 5, .int .i64 9, .string ⟨#[]⟩]) (by simp [results, Tryd.results17, go_sem, z0, z1, z2]) rfl ⟨by rw [HCh.out]; rfl, b_set3 HB3.out (w.heap.size + 1) (by omega) _ _ _⟩
  · have hn : an = 0 ∨ an = 1 := by
      rcases ok_cases HOk.out with g | g | g | g | g
      · exact absurd (show (2 : Int) = 1 from g.1) (by decide)
      · exact g.2.1
      · exact absurd (show (2 : Int) = 3 from g.1) (by decide)
      · exact absurd (show (2 : Int) = 4 from g.1) (by decide)
      · exact absurd (show (2 : Int) = 5 from g.1) (by decide)
    rcases hn with rfl | rfl
    · have hch : conV false [⟨2, 0, az⟩, vb] = condV vb := con_go false 0 az vb rfl
      have HCh := Lib.hid hch
      obtain ⟨q0, q1, q2, q3, q4, q5⟩ := at_lit (HatB.out.below HBY.out) (by decide)
      have hc := HcB.out Y HBY.out
      have HC := Lib.hid hc
      clear hch hk hc
      go_wp2_with fail
      refine HC.out.mono ?_; rintro e w4 ⟨rfl, hb4⟩
      obtain ⟨bk, bn, bz⟩ := vb
      have hw4 := BV.new w4 bk bn bz
      have hz4 := (HZ1.out.below hb4).below (b_new w4 (.cells #[.int .i64 bk, .int .i64 bn, .string bz] 23))
      have hbX := b_more (b_trans HBY.out hb4) (.cells #[.int .i64 bk, .int .i64 bn, .string bz] 23)
      obtain ⟨X, hX⟩ : ∃ X, w4.alloc (.cells #[.int .i64 bk, .int .i64 bn, .string bz] 23) = X := ⟨_, rfl⟩
      rw [hX] at hw4 hz4 hbX
      obtain ⟨y0, y1, y2⟩ := hw4.cells
      have HZ4 := Lib.hid hz4
      have HBX := Lib.hid hbX
      have HX4 := Lib.hid hX
      have hz4c := hz4.cells
      have zf4 := hz4.frozen
      have zl4 := hz4.lt
      clear z0 z1 z2 zf zl u0 u1 u2 p0 p1 p2 p3 p4 p5 q0 q1 q2 q3 q4 q5 hb4 hw4 hz4 hbX hX
      obtain ⟨z0, z1, z2⟩ := hz4c
      go_upto_region 24 with fail
      rw [HX4.out]
      by_cases hb1 : bk = 1
      · subst hb1
        have hcv := cond_num 1 bn bz (.inl rfl)
        have HCv := Lib.hid hcv
        clear hcv
        go_wp2_with fail
        refine (no_any 9 _).mono ?_; rintro e w3 ⟨rfl, hb3⟩
        have hz3 := HZ4.out.below hb3
        obtain ⟨z0, z1, z2⟩ := hz3.cells
        have zf := hz3.frozen
        have zl := hz3.lt
        have HB3 := Lib.hid (b_trans HBX.out hb3)
        clear hb3 hz3
        go_wp2_with fail
        refine bodyPost_ret (v := .agg #[.int .i64 5, .int .i64 9, .string ⟨#[]⟩]) (by simp [results, Tryd.results17, go_sem, z0, z1, z2]) rfl ⟨by rw [HCh.out, HCv.out]; rfl, b_set3 HB3.out (w.heap.size + 1) (by omega) _ _ _⟩
      · by_cases hb3 : bk = 3
        · subst hb3
          have hcv := cond_num 3 bn bz (.inr rfl)
          have HCv := Lib.hid hcv
          clear hcv hb1
          go_wp2_with fail
          refine (no_any 9 _).mono ?_; rintro e w3 ⟨rfl, hb3⟩
          have hz3 := HZ4.out.below hb3
          obtain ⟨z0, z1, z2⟩ := hz3.cells
          have zf := hz3.frozen
          have zl := hz3.lt
          have HB3 := Lib.hid (b_trans HBX.out hb3)
          clear hb3 hz3
          go_wp2_with fail
          refine bodyPost_ret (v := .agg #[.int .i64 5, .int .i64 9, .string ⟨#[]⟩]) (by simp [results, Tryd.results17, go_sem, z0, z1, z2]) rfl ⟨by rw [HCh.out, HCv.out]; rfl, b_set3 HB3.out (w.heap.size + 1) (by omega) _ _ _⟩
        · have t1 : (bk == 1) = false := beq_eq_false_iff_ne.2 hb1
          have t3 : (bk == 3) = false := beq_eq_false_iff_ne.2 hb3
          have hcv := cond_own bk bn bz (fun g => g.elim hb1 hb3)
          have HCv := Lib.hid hcv
          clear hcv hb1 hb3
          go_wp2_with fail
          refine bodyPost_ret (v := .agg #[.int .i64 bk, .int .i64 bn, .string bz]) (by simp [results, Tryd.results17, go_sem, z0, z1, z2]) rfl ⟨by rw [HCh.out, HCv.out], b_set3 HBX.out (w.heap.size + 1) (by omega) _ _ _⟩
    · have hch : conV false [⟨2, 1, az⟩, vb] = ⟨2, 1, az⟩ := con_stop false 1 az vb (by decide)
      have HCh := Lib.hid hch
      clear hch hk
      go_wp2_with fail
      refine bodyPost_ret (v := .agg #[.int .i64 2, .int .i64 1, .string az]) (by simp [results, Tryd.results17, go_sem, z0, z1, z2]) rfl ⟨by rw [HCh.out], b_set3 HBY.out (w.heap.size + 1) (by omega) _ _ _⟩
  · have hch : conV false [⟨3, an, az⟩, vb] = flt 9 := rfl
    have HCh := Lib.hid hch
    clear hch hk
    go_wp2_with fail
    refine (no_any 9 _).mono ?_; rintro e w3 ⟨rfl, hb3⟩
    have hz3 := HZ1.out.below hb3
    obtain ⟨z0, z1, z2⟩ := hz3.cells
    have zf := hz3.frozen
    have zl := hz3.lt
    have HB3 := Lib.hid (b_trans HBY.out hb3)
    clear hb3 hz3
    go_wp2_with fail
    refine bodyPost_ret (v := .agg #[.int .i64 5, .int .i64 9, .string ⟨#[]⟩]) (by simp [results, Tryd.results17, go_sem, z0, z1, z2]) rfl ⟨by rw [HCh.out]; rfl, b_set3 HB3.out (w.heap.size + 1) (by omega) _ _ _⟩
  · have hch : conV false [⟨4, an, az⟩, vb] = ⟨4, an, az⟩ := rfl
    have HCh := Lib.hid hch
    clear hch hk
    go_wp2_with fail
    refine bodyPost_ret (v := .agg #[.int .i64 4, .int .i64 an, .string az]) (by simp [results, Tryd.results17, go_sem, z0, z1, z2]) rfl ⟨by rw [HCh.out], b_set3 HBY.out (w.heap.size + 1) (by omega) _ _ _⟩
  · have hch : conV false [⟨5, an, az⟩, vb] = ⟨5, an, az⟩ := rfl
    have HCh := Lib.hid hch
    clear hch hk
    go_wp2_with fail
    refine bodyPost_ret (v := .agg #[.int .i64 5, .int .i64 an, .string az]) (by simp [results, Tryd.results17, go_sem, z0, z1, z2]) rfl ⟨by rw [HCh.out], b_set3 HBY.out (w.heap.size + 1) (by omega) _ _ _⟩
end Go.Proofs.YtehkebncdahmcaaDoor.VdC
