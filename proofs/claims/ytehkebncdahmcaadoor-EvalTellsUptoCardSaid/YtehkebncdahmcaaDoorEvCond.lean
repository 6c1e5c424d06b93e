/- Contracts of the methods condition, choice and connective, over a contract of evaluate for the operands. -/
import Derived.Test.YtehkebncdahmcaaDoorEvStated
import Derived.Test.YtehkebncdahmcaaDoorExVisit
import Derived.Test.YtehkebncdahmcaaDoorNmCopy
namespace Go.Proofs.YtehkebncdahmcaaDoor.EvN
open Go.RowKit Go.Maps
open NumM ValM StrM ExM TyM EvM Kit Ev EvC EvO EvF EvS ExL ExV
set_option linter.unusedVariables false

/-- evaluate's contract at a formula. -/
def EvAt (fs : List (ByteArray × Vl)) (m : Nat) (x : Ex) : Prop := ∀ (d : Nd) (A : Option Addr) (n c : Nat) (w : World), Is w x d A n → FM w m fs →
    Calls Tryd.prog 14 #[.map (some m), .agg #[.int .i64 d.op, .int .i64 d.k, .int .i64 d.n, .string d.s, .string d.nm, .slice A n c]] w fun e w' => e = .returned (.agg #[.int .i64 (Ex.ev fs x).k, .int .i64 (Ex.ev fs x).n, .string (Ex.ev fs x).s]) ∧ Below w.heap.size w w'

set_option maxRecDepth 100000 in
set_option maxHeartbeats 1000000 in
theorem condition_any (fs : List (ByteArray × Vl)) (m : Nat) (x : Ex) (hx : EvAt fs m x) (d : Nd) (A : Option Addr) (n c : Nat) (w : World) (his : Is w x d A n) (hm : FM w m fs) :
    Calls Tryd.prog 55 #[.map (some m), .agg #[.int .i64 d.op, .int .i64 d.k, .int .i64 d.n, .string d.s, .string d.nm, .slice A n c]] w fun e w' => e = .returned (.agg #[.int .i64 (condV (Ex.ev fs x)).k, .int .i64 (condV (Ex.ev fs x)).n, .string (condV (Ex.ev fs x)).s]) ∧ Below w.heap.size w w' := by
  have hb0 := b_new w (.cells #[.int .i64 d.op, .int .i64 d.k, .int .i64 d.n, .string d.s, .string d.nm, .slice A n c] 26)
  have hb1 := b_more hb0 (.cells #[.int .i64 0, .int .i64 0, .string ⟨#[]⟩] 23)
  have hz0 := BV.new (w.alloc (.cells #[.int .i64 d.op, .int .i64 d.k, .int .i64 d.n, .string d.s, .string d.nm, .slice A n c] 26)) 0 0 ⟨#[]⟩
  rw [World.size_alloc] at hz0
  have hc := fun W (hb : Below w.heap.size w W) => hx d A n c W (his.below hb) (hm.below hb)
  obtain ⟨v, hv⟩ : ∃ v, Ex.ev fs x = v := ⟨_, rfl⟩
  rw [hv] at hc ⊢
  obtain ⟨vk, vn, vs⟩ := v
  simp only at hc
  have HC := Lib.hid hc
  have HZ := Lib.hid hz0
  have HB := Lib.hid hb1
  obtain ⟨r, hr⟩ : ∃ r, condV ⟨vk, vn, vs⟩ = r := ⟨_, rfl⟩
  rw [hr]
  have HR := Lib.hid hr
  clear hc hv his hm hx hb0 hb1 hz0 hr
  go_enter Tryd.func55, Tryd.ntmps55
  go_wp2_with fail
  refine (HC.out _ HB.out).mono ?_; rintro e w1 ⟨rfl, hb2⟩
  have hz1 := HZ.out.below hb2
  have hb3 := b_then (b_then hb2)
  have HZ1 := Lib.hid hz1
  have HB3 := Lib.hid hb3
  have zl := hz1.lt
  obtain ⟨x0, x1, x2⟩ := hz1.cells
  have y0 := hz1.frozen
  clear hb2 hz1 hb3
  by_cases hk : vk = 1 ∨ vk = 3
  · obtain rfl : r = ⟨5, 9, ⟨#[]⟩⟩ := by rw [← HR.out]; unfold condV; rw [if_pos hk]; rfl
    clear HR
    rcases hk with rfl | rfl
    all_goals (go_wp2_with fail
               refine (fault_any _ _).mono ?_; rintro e w2 ⟨rfl, hb4⟩
               have hz2 := (HZ1.out.below (b_new _ _)).below hb4
               have hb5 := b_set3 (b_trans (b_more HB3.out _) hb4) (w.heap.size + 1) (by omega) (.int .i64 5) (.int .i64 9) (.string ⟨#[]⟩)
               obtain ⟨u0, u1, u2⟩ := hz2.cells
               have v0 := hz2.frozen
               have zl2 := hz2.lt
               clear hz2 x0 x1 x2 y0 hb4
               go_wp2_with fail
               refine bodyPost_ret (v := .agg #[.int .i64 5, .int .i64 9, .string ⟨#[]⟩]) (by simp [results, Tryd.results55, go_sem, u0, u1, u2]) rfl ⟨rfl, hb5⟩)
  · obtain rfl : r = ⟨vk, vn, vs⟩ := by rw [← HR.out]; unfold condV; rw [if_neg hk]
    have t1 : (vk == 1) = false := beq_eq_false_iff_ne.2 (fun h => hk (.inl h))
    have t3 : (vk == 3) = false := beq_eq_false_iff_ne.2 (fun h => hk (.inr h))
    have kS := HZ1.out.set3 vk vn vs
    have kY := kS.below (b_new _ (.cells #[.int .i64 vk, .int .i64 vn, .string vs] 23))
    have hbY := b_more (b_set3 HB3.out (w.heap.size + 1) (by omega) (.int .i64 vk) (.int .i64 vn) (.string vs)) (.cells #[.int .i64 vk, .int .i64 vn, .string vs] 23)
    have KY := Lib.hid kY
    have KB := Lib.hid hbY
    clear kS kY hbY HR hk
    go_wp2_with fail
    have kY := KY.out
    have hbY := KB.out
    clear KY KB
    generalize hY : World.alloc _ _ = Y at kY hbY ⊢
    obtain ⟨u0, u1, u2⟩ := kY.cells
    clear hY kY x0 x1 x2 y0
    refine bodyPost_ret (v := .agg #[.int .i64 vk, .int .i64 vn, .string vs]) (by simp [results, Tryd.results55, go_sem, u0, u1, u2]) rfl ⟨rfl, hbY⟩
theorem add0 (a : Addr) : a.add (0 * 6) = a := by simp [Addr.add]
theorem add6 (a : Addr) : a.add (1 * 6) = ⟨a.block, a.off + 6, none⟩ := by simp [Addr.add]
theorem add12 (a : Addr) : a.add (2 * 6) = ⟨a.block, a.off + 12, none⟩ := by simp [Addr.add]
/-- An operand's place. -/
theorem arg_at {w : World} {d : Nd} {l : List Ex} {A : Option Addr} {n : Nat} (h : Is w (.mk d l) d A n) (h0 : 0 < l.length) : ∃ a, A = some a ∧ ∀ (j : Nat) (hj : j < l.length), ∃ d2 B m c, At w (a.add (j * 6)) d2 B m c ∧ Is w l[j] d2 B m := by
  obtain ⟨_, _, _, hl⟩ := is_mk.1 h
  obtain ⟨a, _, _, _, _, hA, _⟩ := hl 0 h0
  refine ⟨a, hA, fun j hj => ?_⟩
  obtain ⟨a', d2, B, m, c, hA', h1, h2⟩ := hl j hj
  obtain rfl : a = a' := by rw [hA] at hA'; injection hA'
  exact ⟨d2, B, m, c, h1, h2⟩
theorem tru_of {v : Vl} (h : v.ok) (hk : v.k = 2) : v = ⟨2, 0, ⟨#[]⟩⟩ ∨ v = ⟨2, 1, ⟨#[]⟩⟩ := by
  obtain ⟨k, n, s⟩ := v
  simp only at hk
  subst hk
  rcases ok_cases h with g | ⟨_, g, g2⟩ | g | g | g
  · exact absurd (show (2 : Int) = 1 from g.1) (by decide)
  · have g2 : s = ⟨#[]⟩ := g2
    have g : n = 0 ∨ n = 1 := g
    rcases g with g | g
    · left; rw [g, g2]
    · right; rw [g, g2]
  · exact absurd (show (2 : Int) = 3 from g.1) (by decide)
  · exact absurd (show (2 : Int) = 4 from g.1) (by decide)
  · exact absurd (show (2 : Int) = 5 from g.1) (by decide)

set_option maxRecDepth 100000 in
set_option maxHeartbeats 2000000 in
theorem choice_any (fs : List (ByteArray × Vl)) (m : Nat) (x0 x1 x2 : Ex) (h0 : EvAt fs m x0) (h1 : EvAt fs m x1) (h2 : EvAt fs m x2) (hok : (Ex.ev fs x0).ok) (d : Nd) (A : Option Addr) (c : Nat) (w : World) (his : Is w (.mk d [x0, x1, x2]) d A 3) (hm : FM w m fs) :
    Calls Tryd.prog 28 #[.map (some m), .agg #[.int .i64 d.op, .int .i64 d.k, .int .i64 d.n, .string d.s, .string d.nm, .slice A 3 c]] w fun e w' => e = .returned (.agg #[.int .i64 (choV [Ex.ev fs x0, Ex.ev fs x1, Ex.ev fs x2]).k, .int .i64 (choV [Ex.ev fs x0, Ex.ev fs x1, Ex.ev fs x2]).n, .string (choV [Ex.ev fs x0, Ex.ev fs x1, Ex.ev fs x2]).s]) ∧ Below w.heap.size w w' := by
  obtain ⟨a, rfl, harg⟩ := arg_at his (by simp)
  obtain ⟨d0, B0, m0, c0, hat0, hi0⟩ := harg 0 (by simp)
  obtain ⟨d1, B1, m1, c1, hat1, hi1⟩ := harg 1 (by simp)
  obtain ⟨d2, B2, m2, c2, hat2, hi2⟩ := harg 2 (by simp)
  simp only [List.getElem_cons_zero, List.getElem_cons_succ] at hi0 hi1 hi2
  rw [add0] at hat0
  rw [add6] at hat1
  rw [add12] at hat2
  obtain ⟨r, hr⟩ : ∃ r, choV [Ex.ev fs x0, Ex.ev fs x1, Ex.ev fs x2] = r := ⟨_, rfl⟩
  rw [hr]
  have hc := fun W (hb : Below w.heap.size w W) => condition_any fs m x0 h0 d0 B0 m0 c0 W (hi0.below hb) (hm.below hb)
  have hc1 := fun W (hb : Below w.heap.size w W) => h1 d1 B1 m1 c1 W (hi1.below hb) (hm.below hb)
  have hc2 := fun W (hb : Below w.heap.size w W) => h2 d2 B2 m2 c2 W (hi2.below hb) (hm.below hb)
  have hfk : ∀ v, condV (Ex.ev fs x0) = v → v.k = 2 → Ex.ev fs x0 = v := fun v hv hk => by
    rw [← hv]; rw [← hv] at hk
    unfold condV at hk ⊢
    split at hk
    · exact absurd hk (by decide)
    · rename_i h; rw [if_neg h]
  have hfok := cond_ok hok
  obtain ⟨f, hf⟩ : ∃ f, condV (Ex.ev fs x0) = f := ⟨_, rfl⟩
  rw [hf] at hc hfok
  have hres2 : f.k ≠ 2 → r = f := fun h => by rw [← hr]; unfold choV; simp only [List.getD_cons_zero]; rw [hf, if_neg h]
  have hres1 : ∀ n, f = ⟨2, n, ⟨#[]⟩⟩ → r = if n = 1 then Ex.ev fs x1 else Ex.ev fs x2 := fun n h => by
    rw [← hr]; unfold choV; simp only [List.getD_cons_zero, List.getD_cons_succ]
    rw [hf, h, if_pos rfl, hfk f hf (by rw [h]), h]
  obtain ⟨v1, hv1⟩ : ∃ v, Ex.ev fs x1 = v := ⟨_, rfl⟩
  obtain ⟨v2, hv2⟩ : ∃ v, Ex.ev fs x2 = v := ⟨_, rfl⟩
  rw [hv1] at hc1
  rw [hv2] at hc2
  rw [hv1, hv2] at hres1
  have hb0 := b_new w (.cells #[.int .i64 d.op, .int .i64 d.k, .int .i64 d.n, .string d.s, .string d.nm, .slice (some a) 3 c] 26)
  have hb1 := b_more hb0 (.cells #[.int .i64 0, .int .i64 0, .string ⟨#[]⟩] 23)
  have hz0 := BV.new (w.alloc (.cells #[.int .i64 d.op, .int .i64 d.k, .int .i64 d.n, .string d.s, .string d.nm, .slice (some a) 3 c] 26)) 0 0 ⟨#[]⟩
  have hbx := (Box.new w d (some a) 3 c).below (b_new _ (.cells #[.int .i64 0, .int .i64 0, .string ⟨#[]⟩] 23))
  rw [World.size_alloc] at hz0
  obtain ⟨p0, p1, p2, p3, p4, p5⟩ := hat0.below hb1
  have HC := Lib.hid hc
  have HC1 := Lib.hid hc1
  have HC2 := Lib.hid hc2
  have HZ := Lib.hid hz0
  have HB := Lib.hid hb1
  have HBx := Lib.hid hbx
  have H1 := Lib.hid hat1
  have H2 := Lib.hid hat2
  have HR1 := Lib.hid hres1
  have HR2 := Lib.hid hres2
  have HFo := Lib.hid hfok
  clear hc hc1 hc2 hz0 hb0 hb1 hbx hat0 hat1 hat2 hres1 hres2 hfok hf hfk hr hv1 hv2 his hm hi0 hi1 hi2 harg hok h0 h1 h2
  obtain ⟨fk, fn, ft⟩ := f
  obtain ⟨v1k, v1n, v1s⟩ := v1
  obtain ⟨v2k, v2n, v2s⟩ := v2
  go_enter Tryd.func28, Tryd.ntmps28
  go_wp2_with fail
  refine (HC.out _ HB.out).mono ?_; rintro e w1 ⟨rfl, hb2⟩
  have hz1 := HZ.out.below hb2
  have hb3 := b_then (b_then hb2)
  have HZ1 := Lib.hid hz1
  have HB3 := Lib.hid hb3
  have HBx1 := Lib.hid (HBx.out.below hb2)
  have zl := hz1.lt
  clear hz1 hb3 hb2 p0 p1 p2 p3 p4 p5
  by_cases hk : fk = 2
  · subst hk
    rcases tru_of HFo.out rfl with he | he
    all_goals (injection he with _ he1 he2; subst he1 he2)
    · obtain rfl : r = ⟨v2k, v2n, v2s⟩ := (HR1.out 0 rfl).trans (if_neg (by decide))
      have hz2 := HZ1.out.below (b_new w1 (.cells #[.int .i64 2, .int .i64 0, .string ⟨#[]⟩] 23))
      have HZ2 := Lib.hid hz2
      have HBx2 := Lib.hid (HBx1.out.below (b_new w1 (.cells #[.int .i64 2, .int .i64 0, .string ⟨#[]⟩] 23)))
      have HB4 := Lib.hid (b_more HB3.out (.cells #[.int .i64 2, .int .i64 0, .string ⟨#[]⟩] 23))
      have hbl := Below.refl (w1.alloc (.cells #[.int .i64 2, .int .i64 0, .string ⟨#[]⟩] 23)).heap.size (w1.alloc (.cells #[.int .i64 2, .int .i64 0, .string ⟨#[]⟩] 23))
      clear hz2
      go_wp2_with fail
      go_region_with (go_at_call 56; refine (truth_t _).mono ?_; rintro e w2 ⟨rfl, hb5⟩; have hbl := (by first | exact b_step hbl hb5 | exact b_step (b_drew hbl) hb5 | exact b_step hbl (b_undrew hb5) : Below (w1.alloc (.cells #[.int .i64 2, .int .i64 0, .string ⟨#[]⟩] 23)).heap.size (w1.alloc (.cells #[.int .i64 2, .int .i64 0, .string ⟨#[]⟩] 23)) w2); obtain ⟨q1, q2⟩ := bcell hbl; have z1 := zlt hbl)
      all_goals (have hz3 := HZ2.out.below hbl
                 have hx3 := HBx2.out.below hbl
                 have hb6 := b_trans HB4.out hbl
                 obtain ⟨n0, n1, n2, n3, n4, n5⟩ := hx3.cells
                 obtain ⟨s0, s1, s2, s3, s4, s5⟩ := H2.out.below hb6
                 have HZ3 := Lib.hid hz3
                 have HB6 := Lib.hid hb6
                 clear q1 q2 z1 hbl hx3 hz3 hb6 hb5
                 go_wp2_with fail
                 refine (HC2.out _ HB6.out).mono ?_; rintro e w3 ⟨rfl, hb7⟩
                 have hz4 := HZ3.out.below hb7
                 have hbE := b_set3 (b_trans HB6.out hb7) (w.heap.size + 1) (by omega) (.int .i64 v2k) (.int .i64 v2n) (.string v2s)
                 obtain ⟨u0, u1, u2⟩ := hz4.cells
                 have v0 := hz4.frozen
                 have zl2 := hz4.lt
                 clear hz4 hb7 n0 n1 n2 n3 n4 n5 s0 s1 s2 s3 s4 s5
                 go_wp2_with fail
                 refine bodyPost_ret (v := .agg #[.int .i64 v2k, .int .i64 v2n, .string v2s]) (by simp [results, Tryd.results28, go_sem, u0, u1, u2]) rfl ⟨rfl, hbE⟩)
    · obtain rfl : r = ⟨v1k, v1n, v1s⟩ := (HR1.out 1 rfl).trans (if_pos rfl)
      have hz2 := HZ1.out.below (b_new w1 (.cells #[.int .i64 2, .int .i64 1, .string ⟨#[]⟩] 23))
      have HZ2 := Lib.hid hz2
      have HBx2 := Lib.hid (HBx1.out.below (b_new w1 (.cells #[.int .i64 2, .int .i64 1, .string ⟨#[]⟩] 23)))
      have HB4 := Lib.hid (b_more HB3.out (.cells #[.int .i64 2, .int .i64 1, .string ⟨#[]⟩] 23))
      have hbl := Below.refl (w1.alloc (.cells #[.int .i64 2, .int .i64 1, .string ⟨#[]⟩] 23)).heap.size (w1.alloc (.cells #[.int .i64 2, .int .i64 1, .string ⟨#[]⟩] 23))
      clear hz2
      go_wp2_with fail
      go_region_with (go_at_call 56; refine (truth_t _).mono ?_; rintro e w2 ⟨rfl, hb5⟩; have hbl := (by first | exact b_step hbl hb5 | exact b_step (b_drew hbl) hb5 | exact b_step hbl (b_undrew hb5) : Below (w1.alloc (.cells #[.int .i64 2, .int .i64 1, .string ⟨#[]⟩] 23)).heap.size (w1.alloc (.cells #[.int .i64 2, .int .i64 1, .string ⟨#[]⟩] 23)) w2); obtain ⟨q1, q2⟩ := bcell hbl; have z1 := zlt hbl)
      all_goals (have hz3 := HZ2.out.below hbl
                 have hx3 := HBx2.out.below hbl
                 have hb6 := b_trans HB4.out hbl
                 obtain ⟨n0, n1, n2, n3, n4, n5⟩ := hx3.cells
                 obtain ⟨s0, s1, s2, s3, s4, s5⟩ := H1.out.below hb6
                 have HZ3 := Lib.hid hz3
                 have HB6 := Lib.hid hb6
                 clear q1 q2 z1 hbl hx3 hz3 hb6 hb5
                 go_wp2_with fail
                 refine (HC1.out _ HB6.out).mono ?_; rintro e w3 ⟨rfl, hb7⟩
                 have hz4 := HZ3.out.below hb7
                 have hbE := b_set3 (b_trans HB6.out hb7) (w.heap.size + 1) (by omega) (.int .i64 v1k) (.int .i64 v1n) (.string v1s)
                 obtain ⟨u0, u1, u2⟩ := hz4.cells
                 have v0 := hz4.frozen
                 have zl2 := hz4.lt
                 clear hz4 hb7 n0 n1 n2 n3 n4 n5 s0 s1 s2 s3 s4 s5
                 go_wp2_with fail
                 refine bodyPost_ret (v := .agg #[.int .i64 v1k, .int .i64 v1n, .string v1s]) (by simp [results, Tryd.results28, go_sem, u0, u1, u2]) rfl ⟨rfl, hbE⟩)
  · obtain rfl : r = ⟨fk, fn, ft⟩ := HR2.out hk
    have tk : (fk == 2) = false := beq_eq_false_iff_ne.2 hk
    obtain ⟨u0, u1, u2⟩ := HZ1.out.cells
    have v0 := HZ1.out.frozen
    have kS := HZ1.out.set3 fk fn ft
    have kY := kS.below (b_new _ (.cells #[.int .i64 fk, .int .i64 fn, .string ft] 23))
    have hbY := b_more (b_set3 HB3.out (w.heap.size + 1) (by omega) (.int .i64 fk) (.int .i64 fn) (.string ft)) (.cells #[.int .i64 fk, .int .i64 fn, .string ft] 23)
    have KY := Lib.hid kY
    have KB := Lib.hid hbY
    clear kS kY hbY
    go_wp2_with fail
    have kY := KY.out
    have hbY := KB.out
    clear KY KB
    generalize hY : World.alloc _ _ = Y at kY hbY ⊢
    obtain ⟨t0, t1, t2⟩ := kY.cells
    clear hY kY u0 u1 u2 v0
    refine bodyPost_ret (v := .agg #[.int .i64 fk, .int .i64 fn, .string ft]) (by simp [results, Tryd.results28, go_sem, t0, t1, t2]) rfl ⟨rfl, hbY⟩

set_option maxRecDepth 100000 in
set_option maxHeartbeats 4000000 in
theorem con_and (fs : List (ByteArray × Vl)) (m : Nat) (x0 x1 : Ex) (h0 : EvAt fs m x0) (h1 : EvAt fs m x1) (hok : (Ex.ev fs x0).ok) (d : Nd) (hd : d.op = 15) (A : Option Addr) (c : Nat) (w : World) (his : Is w (.mk d [x0, x1]) d A 2) (hm : FM w m fs) :
    Calls Tryd.prog 29 #[.map (some m), .agg #[.int .i64 d.op, .int .i64 d.k, .int .i64 d.n, .string d.s, .string d.nm, .slice A 2 c]] w fun e w' => e = .returned (.agg #[.int .i64 (conV true [Ex.ev fs x0, Ex.ev fs x1]).k, .int .i64 (conV true [Ex.ev fs x0, Ex.ev fs x1]).n, .string (conV true [Ex.ev fs x0, Ex.ev fs x1]).s]) ∧ Below w.heap.size w w' := by
  obtain ⟨a, rfl, harg⟩ := arg_at his (by simp)
  obtain ⟨d0, B0, m0, c0, hat0, hi0⟩ := harg 0 (by simp)
  obtain ⟨d1, B1, m1, c1, hat1, hi1⟩ := harg 1 (by simp)
  simp only [List.getElem_cons_zero, List.getElem_cons_succ] at hi0 hi1
  rw [add0] at hat0
  rw [add6] at hat1
  obtain ⟨r, hr⟩ : ∃ r, conV true [Ex.ev fs x0, Ex.ev fs x1] = r := ⟨_, rfl⟩
  rw [hr]
  have hc := fun W (hb : Below w.heap.size w W) => condition_any fs m x0 h0 d0 B0 m0 c0 W (hi0.below hb) (hm.below hb)
  have hc1 := fun W (hb : Below w.heap.size w W) => condition_any fs m x1 h1 d1 B1 m1 c1 W (hi1.below hb) (hm.below hb)
  have hfk : ∀ v, condV (Ex.ev fs x0) = v → v.k = 2 → Ex.ev fs x0 = v := fun v hv hk => by
    rw [← hv]; rw [← hv] at hk
    unfold condV at hk ⊢
    split at hk
    · exact absurd hk (by decide)
    · rename_i h; rw [if_neg h]
  have hkf : (condV (Ex.ev fs x0)).k ≠ 2 → (Ex.ev fs x0).k ≠ 2 := fun h h2 => h (by unfold condV; rw [if_neg (by omega)]; exact h2)
  have hfok := cond_ok hok
  have hfk45 : (condV (Ex.ev fs x0)).k ≠ 1 ∧ (condV (Ex.ev fs x0)).k ≠ 3 := by
    unfold condV; split
    · exact ⟨by decide, by decide⟩
    · rename_i h; exact ⟨fun g => h (.inl g), fun g => h (.inr g)⟩
  obtain ⟨f, hf⟩ : ∃ f, condV (Ex.ev fs x0) = f := ⟨_, rfl⟩
  have hres2 : f.k ≠ 2 → r = f := fun h => by rw [← hf] at h; rw [← hr]; unfold conV; simp only [List.getD_cons_zero, List.getD_cons_succ]; rw [if_neg (fun g => hkf h g.1), hf]
  have hres1 : ∀ n, f = ⟨2, n, ⟨#[]⟩⟩ → r = if n = bitI true then condV (Ex.ev fs x1) else f := fun n h => by
    have e := hfk f hf (by rw [h])
    rw [← hr]; unfold conV; simp only [List.getD_cons_zero, List.getD_cons_succ]
    rw [hf, e, h]
    by_cases g : n = bitI true
    · rw [if_pos ⟨rfl, g⟩, if_pos g]
    · rw [if_neg (fun q => g q.2), if_neg g]
  rw [hf] at hc hfok hfk45
  obtain ⟨v1, hv1⟩ : ∃ v, condV (Ex.ev fs x1) = v := ⟨_, rfl⟩
  rw [hv1] at hc1 hres1
  have hb0 := b_new w (.cells #[.int .i64 d.op, .int .i64 d.k, .int .i64 d.n, .string d.s, .string d.nm, .slice (some a) 2 c] 26)
  have hb1 := b_more hb0 (.cells #[.int .i64 0, .int .i64 0, .string ⟨#[]⟩] 23)
  have hz0 := BV.new (w.alloc (.cells #[.int .i64 d.op, .int .i64 d.k, .int .i64 d.n, .string d.s, .string d.nm, .slice (some a) 2 c] 26)) 0 0 ⟨#[]⟩
  have hbx := (Box.new w d (some a) 2 c).below (b_new _ (.cells #[.int .i64 0, .int .i64 0, .string ⟨#[]⟩] 23))
  rw [World.size_alloc] at hz0
  obtain ⟨dop, dk, dn, ds, dnm⟩ := d
  obtain rfl : dop = 15 := hd
  obtain ⟨p0, p1, p2, p3, p4, p5⟩ := hat0.below hb1
  have HC := Lib.hid hc
  have HC1 := Lib.hid hc1
  have HZ := Lib.hid hz0
  have HB := Lib.hid hb1
  have HBx := Lib.hid hbx
  have H1 := Lib.hid hat1
  have HR1 := Lib.hid hres1
  have HR2 := Lib.hid hres2
  have HFo := Lib.hid hfok
  have HF45 := Lib.hid hfk45
  clear hc hc1 hz0 hb0 hb1 hbx hat0 hat1 hres1 hres2 hfok hf hfk hkf hr hv1 his hm hi0 hi1 harg hok h0 h1 hfk45
  obtain ⟨fk, fn, ft⟩ := f
  obtain ⟨v1k, v1n, v1s⟩ := v1
  go_enter Tryd.func29, Tryd.ntmps29
  go_wp2_with fail
  refine (HC.out _ HB.out).mono ?_; rintro e w1 ⟨rfl, hb2⟩
  have hz1 := HZ.out.below hb2
  have hb3 := b_then (b_then hb2)
  have HZ1 := Lib.hid hz1
  have HB3 := Lib.hid hb3
  have HBx1 := Lib.hid (HBx.out.below hb2)
  have zl := hz1.lt
  clear hz1 hb3 hb2 p0 p1 p2 p3 p4 p5
  have hin : fk ≠ 2 → fk = 4 ∨ fk = 5 := fun h => by have h1 := ok_kind HFo.out; have h2 := HF45.out; simp only at h1 h2; omega
  have HIn := Lib.hid hin
  clear hin
  by_cases hk : fk = 2
  · subst hk
    rcases tru_of HFo.out rfl with he | he
    all_goals (injection he with _ he1 he2; subst he1 he2)
    · obtain rfl : r = ⟨2, 0, ⟨#[]⟩⟩ := (HR1.out 0 rfl).trans (if_neg (by decide))
      have hz2 := HZ1.out.below (b_new w1 (.cells #[.int .i64 2, .int .i64 0, .string ⟨#[]⟩] 23))
      have HZ2 := Lib.hid hz2
      have HBx2 := Lib.hid (HBx1.out.below (b_new w1 (.cells #[.int .i64 2, .int .i64 0, .string ⟨#[]⟩] 23)))
      have HB4 := Lib.hid (b_more HB3.out (.cells #[.int .i64 2, .int .i64 0, .string ⟨#[]⟩] 23))
      have HV := Lib.hid (BV.new w1 2 0 ⟨#[]⟩)
      have hbl := Below.refl (w1.alloc (.cells #[.int .i64 2, .int .i64 0, .string ⟨#[]⟩] 23)).heap.size (w1.alloc (.cells #[.int .i64 2, .int .i64 0, .string ⟨#[]⟩] 23))
      obtain ⟨g0, g1, g2, g3, g4, g5⟩ := HBx2.out.cells
      clear hz2
      go_wp2_with fail
      go_region_with (go_at_call 56; refine (truth_t _).mono ?_; rintro e w2 ⟨rfl, hb5⟩; have hbl := (by first | exact b_step hbl hb5 | exact b_step (b_drew hbl) hb5 | exact b_step hbl (b_undrew hb5) : Below (w1.alloc (.cells #[.int .i64 2, .int .i64 0, .string ⟨#[]⟩] 23)).heap.size (w1.alloc (.cells #[.int .i64 2, .int .i64 0, .string ⟨#[]⟩] 23)) w2); obtain ⟨q1, q2⟩ := bcell hbl; have z1 := zlt hbl)
      all_goals (have hz3 := HZ2.out.below hbl
                 have hb6 := b_trans HB4.out hbl
                 have hv3 := HV.out.below hbl
                 obtain ⟨n0, n1, n2⟩ := hv3.cells
                 obtain ⟨u0, u1, u2⟩ := hz3.cells
                 have v0 := hz3.frozen
                 have zl2 := hz3.lt
                 have hbE := b_set3 hb6 (w.heap.size + 1) (by omega) (.int .i64 2) (.int .i64 0) (.string ⟨#[]⟩)
                 clear q1 q2 z1 hbl hz3 hb6 hv3 g0 g1 g2 g3 g4 g5
                 go_wp2_with fail
                 refine bodyPost_ret (v := .agg #[.int .i64 2, .int .i64 0, .string ⟨#[]⟩]) (by simp [results, Tryd.results29, go_sem, u0, u1, u2]) rfl ⟨rfl, hbE⟩)
    · obtain rfl : r = ⟨v1k, v1n, v1s⟩ := (HR1.out 1 rfl).trans (if_pos rfl)
      have hz2 := HZ1.out.below (b_new w1 (.cells #[.int .i64 2, .int .i64 1, .string ⟨#[]⟩] 23))
      have HZ2 := Lib.hid hz2
      have HBx2 := Lib.hid (HBx1.out.below (b_new w1 (.cells #[.int .i64 2, .int .i64 1, .string ⟨#[]⟩] 23)))
      have HB4 := Lib.hid (b_more HB3.out (.cells #[.int .i64 2, .int .i64 1, .string ⟨#[]⟩] 23))
      have hbl := Below.refl (w1.alloc (.cells #[.int .i64 2, .int .i64 1, .string ⟨#[]⟩] 23)).heap.size (w1.alloc (.cells #[.int .i64 2, .int .i64 1, .string ⟨#[]⟩] 23))
      obtain ⟨g0, g1, g2, g3, g4, g5⟩ := HBx2.out.cells
      clear hz2
      go_wp2_with fail
      go_region_with (go_at_call 56; refine (truth_t _).mono ?_; rintro e w2 ⟨rfl, hb5⟩; have hbl := (by first | exact b_step hbl hb5 | exact b_step (b_drew hbl) hb5 | exact b_step hbl (b_undrew hb5) : Below (w1.alloc (.cells #[.int .i64 2, .int .i64 1, .string ⟨#[]⟩] 23)).heap.size (w1.alloc (.cells #[.int .i64 2, .int .i64 1, .string ⟨#[]⟩] 23)) w2); obtain ⟨q1, q2⟩ := bcell hbl; have z1 := zlt hbl)
      all_goals (have hz3 := HZ2.out.below hbl
                 have hx3 := HBx2.out.below hbl
                 have hb6 := b_trans HB4.out hbl
                 obtain ⟨n0, n1, n2, n3, n4, n5⟩ := hx3.cells
                 obtain ⟨s0, s1, s2, s3, s4, s5⟩ := H1.out.below hb6
                 have HZ3 := Lib.hid hz3
                 have HB6 := Lib.hid hb6
                 clear q1 q2 z1 hbl g0 g1 g2 g3 g4 g5 hx3 hz3 hb6 hb5
                 go_wp2_with fail
                 refine (HC1.out _ HB6.out).mono ?_; rintro e w3 ⟨rfl, hb7⟩
                 have hz4 := HZ3.out.below hb7
                 have hbE := b_set3 (b_trans HB6.out hb7) (w.heap.size + 1) (by omega) (.int .i64 v1k) (.int .i64 v1n) (.string v1s)
                 obtain ⟨u0, u1, u2⟩ := hz4.cells
                 have v0 := hz4.frozen
                 have zl2 := hz4.lt
                 clear hz4 hb7 n0 n1 n2 n3 n4 n5 s0 s1 s2 s3 s4 s5
                 go_wp2_with fail
                 refine bodyPost_ret (v := .agg #[.int .i64 v1k, .int .i64 v1n, .string v1s]) (by simp [results, Tryd.results29, go_sem, u0, u1, u2]) rfl ⟨rfl, hbE⟩)
  · obtain rfl : r = ⟨fk, fn, ft⟩ := HR2.out hk
    rcases HIn.out hk with rfl | rfl
    · have hz2 := HZ1.out.below (b_new w1 (.cells #[.int .i64 4, .int .i64 fn, .string ft] 23))
      have HZ2 := Lib.hid hz2
      have HBx2 := Lib.hid (HBx1.out.below (b_new w1 (.cells #[.int .i64 4, .int .i64 fn, .string ft] 23)))
      have HB4 := Lib.hid (b_more HB3.out (.cells #[.int .i64 4, .int .i64 fn, .string ft] 23))
      have HV := Lib.hid (BV.new w1 4 fn ft)
      have hbl := Below.refl (w1.alloc (.cells #[.int .i64 4, .int .i64 fn, .string ft] 23)).heap.size (w1.alloc (.cells #[.int .i64 4, .int .i64 fn, .string ft] 23))
      obtain ⟨g0, g1, g2, g3, g4, g5⟩ := HBx2.out.cells
      clear hz2
      go_wp2_with fail
      go_region_with (go_at_call 56; refine (truth_t _).mono ?_; rintro e w2 ⟨rfl, hb5⟩; have hbl := (by first | exact b_step hbl hb5 | exact b_step (b_drew hbl) hb5 | exact b_step hbl (b_undrew hb5) : Below (w1.alloc (.cells #[.int .i64 4, .int .i64 fn, .string ft] 23)).heap.size (w1.alloc (.cells #[.int .i64 4, .int .i64 fn, .string ft] 23)) w2); obtain ⟨q1, q2⟩ := bcell hbl; have z1 := zlt hbl)
      all_goals (have hz3 := HZ2.out.below hbl
                 have hb6 := b_trans HB4.out hbl
                 have hv3 := HV.out.below hbl
                 obtain ⟨n0, n1, n2⟩ := hv3.cells
                 obtain ⟨u0, u1, u2⟩ := hz3.cells
                 have v0 := hz3.frozen
                 have zl2 := hz3.lt
                 have hbE := b_set3 hb6 (w.heap.size + 1) (by omega) (.int .i64 4) (.int .i64 fn) (.string ft)
                 clear q1 q2 z1 hbl hz3 hb6 hv3 g0 g1 g2 g3 g4 g5
                 go_wp2_with fail
                 refine bodyPost_ret (v := .agg #[.int .i64 4, .int .i64 fn, .string ft]) (by simp [results, Tryd.results29, go_sem, u0, u1, u2]) rfl ⟨rfl, hbE⟩)
    · have hz2 := HZ1.out.below (b_new w1 (.cells #[.int .i64 5, .int .i64 fn, .string ft] 23))
      have HZ2 := Lib.hid hz2
      have HBx2 := Lib.hid (HBx1.out.below (b_new w1 (.cells #[.int .i64 5, .int .i64 fn, .string ft] 23)))
      have HB4 := Lib.hid (b_more HB3.out (.cells #[.int .i64 5, .int .i64 fn, .string ft] 23))
      have HV := Lib.hid (BV.new w1 5 fn ft)
      have hbl := Below.refl (w1.alloc (.cells #[.int .i64 5, .int .i64 fn, .string ft] 23)).heap.size (w1.alloc (.cells #[.int .i64 5, .int .i64 fn, .string ft] 23))
      obtain ⟨g0, g1, g2, g3, g4, g5⟩ := HBx2.out.cells
      clear hz2
      go_wp2_with fail
      go_region_with (go_at_call 56; refine (truth_t _).mono ?_; rintro e w2 ⟨rfl, hb5⟩; have hbl := (by first | exact b_step hbl hb5 | exact b_step (b_drew hbl) hb5 | exact b_step hbl (b_undrew hb5) : Below (w1.alloc (.cells #[.int .i64 5, .int .i64 fn, .string ft] 23)).heap.size (w1.alloc (.cells #[.int .i64 5, .int .i64 fn, .string ft] 23)) w2); obtain ⟨q1, q2⟩ := bcell hbl; have z1 := zlt hbl)
      all_goals (have hz3 := HZ2.out.below hbl
                 have hb6 := b_trans HB4.out hbl
                 have hv3 := HV.out.below hbl
                 obtain ⟨n0, n1, n2⟩ := hv3.cells
                 obtain ⟨u0, u1, u2⟩ := hz3.cells
                 have v0 := hz3.frozen
                 have zl2 := hz3.lt
                 have hbE := b_set3 hb6 (w.heap.size + 1) (by omega) (.int .i64 5) (.int .i64 fn) (.string ft)
                 clear q1 q2 z1 hbl hz3 hb6 hv3 g0 g1 g2 g3 g4 g5
                 go_wp2_with fail
                 refine bodyPost_ret (v := .agg #[.int .i64 5, .int .i64 fn, .string ft]) (by simp [results, Tryd.results29, go_sem, u0, u1, u2]) rfl ⟨rfl, hbE⟩)

set_option maxRecDepth 100000 in
set_option maxHeartbeats 4000000 in
theorem con_or (fs : List (ByteArray × Vl)) (m : Nat) (x0 x1 : Ex) (h0 : EvAt fs m x0) (h1 : EvAt fs m x1) (hok : (Ex.ev fs x0).ok) (d : Nd) (hd : d.op = 16) (A : Option Addr) (c : Nat) (w : World) (his : Is w (.mk d [x0, x1]) d A 2) (hm : FM w m fs) :
    Calls Tryd.prog 29 #[.map (some m), .agg #[.int .i64 d.op, .int .i64 d.k, .int .i64 d.n, .string d.s, .string d.nm, .slice A 2 c]] w fun e w' => e = .returned (.agg #[.int .i64 (conV false [Ex.ev fs x0, Ex.ev fs x1]).k, .int .i64 (conV false [Ex.ev fs x0, Ex.ev fs x1]).n, .string (conV false [Ex.ev fs x0, Ex.ev fs x1]).s]) ∧ Below w.heap.size w w' := by
  obtain ⟨a, rfl, harg⟩ := arg_at his (by simp)
  obtain ⟨d0, B0, m0, c0, hat0, hi0⟩ := harg 0 (by simp)
  obtain ⟨d1, B1, m1, c1, hat1, hi1⟩ := harg 1 (by simp)
  simp only [List.getElem_cons_zero, List.getElem_cons_succ] at hi0 hi1
  rw [add0] at hat0
  rw [add6] at hat1
  obtain ⟨r, hr⟩ : ∃ r, conV false [Ex.ev fs x0, Ex.ev fs x1] = r := ⟨_, rfl⟩
  rw [hr]
  have hc := fun W (hb : Below w.heap.size w W) => condition_any fs m x0 h0 d0 B0 m0 c0 W (hi0.below hb) (hm.below hb)
  have hc1 := fun W (hb : Below w.heap.size w W) => condition_any fs m x1 h1 d1 B1 m1 c1 W (hi1.below hb) (hm.below hb)
  have hfk : ∀ v, condV (Ex.ev fs x0) = v → v.k = 2 → Ex.ev fs x0 = v := fun v hv hk => by
    rw [← hv]; rw [← hv] at hk
    unfold condV at hk ⊢
    split at hk
    · exact absurd hk (by decide)
    · rename_i h; rw [if_neg h]
  have hkf : (condV (Ex.ev fs x0)).k ≠ 2 → (Ex.ev fs x0).k ≠ 2 := fun h h2 => h (by unfold condV; rw [if_neg (by omega)]; exact h2)
  have hfok := cond_ok hok
  have hfk45 : (condV (Ex.ev fs x0)).k ≠ 1 ∧ (condV (Ex.ev fs x0)).k ≠ 3 := by
    unfold condV; split
    · exact ⟨by decide, by decide⟩
    · rename_i h; exact ⟨fun g => h (.inl g), fun g => h (.inr g)⟩
  obtain ⟨f, hf⟩ : ∃ f, condV (Ex.ev fs x0) = f := ⟨_, rfl⟩
  have hres2 : f.k ≠ 2 → r = f := fun h => by rw [← hf] at h; rw [← hr]; unfold conV; simp only [List.getD_cons_zero, List.getD_cons_succ]; rw [if_neg (fun g => hkf h g.1), hf]
  have hres1 : ∀ n, f = ⟨2, n, ⟨#[]⟩⟩ → r = if n = bitI false then condV (Ex.ev fs x1) else f := fun n h => by
    have e := hfk f hf (by rw [h])
    rw [← hr]; unfold conV; simp only [List.getD_cons_zero, List.getD_cons_succ]
    rw [hf, e, h]
    by_cases g : n = bitI false
    · rw [if_pos ⟨rfl, g⟩, if_pos g]
    · rw [if_neg (fun q => g q.2), if_neg g]
  rw [hf] at hc hfok hfk45
  obtain ⟨v1, hv1⟩ : ∃ v, condV (Ex.ev fs x1) = v := ⟨_, rfl⟩
  rw [hv1] at hc1 hres1
  have hb0 := b_new w (.cells #[.int .i64 d.op, .int .i64 d.k, .int .i64 d.n, .string d.s, .string d.nm, .slice (some a) 2 c] 26)
  have hb1 := b_more hb0 (.cells #[.int .i64 0, .int .i64 0, .string ⟨#[]⟩] 23)
  have hz0 := BV.new (w.alloc (.cells #[.int .i64 d.op, .int .i64 d.k, .int .i64 d.n, .string d.s, .string d.nm, .slice (some a) 2 c] 26)) 0 0 ⟨#[]⟩
  have hbx := (Box.new w d (some a) 2 c).below (b_new _ (.cells #[.int .i64 0, .int .i64 0, .string ⟨#[]⟩] 23))
  rw [World.size_alloc] at hz0
  obtain ⟨dop, dk, dn, ds, dnm⟩ := d
  obtain rfl : dop = 16 := hd
  obtain ⟨p0, p1, p2, p3, p4, p5⟩ := hat0.below hb1
  have HC := Lib.hid hc
  have HC1 := Lib.hid hc1
  have HZ := Lib.hid hz0
  have HB := Lib.hid hb1
  have HBx := Lib.hid hbx
  have H1 := Lib.hid hat1
  have HR1 := Lib.hid hres1
  have HR2 := Lib.hid hres2
  have HFo := Lib.hid hfok
  have HF45 := Lib.hid hfk45
  clear hc hc1 hz0 hb0 hb1 hbx hat0 hat1 hres1 hres2 hfok hf hfk hkf hr hv1 his hm hi0 hi1 harg hok h0 h1 hfk45
  obtain ⟨fk, fn, ft⟩ := f
  obtain ⟨v1k, v1n, v1s⟩ := v1
  go_enter Tryd.func29, Tryd.ntmps29
  go_wp2_with fail
  refine (HC.out _ HB.out).mono ?_; rintro e w1 ⟨rfl, hb2⟩
  have hz1 := HZ.out.below hb2
  have hb3 := b_then (b_then hb2)
  have HZ1 := Lib.hid hz1
  have HB3 := Lib.hid hb3
  have HBx1 := Lib.hid (HBx.out.below hb2)
  have zl := hz1.lt
  clear hz1 hb3 hb2 p0 p1 p2 p3 p4 p5
  have hin : fk ≠ 2 → fk = 4 ∨ fk = 5 := fun h => by have h1 := ok_kind HFo.out; have h2 := HF45.out; simp only at h1 h2; omega
  have HIn := Lib.hid hin
  clear hin
  by_cases hk : fk = 2
  · subst hk
    rcases tru_of HFo.out rfl with he | he
    all_goals (injection he with _ he1 he2; subst he1 he2)
    · obtain rfl : r = ⟨v1k, v1n, v1s⟩ := (HR1.out 0 rfl).trans (if_pos rfl)
      have hz2 := HZ1.out.below (b_new w1 (.cells #[.int .i64 2, .int .i64 0, .string ⟨#[]⟩] 23))
      have HZ2 := Lib.hid hz2
      have HBx2 := Lib.hid (HBx1.out.below (b_new w1 (.cells #[.int .i64 2, .int .i64 0, .string ⟨#[]⟩] 23)))
      have HB4 := Lib.hid (b_more HB3.out (.cells #[.int .i64 2, .int .i64 0, .string ⟨#[]⟩] 23))
      have hbl := Below.refl (w1.alloc (.cells #[.int .i64 2, .int .i64 0, .string ⟨#[]⟩] 23)).heap.size (w1.alloc (.cells #[.int .i64 2, .int .i64 0, .string ⟨#[]⟩] 23))
      obtain ⟨g0, g1, g2, g3, g4, g5⟩ := HBx2.out.cells
      clear hz2
      go_wp2_with fail
      go_region_with (go_at_call 56; refine (truth_f _).mono ?_; rintro e w2 ⟨rfl, hb5⟩; have hbl := (by first | exact b_step hbl hb5 | exact b_step (b_drew hbl) hb5 | exact b_step hbl (b_undrew hb5) : Below (w1.alloc (.cells #[.int .i64 2, .int .i64 0, .string ⟨#[]⟩] 23)).heap.size (w1.alloc (.cells #[.int .i64 2, .int .i64 0, .string ⟨#[]⟩] 23)) w2); obtain ⟨q1, q2⟩ := bcell hbl; have z1 := zlt hbl)
      all_goals (have hz3 := HZ2.out.below hbl
                 have hx3 := HBx2.out.below hbl
                 have hb6 := b_trans HB4.out hbl
                 obtain ⟨n0, n1, n2, n3, n4, n5⟩ := hx3.cells
                 obtain ⟨s0, s1, s2, s3, s4, s5⟩ := H1.out.below hb6
                 have HZ3 := Lib.hid hz3
                 have HB6 := Lib.hid hb6
                 clear q1 q2 z1 hbl g0 g1 g2 g3 g4 g5 hx3 hz3 hb6 hb5
                 go_wp2_with fail
                 refine (HC1.out _ HB6.out).mono ?_; rintro e w3 ⟨rfl, hb7⟩
                 have hz4 := HZ3.out.below hb7
                 have hbE := b_set3 (b_trans HB6.out hb7) (w.heap.size + 1) (by omega) (.int .i64 v1k) (.int .i64 v1n) (.string v1s)
                 obtain ⟨u0, u1, u2⟩ := hz4.cells
                 have v0 := hz4.frozen
                 have zl2 := hz4.lt
                 clear hz4 hb7 n0 n1 n2 n3 n4 n5 s0 s1 s2 s3 s4 s5
                 go_wp2_with fail
                 refine bodyPost_ret (v := .agg #[.int .i64 v1k, .int .i64 v1n, .string v1s]) (by simp [results, Tryd.results29, go_sem, u0, u1, u2]) rfl ⟨rfl, hbE⟩)
    · obtain rfl : r = ⟨2, 1, ⟨#[]⟩⟩ := (HR1.out 1 rfl).trans (if_neg (by decide))
      have hz2 := HZ1.out.below (b_new w1 (.cells #[.int .i64 2, .int .i64 1, .string ⟨#[]⟩] 23))
      have HZ2 := Lib.hid hz2
      have HBx2 := Lib.hid (HBx1.out.below (b_new w1 (.cells #[.int .i64 2, .int .i64 1, .string ⟨#[]⟩] 23)))
      have HB4 := Lib.hid (b_more HB3.out (.cells #[.int .i64 2, .int .i64 1, .string ⟨#[]⟩] 23))
      have HV := Lib.hid (BV.new w1 2 1 ⟨#[]⟩)
      have hbl := Below.refl (w1.alloc (.cells #[.int .i64 2, .int .i64 1, .string ⟨#[]⟩] 23)).heap.size (w1.alloc (.cells #[.int .i64 2, .int .i64 1, .string ⟨#[]⟩] 23))
      obtain ⟨g0, g1, g2, g3, g4, g5⟩ := HBx2.out.cells
      clear hz2
      go_wp2_with fail
      go_region_with (go_at_call 56; refine (truth_f _).mono ?_; rintro e w2 ⟨rfl, hb5⟩; have hbl := (by first | exact b_step hbl hb5 | exact b_step (b_drew hbl) hb5 | exact b_step hbl (b_undrew hb5) : Below (w1.alloc (.cells #[.int .i64 2, .int .i64 1, .string ⟨#[]⟩] 23)).heap.size (w1.alloc (.cells #[.int .i64 2, .int .i64 1, .string ⟨#[]⟩] 23)) w2); obtain ⟨q1, q2⟩ := bcell hbl; have z1 := zlt hbl)
      all_goals (have hz3 := HZ2.out.below hbl
                 have hb6 := b_trans HB4.out hbl
                 have hv3 := HV.out.below hbl
                 obtain ⟨n0, n1, n2⟩ := hv3.cells
                 obtain ⟨u0, u1, u2⟩ := hz3.cells
                 have v0 := hz3.frozen
                 have zl2 := hz3.lt
                 have hbE := b_set3 hb6 (w.heap.size + 1) (by omega) (.int .i64 2) (.int .i64 1) (.string ⟨#[]⟩)
                 clear q1 q2 z1 hbl hz3 hb6 hv3 g0 g1 g2 g3 g4 g5
                 go_wp2_with fail
                 refine bodyPost_ret (v := .agg #[.int .i64 2, .int .i64 1, .string ⟨#[]⟩]) (by simp [results, Tryd.results29, go_sem, u0, u1, u2]) rfl ⟨rfl, hbE⟩)
  · obtain rfl : r = ⟨fk, fn, ft⟩ := HR2.out hk
    rcases HIn.out hk with rfl | rfl
    · have hz2 := HZ1.out.below (b_new w1 (.cells #[.int .i64 4, .int .i64 fn, .string ft] 23))
      have HZ2 := Lib.hid hz2
      have HBx2 := Lib.hid (HBx1.out.below (b_new w1 (.cells #[.int .i64 4, .int .i64 fn, .string ft] 23)))
      have HB4 := Lib.hid (b_more HB3.out (.cells #[.int .i64 4, .int .i64 fn, .string ft] 23))
      have HV := Lib.hid (BV.new w1 4 fn ft)
      have hbl := Below.refl (w1.alloc (.cells #[.int .i64 4, .int .i64 fn, .string ft] 23)).heap.size (w1.alloc (.cells #[.int .i64 4, .int .i64 fn, .string ft] 23))
      obtain ⟨g0, g1, g2, g3, g4, g5⟩ := HBx2.out.cells
      clear hz2
      go_wp2_with fail
      go_region_with (go_at_call 56; refine (truth_f _).mono ?_; rintro e w2 ⟨rfl, hb5⟩; have hbl := (by first | exact b_step hbl hb5 | exact b_step (b_drew hbl) hb5 | exact b_step hbl (b_undrew hb5) : Below (w1.alloc (.cells #[.int .i64 4, .int .i64 fn, .string ft] 23)).heap.size (w1.alloc (.cells #[.int .i64 4, .int .i64 fn, .string ft] 23)) w2); obtain ⟨q1, q2⟩ := bcell hbl; have z1 := zlt hbl)
      all_goals (have hz3 := HZ2.out.below hbl
                 have hb6 := b_trans HB4.out hbl
                 have hv3 := HV.out.below hbl
                 obtain ⟨n0, n1, n2⟩ := hv3.cells
                 obtain ⟨u0, u1, u2⟩ := hz3.cells
                 have v0 := hz3.frozen
                 have zl2 := hz3.lt
                 have hbE := b_set3 hb6 (w.heap.size + 1) (by omega) (.int .i64 4) (.int .i64 fn) (.string ft)
                 clear q1 q2 z1 hbl hz3 hb6 hv3 g0 g1 g2 g3 g4 g5
                 go_wp2_with fail
                 refine bodyPost_ret (v := .agg #[.int .i64 4, .int .i64 fn, .string ft]) (by simp [results, Tryd.results29, go_sem, u0, u1, u2]) rfl ⟨rfl, hbE⟩)
    · have hz2 := HZ1.out.below (b_new w1 (.cells #[.int .i64 5, .int .i64 fn, .string ft] 23))
      have HZ2 := Lib.hid hz2
      have HBx2 := Lib.hid (HBx1.out.below (b_new w1 (.cells #[.int .i64 5, .int .i64 fn, .string ft] 23)))
      have HB4 := Lib.hid (b_more HB3.out (.cells #[.int .i64 5, .int .i64 fn, .string ft] 23))
      have HV := Lib.hid (BV.new w1 5 fn ft)
      have hbl := Below.refl (w1.alloc (.cells #[.int .i64 5, .int .i64 fn, .string ft] 23)).heap.size (w1.alloc (.cells #[.int .i64 5, .int .i64 fn, .string ft] 23))
      obtain ⟨g0, g1, g2, g3, g4, g5⟩ := HBx2.out.cells
      clear hz2
      go_wp2_with fail
      go_region_with (go_at_call 56; refine (truth_f _).mono ?_; rintro e w2 ⟨rfl, hb5⟩; have hbl := (by first | exact b_step hbl hb5 | exact b_step (b_drew hbl) hb5 | exact b_step hbl (b_undrew hb5) : Below (w1.alloc (.cells #[.int .i64 5, .int .i64 fn, .string ft] 23)).heap.size (w1.alloc (.cells #[.int .i64 5, .int .i64 fn, .string ft] 23)) w2); obtain ⟨q1, q2⟩ := bcell hbl; have z1 := zlt hbl)
      all_goals (have hz3 := HZ2.out.below hbl
                 have hb6 := b_trans HB4.out hbl
                 have hv3 := HV.out.below hbl
                 obtain ⟨n0, n1, n2⟩ := hv3.cells
                 obtain ⟨u0, u1, u2⟩ := hz3.cells
                 have v0 := hz3.frozen
                 have zl2 := hz3.lt
                 have hbE := b_set3 hb6 (w.heap.size + 1) (by omega) (.int .i64 5) (.int .i64 fn) (.string ft)
                 clear q1 q2 z1 hbl hz3 hb6 hv3 g0 g1 g2 g3 g4 g5
                 go_wp2_with fail
                 refine bodyPost_ret (v := .agg #[.int .i64 5, .int .i64 fn, .string ft]) (by simp [results, Tryd.results29, go_sem, u0, u1, u2]) rfl ⟨rfl, hbE⟩)
end Go.Proofs.YtehkebncdahmcaaDoor.EvN
