/- The contract of expr.printed. -/
import Derived.Test.YtbkbhkgkfolalaaGreatDoorPrint
import Derived.Deep.RegionHeld3
import Derived.Deep.DeepCutAuto
import Derived.IntWalk
namespace Go.Proofs.YtbkbhkgkfolalaaGreatDoor.Prn
open Go.RowKit
open ValM LexM ExM ShowM PrM Kit ExL ExN ExV GenL
set_option linter.unusedVariables false

theorem adds (a b : ByteArray) (ha : a.size ≤ 2000000) (hb : b.size ≤ 2000000) : ∀ W : World, (Op.stringOp .add a b).run Tryz.prog W = .ok (.string (a ++ b)) W := fun W => run_string_add_sum W a b (by omega)

theorem b_step {w W w' : World} (h : Below w.heap.size w W) (hb : Below W.heap.size W w') : Below w.heap.size w w' := h.trans (hb.mono h.size)

set_option maxHeartbeats 4000000 in
set_option maxRecDepth 100000 in
theorem printed_any : ∀ x : Ex, x.okN → x.nodes ≤ 60 → PrAt x := by
  refine Ex.ind fun d l ih => ?_
  intro hok hn d' A n c w his hv
  rw [is_mk] at his
  obtain ⟨rfl, rfl, ⟨hm, _⟩, his⟩ := his
  obtain ⟨hE, hl⟩ := (okN_mk d' l).1 hok
  obtain ⟨p1, p2, p3, p4, p5⟩ := nodeE_parts hE
  rw [nodes_mk] at hn
  have hxn : ∀ x ∈ l, x.nodes ≤ 60 := fun x hx => by have := nodes_mem hx; omega
  have hpr : ∀ x ∈ l, PrAt x := fun x hx => ih x hx (hl x hx) (hxn x hx)
  have hsz : ∀ x ∈ l, (Ex.txt x).length ≤ 6000 := fun x hx => by have h1 := txt_len x (hl x hx); have h2 := hxn x hx; omega
  obtain ⟨j, hj⟩ : ∃ j : Nat, d'.op = j := ⟨d'.op.toNat, by omega⟩
  have hj1 : j < 19 := by omega
  obtain ⟨hc0, hc1, hc2⟩ := hv.tab.cells j hj1
  obtain ⟨sg, hsg⟩ : ∃ t : ByteArray, t = ⟨(rw_ j).1.toArray⟩ := ⟨_, rfl⟩
  have hsl : sg.data.toList = signF d'.op := by rw [hsg, hj]; rfl
  have hss : sg.size ≤ 3 := by show sg.data.toList.length ≤ 3; rw [hsl]; exact rwF_len _
  obtain ⟨q, hq⟩ : ∃ q, precF d'.op = q := ⟨_, rfl⟩
  have hq2 : (rw_ j).2.1 = q := by rw [rw_rwF, ← hj]; exact hq
  obtain ⟨ar, har⟩ : ∃ a, (rw_ j).2.2 = a := ⟨_, rfl⟩
  obtain ⟨qb0, qb1⟩ := prec_bd d'.op
  rw [hq] at qb0 qb1
  rw [← hsg] at hc0
  rw [hq2] at hc1
  rw [har] at hc2
  have a0 : ∀ o, (w.alloc o).cell? ⟨0, j * 3, none⟩ = some (.string sg) := fun o => by rw [World.cell?_alloc_lt _ _ _ (cell_lt' hc0)]; exact hc0
  have a1 : ∀ o, (w.alloc o).cell? ⟨0, j * 3 + 1, none⟩ = some (.int .i64 q) := fun o => by rw [World.cell?_alloc_lt _ _ _ (cell_lt' hc1)]; exact hc1
  have a2 : ∀ o, (w.alloc o).cell? ⟨0, j * 3 + 2, none⟩ = some (.int .i64 ar) := fun o => by rw [World.cell?_alloc_lt _ _ _ (cell_lt' hc2)]; exact hc2
  have i0 : 0 ≤ d'.op := by omega
  have i1 : d'.op < 19 := by omega
  have i2 : d'.op.toNat = j := by omega
  have htx : Ex.txt (.mk d' l) = txtF d' (txtL l) := txt_mk d' l
  rw [htx]
  obtain ⟨r, hr⟩ : ∃ r, txtF d' (txtL l) = r := ⟨_, rfl⟩
  rw [hr]
  have HR := Lib.hid hr
  clear hr
  have HP := Lib.hid (And.intro p3 (And.intro p4 p5))
  have HI := Lib.hid his
  have HV := Lib.hid hv
  have HPr := Lib.hid hpr
  have HSz := Lib.hid hsz
  have HSg := Lib.hid hsl
  have HQ := Lib.hid hq
  have HL := Lib.hid hl
  have HOK := Lib.hid hok
  clear p3 p4 p5 his hv hpr hsz hsl hq hl hE hxn ih hsg hq2 har hc0 hc1 hc2 hj htx hok
  unfold maxLen at hm
  go_enter Tryz.func15, Tryz.ntmps15
  go_upto_region 1 with fail
  go_cut [1, 3] (fun s1 s3 wx => ∃ B C : Nat, s1 = .pointer (some ⟨B, 0, none⟩) ∧ s3 = .pointer (some ⟨C, 0, none⟩) ∧ B < wx.heap.size ∧ C < wx.heap.size ∧ Below w.heap.size w wx ∧ wx.cell? ⟨B, 0, none⟩ = some (.int .i64 d'.op) ∧ wx.cell? ⟨B, 1, none⟩ = some (.int .i64 d'.k) ∧ wx.cell? ⟨B, 2, none⟩ = some (.int .i64 d'.n) ∧ wx.cell? ⟨B, 3, none⟩ = some (.string d'.s) ∧ wx.cell? ⟨B, 4, none⟩ = some (.string d'.nm) ∧ wx.cell? ⟨B, 5, none⟩ = some (.slice A l.length c) ∧ wx.cell? ⟨C, 0, none⟩ = some (.string sg) ∧ wx.cell? ⟨C, 1, none⟩ = some (.int .i64 q) ∧ wx.cell? ⟨C, 2, none⟩ = some (.int .i64 ar))
  case first =>
    go_wp2_with fail
    go_meet
    exact ⟨_, _, rfl, rfl, by first | (simp; done) | (simp; omega), by first | (simp; done) | (simp; omega), b_more (b_new _ _) _, by simp [go_sem], by simp [go_sem], by simp [go_sem], by simp [go_sem], by simp [go_sem], by simp [go_sem], by simp [go_sem], by simp [go_sem], by simp [go_sem]⟩
  case rest =>
  obtain ⟨B, C, rfl, rfl, hB, hC, hbw, m0, m1, m2, m3, m4, m5, n0, n1, n2⟩ := hcut
  by_cases o1 : d'.op = 1
  · have t1 : (d'.op == 1) = true := beq_iff_eq.2 o1
    have hk : knownB d'.k d'.n d'.s.data.toList = true := by
      have := HP.out.2.1
      unfold vOk at this
      rw [if_pos o1] at this
      simp only [Bool.and_eq_true] at this
      exact this.1
    have hz : valE d'.k d'.n d'.s.data.toList = 0 := by
      unfold knownB at hk
      simp only [Bool.and_eq_true, decide_eq_true_eq] at hk
      exact hk.2
    have hc := Show.show_good d'.k d'.n d'.s wc hz (HV.out.below hbw).pow
    have e : r = showL d'.k d'.n d'.s.data.toList := by rw [← HR.out]; unfold txtF; rw [if_pos o1]
    have HE := Lib.hid e
    have HC := Lib.hid hc
    clear hc hk hz e o1
    go_wp2_with fail
    refine HC.out.mono ?_; rintro e w1 ⟨rfl, hb1⟩
    go_wp2_with fail
    go_ret
    exact ⟨by rw [HE.out]; rfl, hbw.trans (hb1.mono hbw.size)⟩
  have t1 : (d'.op == 1) = false := beq_eq_false_iff_ne.2 o1
  by_cases o2 : d'.op = 2
  · have t2 : (d'.op == 2) = true := beq_iff_eq.2 o2
    have e : r = d'.nm.data.toList := by rw [← HR.out]; unfold txtF; rw [if_neg o1, if_pos o2]
    have HE := Lib.hid e
    clear e o1 o2
    go_wp2_with fail
    go_ret
    exact ⟨str_inj (by rw [HE.out]), hbw⟩
  have t2 : (d'.op == 2) = false := beq_eq_false_iff_ne.2 o2
  have hw2 : ∀ W, Below wc.heap.size wc W → (∀ (j : Nat) (h : j < l.length), ∃ a d B n c, A = some a ∧ At W (a.add (j * 6)) d B n c ∧ Is W l[j] d B n) ∧ Vars W := fun W hb =>
    have hb := hbw.trans (hb.mono hbw.size)
    ⟨fun j hj => by obtain ⟨a, d, B, n, c, e, hat, hi⟩ := HI.out j hj; exact ⟨a, d, B, n, c, e, hat.below hb, hi.below hb⟩, HV.out.below hb⟩
  by_cases o6 : q = 6
  · have t3 : (q == 6) = true := beq_iff_eq.2 o6
    have hpos : 0 < l.length ∧ l.length ≤ 3 := by
      have h1 := HP.out.1
      have h2 : precF d'.op = 6 := by rw [HQ.out, o6]
      rw [h1]
      have : ∀ o : Int, 1 ≤ o → o ≤ 18 → o ≠ 1 → o ≠ 2 → precF o = 6 → 0 < arity o ∧ arity o ≤ 3 := fun o a b c d e => by
        have hh : o = 17 ∨ o = 18 := by
          have : ∀ k : Nat, k < 19 → precF (k : Int) = 6 → (k = 1 ∨ k = 2 ∨ k = 17 ∨ k = 18) := by decide
          obtain ⟨k, rfl⟩ : ∃ k : Nat, o = k := ⟨o.toNat, by omega⟩
          rcases this k (by omega) e with g | g | g | g <;> omega
        rcases hh with rfl | rfl <;> decide
      exact this _ p1 p2 o1 o2 h2
    have hc := fun W (hb : Below wc.heap.size wc W) => listed_any l HPr.out (fun x hx => by have := HSz.out x hx; omega) hpos.1 hpos.2 A c W (hw2 W hb).1 (hw2 W hb).2
    obtain ⟨t, ht⟩ : ∃ t : ByteArray, t = ⟨(commas (l.map Ex.txt)).toArray⟩ := ⟨_, rfl⟩
    have htl : t.data.toList = commas (l.map Ex.txt) := by rw [ht]
    have hts : t.size ≤ 400000 := by
      show t.data.toList.length ≤ _; rw [htl]
      have h1 := commas_len (l.map Ex.txt)
      have h2 := sum_le (l := l) (fun x hx => by have := HSz.out x hx; omega)
      rw [List.length_map] at h1; omega
    have e : r = signF d'.op ++ (40 :: (commas (l.map Ex.txt) ++ [41])) := by
      rw [← HR.out]; unfold txtF; rw [if_neg o1, if_neg o2, if_pos (by rw [HQ.out, o6]), txtL_map, List.map_map]; rfl
    have HE := Lib.hid e
    rw [← ht] at hc
    have s1 := adds sg ⟨#[40]⟩ (by omega) (by decide)
    have s2 := adds (sg ++ ⟨#[40]⟩) t (by rw [ByteArray.size_append]; show sg.size + 1 ≤ _; omega) (by omega)
    have s3 := adds ((sg ++ ⟨#[40]⟩) ++ t) ⟨#[41]⟩ (by rw [ByteArray.size_append, ByteArray.size_append]; show sg.size + 1 + t.size ≤ _; omega) (by decide)
    have HC := Lib.hid hc
    have HT := Lib.hid htl
    clear hc ht htl e o1 o2 hw2 hpos o6 hts hss
    go_wp2_with fail
    go_region_held3 (fun w' => w'.cell? ⟨B, 5, none⟩ = some (.slice A l.length c) ∧ w'.cell? ⟨C, 0, none⟩ = some (.string sg)) (first | exact ⟨m5, n0⟩ | exact ⟨q5, q6⟩)
      (first | (go_at_call 27; (with_reducible refine (HC.out _ ?_).mono ?_); exact b_drew (Below.refl _ _); rintro e w5 ⟨rfl, hb5⟩; have q5 := ((bcell hb5).1 B 5 hB).trans m5; have q6 := ((bcell hb5).1 C 0 hC).trans n0))
    go_wp2_with fail
    go_ret
    exact ⟨str_inj (by rw [HE.out, ← HT.out, ← HSg.out]; simp [ByteArray.data_append]), hbw.trans ((b_undrew hb5).mono hbw.size)⟩
  have t3 : (q == 6) = false := beq_eq_false_iff_ne.2 o6
  have hal : 0 < l.length ∧ l.length ≤ 2 ∧ (q ≠ 5 → 1 < l.length) ∧ (d'.op = 4 → q = 5) := by
    have h1 := HP.out.1
    have h2 := HQ.out
    rw [h1]
    have : ∀ k : Nat, k < 19 → precF (k : Int) = 6 ∨ (0 < arity (k : Int) ∧ arity (k : Int) ≤ 2 ∧ (precF (k : Int) ≠ 5 → 1 < arity (k : Int)) ∧ ((k : Int) = 4 → precF (k : Int) = 5)) ∨ k = 0 := by decide
    obtain ⟨k, hk⟩ : ∃ k : Nat, d'.op = k := ⟨d'.op.toNat, by omega⟩
    rw [hk] at h2 p1 ⊢
    rcases this k (by omega) with h | h | h
    · omega
    · rw [h2] at h; exact h
    · omega
  obtain ⟨l0, l2, l1, l4⟩ := hal
  obtain ⟨a, e0, B0, k0, c0, hA, hat, his0⟩ := HI.out 0 l0
  subst hA
  obtain ⟨f0, f1, f2, f3, f4, f5⟩ := hat.below hbw
  rw [Nat.zero_mul, show a.add 0 = a from rfl] at f0 f1 f2 f3 f4 f5
  have hab : a.block < wc.heap.size := by have := cell_lt' f5; simpa [Addr.add] using this
  have hsx0 := HSz.out _ (List.getElem_mem l0)
  have hok0 := okN_op (HL.out _ (List.getElem_mem l0))
  have hcO := fun (p : Int) W (hb : Below wc.heap.size wc W) => operand_any l[0] (HPr.out _ (List.getElem_mem l0)) hok0 (by omega) p e0 B0 k0 c0 W (his0.below (hbw.trans (hb.mono hbw.size))) (hw2 W hb).2
  have hbr : ∀ (p : Int) (x : Int × List UInt8), (br p x).length ≤ x.2.length + 2 := fun p x => by unfold br; split <;> simp
  by_cases o5 : q = 5
  · have t5 : (q == 5) = true := beq_iff_eq.2 o5
    obtain ⟨t, ht⟩ : ∃ t : ByteArray, t = ⟨(br 5 (l[0].d.op, Ex.txt l[0])).toArray⟩ := ⟨_, rfl⟩
    have htl : t.data.toList = br 5 (arg (txtL l) 0) := by rw [ht, txtL_at l 0 l0]
    have hts : t.size ≤ 10000 := by
      show t.data.toList.length ≤ _
      have := hbr 5 (arg (txtL l) 0); rw [htl]; rw [txtL_at l 0 l0] at this ⊢; dsimp only at this; omega
    have hc := hcO 5
    rw [← ht] at hc
    have HC := Lib.hid hc
    have HT := Lib.hid htl
    have hnn : l.length ≠ 0 := by omega
    have i4 : (0 : Int) < (l.length : Int) := by omega
    by_cases o4 : d'.op = 4
    · have t4 : (d'.op == 4) = true := beq_iff_eq.2 o4
      have e : r = signF d'.op ++ (32 :: br 5 (arg (txtL l) 0)) := by
        rw [← HR.out]; unfold txtF; rw [if_neg o1, if_neg o2, if_neg (by rw [HQ.out]; exact o6), if_pos o4]
      have HE := Lib.hid e
      have s1 := adds sg ⟨#[32]⟩ (by omega) (by decide)
      have s2 := adds (sg ++ ⟨#[32]⟩) t (by rw [ByteArray.size_append]; show sg.size + 1 ≤ _; omega) (by omega)
      clear hc ht htl e hcO hbr o1 o2 o4 o5 o6 l1 l2 l4 hw2 hts hss hat his0 hsx0 hok0
      go_wp2_with fail
      go_region_held3 (fun w' => w'.cell? ⟨B, 5, none⟩ = some (.slice (some a) l.length c) ∧ w'.cell? ⟨C, 0, none⟩ = some (.string sg) ∧ w'.cell? a = some (.int .i64 e0.op) ∧ w'.cell? ⟨a.block, a.off + 1, none⟩ = some (.int .i64 e0.k) ∧ w'.cell? ⟨a.block, a.off + 2, none⟩ = some (.int .i64 e0.n) ∧ w'.cell? ⟨a.block, a.off + 3, none⟩ = some (.string e0.s) ∧ w'.cell? ⟨a.block, a.off + 4, none⟩ = some (.string e0.nm) ∧ w'.cell? ⟨a.block, a.off + 5, none⟩ = some (.slice B0 k0 c0)) (exact ⟨m5, n0, f0, f1, f2, f3, f4, f5⟩)
        (first | (go_at_call 28; (with_reducible refine (HC.out _ ?_).mono ?_); exact b_drew (Below.refl _ _); rintro e w5 ⟨rfl, hb5⟩; have m5 := ((bcell hb5).1 B 5 hB).trans m5; have n0 := ((bcell hb5).1 C 0 hC).trans n0; have f0 := (hb5.cell (p := a) hab).trans f0; have f1 := ((bcell hb5).1 _ _ hab).trans f1; have f2 := ((bcell hb5).1 _ _ hab).trans f2; have f3 := ((bcell hb5).1 _ _ hab).trans f3; have f4 := ((bcell hb5).1 _ _ hab).trans f4; have f5 := ((bcell hb5).1 _ _ hab).trans f5))
      go_wp2_with fail
      go_ret
      exact ⟨str_inj (by rw [HE.out, ← HT.out, ← HSg.out]; simp [ByteArray.data_append]), hbw.trans ((b_undrew hb5).mono hbw.size)⟩
    · have t4 : (d'.op == 4) = false := beq_eq_false_iff_ne.2 o4
      have e : r = signF d'.op ++ br 5 (arg (txtL l) 0) := by
        rw [← HR.out]; unfold txtF; rw [if_neg o1, if_neg o2, if_neg (by rw [HQ.out]; exact o6), if_neg o4, if_pos (by rw [HQ.out]; exact o5)]
      have HE := Lib.hid e
      have s1 := adds sg t (by omega) (by omega)
      clear hc ht htl e hcO hbr o1 o2 o4 o5 o6 l1 l2 l4 hw2 hts hss hat his0 hsx0 hok0
      go_wp2_with fail
      go_region_held3 (fun w' => w'.cell? ⟨B, 5, none⟩ = some (.slice (some a) l.length c) ∧ w'.cell? ⟨C, 0, none⟩ = some (.string sg) ∧ w'.cell? a = some (.int .i64 e0.op) ∧ w'.cell? ⟨a.block, a.off + 1, none⟩ = some (.int .i64 e0.k) ∧ w'.cell? ⟨a.block, a.off + 2, none⟩ = some (.int .i64 e0.n) ∧ w'.cell? ⟨a.block, a.off + 3, none⟩ = some (.string e0.s) ∧ w'.cell? ⟨a.block, a.off + 4, none⟩ = some (.string e0.nm) ∧ w'.cell? ⟨a.block, a.off + 5, none⟩ = some (.slice B0 k0 c0)) (exact ⟨m5, n0, f0, f1, f2, f3, f4, f5⟩)
        (first | (go_at_call 28; (with_reducible refine (HC.out _ ?_).mono ?_); exact b_drew (Below.refl _ _); rintro e w5 ⟨rfl, hb5⟩; have m5 := ((bcell hb5).1 B 5 hB).trans m5; have n0 := ((bcell hb5).1 C 0 hC).trans n0; have f0 := (hb5.cell (p := a) hab).trans f0; have f1 := ((bcell hb5).1 _ _ hab).trans f1; have f2 := ((bcell hb5).1 _ _ hab).trans f2; have f3 := ((bcell hb5).1 _ _ hab).trans f3; have f4 := ((bcell hb5).1 _ _ hab).trans f4; have f5 := ((bcell hb5).1 _ _ hab).trans f5))
      go_wp2_with fail
      go_ret
      exact ⟨str_inj (by rw [HE.out, ← HT.out, ← HSg.out]; simp [ByteArray.data_append]), hbw.trans ((b_undrew hb5).mono hbw.size)⟩
  have t5 : (q == 5) = false := beq_eq_false_iff_ne.2 o5
  have o4 : d'.op ≠ 4 := fun h => o5 (l4 h)
  have t4 : (d'.op == 4) = false := beq_eq_false_iff_ne.2 o4
  have l1' := l1 o5
  obtain ⟨a', e1, B1, k1, c1, hA1, hat1, his1⟩ := HI.out 1 l1'
  obtain rfl : a = a' := by injection hA1
  obtain ⟨g0, g1, g2, g3, g4, g5⟩ := hat1.below hbw
  rw [Nat.one_mul] at g0 g1 g2 g3 g4 g5
  have hsx1 := HSz.out _ (List.getElem_mem l1')
  have hok1 := okN_op (HL.out _ (List.getElem_mem l1'))
  have hcP := fun (p : Int) W (hb : Below wc.heap.size wc W) => operand_any l[1] (HPr.out _ (List.getElem_mem l1')) hok1 (by omega) p e1 B1 k1 c1 W (his1.below (hbw.trans (hb.mono hbw.size))) (hw2 W hb).2
  obtain ⟨pl, hpl⟩ : ∃ p, (if q = 2 then q + 1 else q) = p := ⟨_, rfl⟩
  have hcL := fun W => left_any sg q ar W qb0 qb1
  rw [hpl] at hcL
  obtain ⟨t, ht⟩ : ∃ t : ByteArray, t = ⟨(br pl (l[0].d.op, Ex.txt l[0])).toArray⟩ := ⟨_, rfl⟩
  have htl : t.data.toList = br (leftF d'.op) (arg (txtL l) 0) := by rw [ht, txtL_at l 0 l0]; unfold leftF; rw [HQ.out, hpl]
  have hts : t.size ≤ 10000 := by
    show t.data.toList.length ≤ _
    rw [ht]; show (br pl (l[0].d.op, Ex.txt l[0])).length ≤ _
    have := hbr pl (l[0].d.op, Ex.txt l[0]); dsimp only at this; omega
  obtain ⟨u, hu⟩ : ∃ t : ByteArray, t = ⟨(br (q + 1) (l[1].d.op, Ex.txt l[1])).toArray⟩ := ⟨_, rfl⟩
  have hul : u.data.toList = br (precF d'.op + 1) (arg (txtL l) 1) := by rw [hu, txtL_at l 1 l1', HQ.out]
  have hus : u.size ≤ 10000 := by
    show u.data.toList.length ≤ _
    rw [hu]; show (br (q + 1) (l[1].d.op, Ex.txt l[1])).length ≤ _
    have := hbr (q + 1) (l[1].d.op, Ex.txt l[1]); dsimp only at this; omega
  have hc := hcO pl
  rw [← ht] at hc
  have hd := hcP (q + 1)
  rw [← hu] at hd
  have e : r = br (leftF d'.op) (arg (txtL l) 0) ++ (32 :: (signF d'.op ++ (32 :: br (precF d'.op + 1) (arg (txtL l) 1)))) := by
    rw [← HR.out]; unfold txtF; rw [if_neg o1, if_neg o2, if_neg (by rw [HQ.out]; exact o6), if_neg o4, if_neg (by rw [HQ.out]; exact o5)]
  have HE := Lib.hid e
  have HC := Lib.hid hc
  have HD := Lib.hid hd
  have HLp := Lib.hid hcL
  have HT := Lib.hid htl
  have HU := Lib.hid hul
  have i4 : (0 : Int) < (l.length : Int) := by omega
  have i5 : (1 : Int) < (l.length : Int) := by omega
  have s1 := adds t ⟨#[32]⟩ (by omega) (by decide)
  have s2 := adds (t ++ ⟨#[32]⟩) sg (by rw [ByteArray.size_append]; show t.size + 1 ≤ _; omega) (by omega)
  have s3 := adds (t ++ ⟨#[32]⟩ ++ sg) ⟨#[32]⟩ (by rw [ByteArray.size_append, ByteArray.size_append]; show t.size + 1 + sg.size ≤ _; omega) (by decide)
  have s4 := adds (t ++ ⟨#[32]⟩ ++ sg ++ ⟨#[32]⟩) u (by rw [ByteArray.size_append, ByteArray.size_append, ByteArray.size_append]; show t.size + 1 + sg.size + 1 ≤ _; omega) (by omega)
  have hwq : IntKind.i64.wrap (q + 1) = q + 1 := IntWalk.i64_in _ (by omega)
  have HCells := Lib.hid (show ∀ w', Below wc.heap.size wc w' → w'.cell? ⟨B, 5, none⟩ = some (.slice (some a) l.length c) ∧ w'.cell? ⟨C, 0, none⟩ = some (.string sg) ∧ w'.cell? ⟨C, 1, none⟩ = some (.int .i64 q) ∧ w'.cell? ⟨C, 2, none⟩ = some (.int .i64 ar) ∧ w'.cell? a = some (.int .i64 e0.op) ∧ w'.cell? ⟨a.block, a.off + 1, none⟩ = some (.int .i64 e0.k) ∧ w'.cell? ⟨a.block, a.off + 2, none⟩ = some (.int .i64 e0.n) ∧ w'.cell? ⟨a.block, a.off + 3, none⟩ = some (.string e0.s) ∧ w'.cell? ⟨a.block, a.off + 4, none⟩ = some (.string e0.nm) ∧ w'.cell? ⟨a.block, a.off + 5, none⟩ = some (.slice B0 k0 c0) ∧ w'.cell? ⟨a.block, a.off + 6, none⟩ = some (.int .i64 e1.op) ∧ w'.cell? ⟨a.block, a.off + 6 + 1, none⟩ = some (.int .i64 e1.k) ∧ w'.cell? ⟨a.block, a.off + 6 + 2, none⟩ = some (.int .i64 e1.n) ∧ w'.cell? ⟨a.block, a.off + 6 + 3, none⟩ = some (.string e1.s) ∧ w'.cell? ⟨a.block, a.off + 6 + 4, none⟩ = some (.string e1.nm) ∧ w'.cell? ⟨a.block, a.off + 6 + 5, none⟩ = some (.slice B1 k1 c1) from fun w' h => ⟨((bcell h).1 B 5 hB).trans m5, ((bcell h).1 C 0 hC).trans n0, ((bcell h).1 C 1 hC).trans n1, ((bcell h).1 C 2 hC).trans n2, (h.cell (p := a) hab).trans f0, ((bcell h).1 _ _ hab).trans f1, ((bcell h).1 _ _ hab).trans f2, ((bcell h).1 _ _ hab).trans f3, ((bcell h).1 _ _ hab).trans f4, ((bcell h).1 _ _ hab).trans f5, (h.cell (p := a.add 6) hab).trans g0, ((bcell h).1 _ _ hab).trans g1, ((bcell h).1 _ _ hab).trans g2, ((bcell h).1 _ _ hab).trans g3, ((bcell h).1 _ _ hab).trans g4, ((bcell h).1 _ _ hab).trans g5⟩)
  have hbl : Below wc.heap.size wc wc := Below.refl _ _
  clear hc hd ht hu htl hul hpl hcL e hcO hcP hbr o1 o2 o4 o5 o6 l1 l1' l2 l4 hw2 hts hus hss hat his0 hat1 his1 hA1 hsx0 hok0 hsx1 hok1 qb0 qb1
  go_wp2_with fail
  go_region_held3 (fun w' => w'.cell? ⟨B, 5, none⟩ = some (.slice (some a) l.length c) ∧ w'.cell? ⟨C, 0, none⟩ = some (.string sg) ∧ w'.cell? ⟨C, 1, none⟩ = some (.int .i64 q) ∧ w'.cell? ⟨C, 2, none⟩ = some (.int .i64 ar) ∧ w'.cell? a = some (.int .i64 e0.op) ∧ w'.cell? ⟨a.block, a.off + 1, none⟩ = some (.int .i64 e0.k) ∧ w'.cell? ⟨a.block, a.off + 2, none⟩ = some (.int .i64 e0.n) ∧ w'.cell? ⟨a.block, a.off + 3, none⟩ = some (.string e0.s) ∧ w'.cell? ⟨a.block, a.off + 4, none⟩ = some (.string e0.nm) ∧ w'.cell? ⟨a.block, a.off + 5, none⟩ = some (.slice B0 k0 c0) ∧ w'.cell? ⟨a.block, a.off + 6, none⟩ = some (.int .i64 e1.op) ∧ w'.cell? ⟨a.block, a.off + 6 + 1, none⟩ = some (.int .i64 e1.k) ∧ w'.cell? ⟨a.block, a.off + 6 + 2, none⟩ = some (.int .i64 e1.n) ∧ w'.cell? ⟨a.block, a.off + 6 + 3, none⟩ = some (.string e1.s) ∧ w'.cell? ⟨a.block, a.off + 6 + 4, none⟩ = some (.string e1.nm) ∧ w'.cell? ⟨a.block, a.off + 6 + 5, none⟩ = some (.slice B1 k1 c1)) (first | exact HCells.out _ hbl | exact HCells.out _ (b_drew hbl))
    (first | (go_at_call 29; (with_reducible refine (HLp.out _).mono ?_); rintro e w3 ⟨rfl, hb3⟩; have hbl : Below wc.heap.size wc w3 := (by (first | (exact b_step hbl hb3) | (exact b_step (b_drew hbl) hb3)))) | (go_at_call 28; (with_reducible refine (HC.out _ ?_).mono ?_); (first | exact hbl | exact b_drew hbl); rintro e w4 ⟨rfl, hb4⟩; have hbl : Below wc.heap.size wc w4 := (by (first | (exact b_step hbl hb4) | (exact b_step (b_drew hbl) hb4)))) | (go_at_call 28; (with_reducible refine (HD.out _ ?_).mono ?_); (first | exact hbl | exact b_drew hbl); rintro e w5 ⟨rfl, hb5⟩; have hbl : Below wc.heap.size wc w5 := (by (first | (exact b_step hbl hb5) | (exact b_step (b_drew hbl) hb5)))))
  go_wp2_with fail
  go_ret
  exact ⟨str_inj (by rw [HE.out, ← HT.out, ← HU.out, ← HSg.out]; simp [ByteArray.data_append]), hbw.trans (hbl.mono hbw.size)⟩
end Go.Proofs.YtbkbhkgkfolalaaGreatDoor.Prn
