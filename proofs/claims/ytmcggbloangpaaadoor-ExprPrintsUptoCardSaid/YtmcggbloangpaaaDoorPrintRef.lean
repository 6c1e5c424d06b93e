/- The reference's closeness, bracketed, exprText. -/
import Derived.Test.YtmcggbloangpaaaDoorPrinted
import Derived.Test.YtmcggbloangpaaaDoorShowRef
namespace Go.Proofs.YtmcggbloangpaaaDoor.PrR
open Go.RowKit
open ValM LexM ExM ShowM PrM Kit ExL ExN ExV GenL Prn
set_option linter.unusedVariables false

/-- The sign that closeness tells. -/
def csF (op : Int) : List UInt8 := if op = 1 ∨ op = 2 ∨ op = 17 ∨ op = 18 then [] else if op = 4 then signF op ++ [32] else signF op
theorem cs_len (op : Int) : (csF op).length ≤ 4 := by
  have := rwF_len op
  unfold csF
  split
  · simp
  · split
    · simp; omega
    · omega
def RAt (x : Ex) : Prop := ∀ (d : Nd) (A : Option Addr) (n c : Nat) (w : World), Is w x d A n → Show.Pow w →
  Calls Tryd.prog 19 #[.agg #[.int .i64 d.op, .int .i64 d.k, .int .i64 d.n, .string d.s, .string d.nm, .slice A n c]] w fun e w' => e = .returned (.string ⟨(Ex.txt x).toArray⟩) ∧ Below w.heap.size w w'
theorem close1 (w : World) : Calls Tryd.prog 32 #[.int .i64 1] w fun e w' => e = .returned (.tuple #[.int .i64 (precF 1 + 1), .string ⟨(csF 1).toArray⟩]) ∧ w = w' := by
  go_enter Tryd.func32, Tryd.ntmps32
  go_wp2
  go_ret2
  exact ⟨rfl, rfl⟩
theorem close2 (w : World) : Calls Tryd.prog 32 #[.int .i64 2] w fun e w' => e = .returned (.tuple #[.int .i64 (precF 2 + 1), .string ⟨(csF 2).toArray⟩]) ∧ w = w' := by
  go_enter Tryd.func32, Tryd.ntmps32
  go_wp2
  go_ret2
  exact ⟨rfl, rfl⟩
theorem close3 (w : World) : Calls Tryd.prog 32 #[.int .i64 3] w fun e w' => e = .returned (.tuple #[.int .i64 (precF 3 + 1), .string ⟨(csF 3).toArray⟩]) ∧ w = w' := by
  go_enter Tryd.func32, Tryd.ntmps32
  go_wp2
  go_ret2
  exact ⟨rfl, rfl⟩
theorem close4 (w : World) : Calls Tryd.prog 32 #[.int .i64 4] w fun e w' => e = .returned (.tuple #[.int .i64 (precF 4 + 1), .string ⟨(csF 4).toArray⟩]) ∧ w = w' := by
  go_enter Tryd.func32, Tryd.ntmps32
  go_wp2
  go_ret2
  exact ⟨rfl, rfl⟩
theorem close5 (w : World) : Calls Tryd.prog 32 #[.int .i64 5] w fun e w' => e = .returned (.tuple #[.int .i64 (precF 5 + 1), .string ⟨(csF 5).toArray⟩]) ∧ w = w' := by
  go_enter Tryd.func32, Tryd.ntmps32
  go_wp2
  go_ret2
  exact ⟨rfl, rfl⟩
theorem close6 (w : World) : Calls Tryd.prog 32 #[.int .i64 6] w fun e w' => e = .returned (.tuple #[.int .i64 (precF 6 + 1), .string ⟨(csF 6).toArray⟩]) ∧ w = w' := by
  go_enter Tryd.func32, Tryd.ntmps32
  go_wp2
  go_ret2
  exact ⟨rfl, rfl⟩
theorem close7 (w : World) : Calls Tryd.prog 32 #[.int .i64 7] w fun e w' => e = .returned (.tuple #[.int .i64 (precF 7 + 1), .string ⟨(csF 7).toArray⟩]) ∧ w = w' := by
  go_enter Tryd.func32, Tryd.ntmps32
  go_wp2
  go_ret2
  exact ⟨rfl, rfl⟩
theorem close8 (w : World) : Calls Tryd.prog 32 #[.int .i64 8] w fun e w' => e = .returned (.tuple #[.int .i64 (precF 8 + 1), .string ⟨(csF 8).toArray⟩]) ∧ w = w' := by
  go_enter Tryd.func32, Tryd.ntmps32
  go_wp2
  go_ret2
  exact ⟨rfl, rfl⟩
theorem close9 (w : World) : Calls Tryd.prog 32 #[.int .i64 9] w fun e w' => e = .returned (.tuple #[.int .i64 (precF 9 + 1), .string ⟨(csF 9).toArray⟩]) ∧ w = w' := by
  go_enter Tryd.func32, Tryd.ntmps32
  go_wp2
  go_ret2
  exact ⟨rfl, rfl⟩
theorem close10 (w : World) : Calls Tryd.prog 32 #[.int .i64 10] w fun e w' => e = .returned (.tuple #[.int .i64 (precF 10 + 1), .string ⟨(csF 10).toArray⟩]) ∧ w = w' := by
  go_enter Tryd.func32, Tryd.ntmps32
  go_wp2
  go_ret2
  exact ⟨rfl, rfl⟩
theorem close11 (w : World) : Calls Tryd.prog 32 #[.int .i64 11] w fun e w' => e = .returned (.tuple #[.int .i64 (precF 11 + 1), .string ⟨(csF 11).toArray⟩]) ∧ w = w' := by
  go_enter Tryd.func32, Tryd.ntmps32
  go_wp2
  go_ret2
  exact ⟨rfl, rfl⟩
theorem close12 (w : World) : Calls Tryd.prog 32 #[.int .i64 12] w fun e w' => e = .returned (.tuple #[.int .i64 (precF 12 + 1), .string ⟨(csF 12).toArray⟩]) ∧ w = w' := by
  go_enter Tryd.func32, Tryd.ntmps32
  go_wp2
  go_ret2
  exact ⟨rfl, rfl⟩
theorem close13 (w : World) : Calls Tryd.prog 32 #[.int .i64 13] w fun e w' => e = .returned (.tuple #[.int .i64 (precF 13 + 1), .string ⟨(csF 13).toArray⟩]) ∧ w = w' := by
  go_enter Tryd.func32, Tryd.ntmps32
  go_wp2
  go_ret2
  exact ⟨rfl, rfl⟩
theorem close14 (w : World) : Calls Tryd.prog 32 #[.int .i64 14] w fun e w' => e = .returned (.tuple #[.int .i64 (precF 14 + 1), .string ⟨(csF 14).toArray⟩]) ∧ w = w' := by
  go_enter Tryd.func32, Tryd.ntmps32
  go_wp2
  go_ret2
  exact ⟨rfl, rfl⟩
theorem close15 (w : World) : Calls Tryd.prog 32 #[.int .i64 15] w fun e w' => e = .returned (.tuple #[.int .i64 (precF 15 + 1), .string ⟨(csF 15).toArray⟩]) ∧ w = w' := by
  go_enter Tryd.func32, Tryd.ntmps32
  go_wp2
  go_ret2
  exact ⟨rfl, rfl⟩
theorem close16 (w : World) : Calls Tryd.prog 32 #[.int .i64 16] w fun e w' => e = .returned (.tuple #[.int .i64 (precF 16 + 1), .string ⟨(csF 16).toArray⟩]) ∧ w = w' := by
  go_enter Tryd.func32, Tryd.ntmps32
  go_wp2
  go_ret2
  exact ⟨rfl, rfl⟩
theorem close17 (w : World) : Calls Tryd.prog 32 #[.int .i64 17] w fun e w' => e = .returned (.tuple #[.int .i64 (precF 17 + 1), .string ⟨(csF 17).toArray⟩]) ∧ w = w' := by
  go_enter Tryd.func32, Tryd.ntmps32
  go_wp2
  go_ret2
  exact ⟨rfl, rfl⟩
theorem close18 (w : World) : Calls Tryd.prog 32 #[.int .i64 18] w fun e w' => e = .returned (.tuple #[.int .i64 (precF 18 + 1), .string ⟨(csF 18).toArray⟩]) ∧ w = w' := by
  go_enter Tryd.func32, Tryd.ntmps32
  go_wp2
  go_ret2
  exact ⟨rfl, rfl⟩
theorem closeness_any (op : Int) (h1 : 1 ≤ op) (h2 : op ≤ 18) (w : World) : Calls Tryd.prog 32 #[.int .i64 op] w fun e w' => e = .returned (.tuple #[.int .i64 (precF op + 1), .string ⟨(csF op).toArray⟩]) ∧ w = w' := by
  obtain rfl | rfl | rfl | rfl | rfl | rfl | rfl | rfl | rfl | rfl | rfl | rfl | rfl | rfl | rfl | rfl | rfl | rfl : op = 1 ∨ op = 2 ∨ op = 3 ∨ op = 4 ∨ op = 5 ∨ op = 6 ∨ op = 7 ∨ op = 8 ∨ op = 9 ∨ op = 10 ∨ op = 11 ∨ op = 12 ∨ op = 13 ∨ op = 14 ∨ op = 15 ∨ op = 16 ∨ op = 17 ∨ op = 18 := by omega
  · exact close1 w
  · exact close2 w
  · exact close3 w
  · exact close4 w
  · exact close5 w
  · exact close6 w
  · exact close7 w
  · exact close8 w
  · exact close9 w
  · exact close10 w
  · exact close11 w
  · exact close12 w
  · exact close13 w
  · exact close14 w
  · exact close15 w
  · exact close16 w
  · exact close17 w
  · exact close18 w

set_option maxHeartbeats 2000000 in
theorem bracketed_any (x : Ex) (hx : RAt x) (ho : 1 ≤ x.d.op ∧ x.d.op ≤ 18) (hsz : (Ex.txt x).length ≤ 100000) (p least : Int) (hp : least = p + 1) (d : Nd) (A : Option Addr) (n c : Nat) (w : World) (his : Is w x d A n) (hv : Show.Pow w) :
    Calls Tryd.prog 34 #[.agg #[.int .i64 d.op, .int .i64 d.k, .int .i64 d.n, .string d.s, .string d.nm, .slice A n c], .int .i64 least] w fun e w' => e = .returned (.string ⟨(br p (x.d.op, Ex.txt x)).toArray⟩) ∧ Below w.heap.size w w' := by
  have hd := is_d his
  rw [hd] at ho ⊢
  obtain ⟨t, ht⟩ : ∃ t : ByteArray, t = ⟨(Ex.txt x).toArray⟩ := ⟨_, rfl⟩
  have htl : t.data.toList = Ex.txt x := by rw [ht]
  have hts : t.size ≤ 100000 := by show t.data.toList.length ≤ _; rw [htl]; exact hsz
  obtain ⟨cc, hcc⟩ : ∃ cc, precF d.op + 1 = cc := ⟨_, rfl⟩
  have hq := fun W => closeness_any d.op ho.1 ho.2 W
  rw [hcc] at hq
  have hc := fun W (hb : Below w.heap.size w W) => hx d A n c W (his.below hb) (hv.below hb)
  rw [← ht] at hc
  have hbr : br p (d.op, Ex.txt x) = if cc < least then 40 :: (t.data.toList ++ [41]) else t.data.toList := by
    unfold br; rw [htl]; dsimp only
    by_cases h : precF d.op < p
    · rw [if_pos h, if_pos (by omega)]
    · rw [if_neg h, if_neg (by omega)]
  obtain ⟨r, hr⟩ : ∃ r, br p (d.op, Ex.txt x) = r := ⟨_, rfl⟩
  rw [hr] at hbr ⊢
  have HR := Lib.hid hbr
  have HC := Lib.hid hc
  have HQ := Lib.hid hq
  have s1 := adds ⟨#[40]⟩ t (by decide) (by omega)
  have s2 := adds (⟨#[40]⟩ ++ t) ⟨#[41]⟩ (by rw [ByteArray.size_append]; show 1 + t.size ≤ _; omega) (by decide)
  clear hbr hc hq hr hcc ht htl hts hp his hsz hv ho
  by_cases hlt : cc < least
  · go_enter Tryd.func34, Tryd.ntmps34
    go_wp2_with fail
    refine (HC.out _ (b_new _ _)).mono ?_; rintro e w1 ⟨rfl, hb1⟩
    obtain ⟨c1, d1⟩ := bcell hb1
    go_wp2_with fail
    refine (HQ.out _).mono ?_; rintro e w2 ⟨rfl, rfl⟩
    go_wp2_with fail
    go_ret
    exact ⟨str_inj (by rw [HR.out, if_pos (by omega)]; simp [ByteArray.data_append]), b_then hb1⟩
  · go_enter Tryd.func34, Tryd.ntmps34
    go_wp2_with fail
    refine (HC.out _ (b_new _ _)).mono ?_; rintro e w1 ⟨rfl, hb1⟩
    obtain ⟨c1, d1⟩ := bcell hb1
    go_wp2_with fail
    refine (HQ.out _).mono ?_; rintro e w2 ⟨rfl, rfl⟩
    go_wp2_with fail
    go_ret
    exact ⟨str_inj (by rw [HR.out, if_neg (by omega)]), b_then hb1⟩

theorem one_txt (l : List Ex) (h : l.length = 1) (h0 : 0 < l.length) : commas (l.map Ex.txt) = Ex.txt l[0] := by
  match l, h, h0 with
  | [x], _, _ => rfl
theorem three_txt (l : List Ex) (h : l.length = 3) (h0 : 0 < l.length) (h1 : 1 < l.length) (h2 : 2 < l.length) : commas (l.map Ex.txt) = Ex.txt l[0] ++ (([44, 32] : List UInt8) ++ (Ex.txt l[1] ++ (([44, 32] : List UInt8) ++ Ex.txt l[2]))) := by
  match l, h, h0, h1, h2 with
  | [x, y, z], _, _, _, _ => rfl

set_option maxHeartbeats 8000000 in
set_option maxRecDepth 100000 in
theorem exprText_any : ∀ x : Ex, x.okN → x.nodes ≤ 60 → RAt x := by
  refine Ex.ind fun d l ih => ?_
  intro hok hn d' A n c w his hv
  rw [is_mk] at his
  obtain ⟨rfl, rfl, ⟨hm, _⟩, his⟩ := his
  obtain ⟨hE, hl⟩ := (okN_mk d' l).1 hok
  obtain ⟨p1, p2, p3, p4, p5⟩ := nodeE_parts hE
  rw [nodes_mk] at hn
  have hxn : ∀ x ∈ l, x.nodes ≤ 60 := fun x hx => by have := nodes_mem hx; omega
  have hpr : ∀ x ∈ l, RAt x := fun x hx => ih x hx (hl x hx) (hxn x hx)
  have hsz : ∀ x ∈ l, (Ex.txt x).length ≤ 6000 := fun x hx => by have h1 := txt_len x (hl x hx); have h2 := hxn x hx; omega
  obtain ⟨sg, hsg⟩ : ∃ t : ByteArray, t = ⟨(csF d'.op).toArray⟩ := ⟨_, rfl⟩
  have hsl : sg.data.toList = csF d'.op := by rw [hsg]
  have hss : sg.size ≤ 4 := by show sg.data.toList.length ≤ 4; rw [hsl]; exact cs_len _
  obtain ⟨qb0, qb1⟩ := prec_bd d'.op
  obtain ⟨cc, hcc⟩ : ∃ cc, precF d'.op + 1 = cc := ⟨_, rfl⟩
  have hq := fun W => closeness_any d'.op p1 p2 W
  rw [hcc, ← hsg] at hq
  have hcb : 1 ≤ cc ∧ cc ≤ 7 := by omega
  rw [show Ex.txt (.mk d' l) = txtF d' (txtL l) from txt_mk d' l]
  obtain ⟨r, hr⟩ : ∃ r, txtF d' (txtL l) = r := ⟨_, rfl⟩
  rw [hr]
  have HR := Lib.hid hr
  have HP := Lib.hid (And.intro p3 (And.intro p4 p5))
  have HI := Lib.hid his
  have HV := Lib.hid hv
  have HPr := Lib.hid hpr
  have HSz := Lib.hid hsz
  have HSg := Lib.hid hsl
  have HCC := Lib.hid hcc
  have HL := Lib.hid hl
  have HQ := Lib.hid hq
  clear p3 p4 p5 his hv hpr hsz hsl hq hl hE hxn ih hsg hok hr hcc qb0 qb1
  unfold maxLen at hm
  go_enter Tryd.func19, Tryd.ntmps19
  go_upto_region 1 with fail
  go_cut [1, 3, 4] (fun s1 s3 s4 wx => ∃ B : Nat, s1 = .pointer (some ⟨B, 0, none⟩) ∧ s3 = .int .i64 cc ∧ s4 = .string sg ∧ B < wx.heap.size ∧ Below w.heap.size w wx ∧ wx.cell? ⟨B, 0, none⟩ = some (.int .i64 d'.op) ∧ wx.cell? ⟨B, 1, none⟩ = some (.int .i64 d'.k) ∧ wx.cell? ⟨B, 2, none⟩ = some (.int .i64 d'.n) ∧ wx.cell? ⟨B, 3, none⟩ = some (.string d'.s) ∧ wx.cell? ⟨B, 4, none⟩ = some (.string d'.nm) ∧ wx.cell? ⟨B, 5, none⟩ = some (.slice A l.length c))
  case first =>
    go_wp2_with fail
    refine (HQ.out _).mono ?_; rintro e w1 ⟨rfl, rfl⟩
    go_wp2_with fail
    go_meet
    exact ⟨_, rfl, rfl, rfl, by first | (simp; done) | (simp; omega), b_new _ _, by simp [go_sem], by simp [go_sem], by simp [go_sem], by simp [go_sem], by simp [go_sem], by simp [go_sem]⟩
  case rest =>
  obtain ⟨B, rfl, rfl, rfl, hB, hbw, m0, m1, m2, m3, m4, m5⟩ := hcut
  by_cases o1 : d'.op = 1
  · have t1 : (d'.op == 1) = true := beq_iff_eq.2 o1
    have hk : knownB d'.k d'.n d'.s.data.toList = true := by
      have := HP.out.2.1
      unfold vOk at this
      rw [if_pos o1] at this
      simp only [Bool.and_eq_true] at this
      exact this.1
    have hz : valE d'.k d'.n d'.s.data.toList = 0 := by
      unfold knownB at hk
      simp only [Bool.and_eq_true, decide_eq_true_eq] at hk
      exact hk.2
    have hc := ShowRef.text_good d'.k d'.n d'.s wc hz (HV.out.below hbw)
    have e : r = showL d'.k d'.n d'.s.data.toList := by rw [← HR.out]; unfold txtF; rw [if_pos o1]
    have HE := Lib.hid e
    have HC := Lib.hid hc
    clear hc hk hz e o1
    go_wp2_with fail
    refine HC.out.mono ?_; rintro e w1 ⟨rfl, hb1⟩
    go_wp2_with fail
    go_ret
    exact ⟨by rw [HE.out]; rfl, hbw.trans (hb1.mono hbw.size)⟩
  have t1 : (d'.op == 1) = false := beq_eq_false_iff_ne.2 o1
  by_cases o2 : d'.op = 2
  · have t2 : (d'.op == 2) = true := beq_iff_eq.2 o2
    have e : r = d'.nm.data.toList := by rw [← HR.out]; unfold txtF; rw [if_neg o1, if_pos o2]
    have HE := Lib.hid e
    clear e o1 o2
    go_wp2_with fail
    go_ret
    exact ⟨str_inj (by rw [HE.out]), hbw⟩
  have t2 : (d'.op == 2) = false := beq_eq_false_iff_ne.2 o2
  have hw2 : ∀ W, Below wc.heap.size wc W → Show.Pow W := fun W hb => HV.out.below (hbw.trans (hb.mono hbw.size))
  have hal : 0 < l.length ∧ l.length ≤ 3 ∧ (cc = 7 → d'.op = 17 ∨ d'.op = 18) ∧ (d'.op = 17 → l.length = 3 ∧ cc = 7) ∧ (d'.op = 18 → l.length = 1 ∧ cc = 7) ∧ (cc = 6 → d'.op = 3 ∨ d'.op = 4) ∧ (d'.op = 4 → cc = 6) ∧ (cc ≠ 6 → d'.op ≠ 18 → 1 < l.length) := by
    have h1 := HP.out.1
    have h2 := HCC.out
    rw [h1]
    have : ∀ k : Nat, k < 19 → k = 0 ∨ k = 1 ∨ k = 2 ∨ (0 < arity (k : Int) ∧ arity (k : Int) ≤ 3 ∧ (precF (k : Int) + 1 = 7 → (k : Int) = 17 ∨ (k : Int) = 18) ∧ ((k : Int) = 17 → arity (k : Int) = 3 ∧ precF (k : Int) + 1 = 7) ∧ ((k : Int) = 18 → arity (k : Int) = 1 ∧ precF (k : Int) + 1 = 7) ∧ (precF (k : Int) + 1 = 6 → (k : Int) = 3 ∨ (k : Int) = 4) ∧ ((k : Int) = 4 → precF (k : Int) + 1 = 6) ∧ (precF (k : Int) + 1 ≠ 6 → (k : Int) ≠ 18 → 1 < arity (k : Int))) := by decide
    obtain ⟨k, hk⟩ : ∃ k : Nat, d'.op = k := ⟨d'.op.toNat, by omega⟩
    rw [hk] at h2 p1 o1 o2 ⊢
    rcases this k (by omega) with h | h | h | h
    · omega
    · omega
    · omega
    · rw [h2] at h; exact h
  obtain ⟨l0, l3, l7, l17, l18, l6, l4, l1⟩ := hal
  obtain ⟨a, e0, B0, k0, c0, hA0, hat0, his0⟩ := HI.out 0 l0
  subst hA0
  obtain ⟨f0, f1, f2, f3, f4, f5⟩ := hat0.below hbw
  rw [Nat.zero_mul, show a.add 0 = a from rfl] at f0 f1 f2 f3 f4 f5
  have hsx0 := HSz.out _ (List.getElem_mem l0)
  have hok0 := okN_op (HL.out _ (List.getElem_mem l0))
  have hab : a.block < wc.heap.size := by have := cell_lt' f5; simpa [Addr.add] using this
  have hbr : ∀ (p : Int) (x : Int × List UInt8), (br p x).length ≤ x.2.length + 2 := fun p x => by unfold br; split <;> simp
  have i4 : (0 : Int) < (l.length : Int) := by omega
  have hbl : Below wc.heap.size wc wc := Below.refl _ _
  by_cases o18 : d'.op = 18
  · have t18 : (d'.op == 18) = true := beq_iff_eq.2 o18
    obtain ⟨t, ht⟩ : ∃ t : ByteArray, t = ⟨(Ex.txt l[0]).toArray⟩ := ⟨_, rfl⟩
    have htl : t.data.toList = Ex.txt l[0] := by rw [ht]
    have hts : t.size ≤ 10000 := by show t.data.toList.length ≤ _; rw [htl]; omega
    have hc := fun W (hb : Below wc.heap.size wc W) => HPr.out _ (List.getElem_mem l0) e0 B0 k0 c0 W (his0.below (hbw.trans (hb.mono hbw.size))) (hw2 W hb)
    rw [← ht] at hc
    have e : r = ([108, 101, 110, 40] : List UInt8) ++ (Ex.txt l[0] ++ [41]) := by
      rw [← HR.out]; unfold txtF; rw [if_neg o1, if_neg o2, if_pos (by have := HCC.out; have := (l18 o18).2; omega), txtL_map, List.map_map]
      show signF d'.op ++ (40 :: (commas (l.map Ex.txt) ++ [41])) = _
      rw [one_txt l (l18 o18).1 l0, o18]; rfl
    have HE := Lib.hid e
    have HC := Lib.hid hc
    have HT := Lib.hid htl
    have s1 := adds ⟨#[108, 101, 110, 40]⟩ t (by decide) (by omega)
    have s2 := adds (⟨#[108, 101, 110, 40]⟩ ++ t) ⟨#[41]⟩ (by rw [ByteArray.size_append]; show 4 + t.size ≤ _; omega) (by decide)
    clear hc ht htl e o1 o2 o18 l3 l7 l17 l18 l6 l4 l1 hw2 hbr hts hss hat0 his0 hsx0 hok0 hcb
    go_wp2_with fail
    refine (HC.out _ (Below.refl _ _)).mono ?_; rintro e w1 ⟨rfl, hb1⟩
    go_wp2_with fail
    go_ret
    exact ⟨str_inj (by rw [HE.out, ← HT.out]; simp [ByteArray.data_append]), hbw.trans (hb1.mono hbw.size)⟩
  have t18 : (d'.op == 18) = false := beq_eq_false_iff_ne.2 o18
  by_cases o17 : d'.op = 17
  · have t17 : (d'.op == 17) = true := beq_iff_eq.2 o17
    obtain ⟨hl3, h7⟩ := l17 o17
    have l1' : 1 < l.length := by omega
    have l2' : 2 < l.length := by omega
    obtain ⟨a', e1, B1, k1, c1, hA1, hat1, his1⟩ := HI.out 1 l1'
    obtain rfl : a = a' := by injection hA1
    obtain ⟨g0, g1, g2, g3, g4, g5⟩ := hat1.below hbw
    rw [Nat.one_mul] at g0 g1 g2 g3 g4 g5
    have hsx1 := HSz.out _ (List.getElem_mem l1')
    have hok1 := okN_op (HL.out _ (List.getElem_mem l1'))
    obtain ⟨a', e2, B2, k2, c2, hA2, hat2, his2⟩ := HI.out 2 l2'
    obtain rfl : a = a' := by injection hA2
    obtain ⟨z0, z1, z2, z3, z4, z5⟩ := hat2.below hbw
    rw [show 2 * 6 = 12 from rfl] at z0 z1 z2 z3 z4 z5
    have hsx2 := HSz.out _ (List.getElem_mem l2')
    have hok2 := okN_op (HL.out _ (List.getElem_mem l2'))
    obtain ⟨t, ht⟩ : ∃ t : ByteArray, t = ⟨(Ex.txt l[0]).toArray⟩ := ⟨_, rfl⟩
    have htl : t.data.toList = Ex.txt l[0] := by rw [ht]
    have hts : t.size ≤ 10000 := by show t.data.toList.length ≤ _; rw [htl]; omega
    have hc0 := fun W (hb : Below wc.heap.size wc W) => HPr.out _ (List.getElem_mem l0) e0 B0 k0 c0 W (his0.below (hbw.trans (hb.mono hbw.size))) (hw2 W hb)
    rw [← ht] at hc0
    have HC0 := Lib.hid hc0
    have HT0 := Lib.hid htl
    obtain ⟨u, hu⟩ : ∃ t : ByteArray, t = ⟨(Ex.txt l[1]).toArray⟩ := ⟨_, rfl⟩
    have hul : u.data.toList = Ex.txt l[1] := by rw [hu]
    have hus : u.size ≤ 10000 := by show u.data.toList.length ≤ _; rw [hul]; omega
    have hc1 := fun W (hb : Below wc.heap.size wc W) => HPr.out _ (List.getElem_mem l1') e1 B1 k1 c1 W (his1.below (hbw.trans (hb.mono hbw.size))) (hw2 W hb)
    rw [← hu] at hc1
    have HC1 := Lib.hid hc1
    have HT1 := Lib.hid hul
    obtain ⟨v, hv⟩ : ∃ t : ByteArray, t = ⟨(Ex.txt l[2]).toArray⟩ := ⟨_, rfl⟩
    have hvl : v.data.toList = Ex.txt l[2] := by rw [hv]
    have hvs : v.size ≤ 10000 := by show v.data.toList.length ≤ _; rw [hvl]; omega
    have hc2 := fun W (hb : Below wc.heap.size wc W) => HPr.out _ (List.getElem_mem l2') e2 B2 k2 c2 W (his2.below (hbw.trans (hb.mono hbw.size))) (hw2 W hb)
    rw [← hv] at hc2
    have HC2 := Lib.hid hc2
    have HT2 := Lib.hid hvl
    have e : r = ([105, 102, 40] : List UInt8) ++ (Ex.txt l[0] ++ (([44, 32] : List UInt8) ++ (Ex.txt l[1] ++ (([44, 32] : List UInt8) ++ (Ex.txt l[2] ++ [41]))))) := by
      rw [← HR.out]; unfold txtF; rw [if_neg o1, if_neg o2, if_pos (by have := HCC.out; omega), txtL_map, List.map_map]
      show signF d'.op ++ (40 :: (commas (l.map Ex.txt) ++ [41])) = _
      rw [three_txt l hl3 l0 l1' l2', o17, show signF 17 = [105, 102] from rfl]; simp
    have HE := Lib.hid e
    have hsz1 : (⟨#[105, 102, 40]⟩ : ByteArray).size = 3 := rfl
    have hsz2 : (⟨#[44, 32]⟩ : ByteArray).size = 2 := rfl
    have s1 := adds ⟨#[105, 102, 40]⟩ t (by decide) (by omega)
    have s2 := adds (⟨#[105, 102, 40]⟩ ++ t) ⟨#[44, 32]⟩ (by simp only [ByteArray.size_append]; omega) (by decide)
    have s3 := adds (⟨#[105, 102, 40]⟩ ++ t ++ ⟨#[44, 32]⟩) u (by simp only [ByteArray.size_append]; omega) (by omega)
    have s4 := adds (⟨#[105, 102, 40]⟩ ++ t ++ ⟨#[44, 32]⟩ ++ u) ⟨#[44, 32]⟩ (by simp only [ByteArray.size_append]; omega) (by decide)
    have s5 := adds (⟨#[105, 102, 40]⟩ ++ t ++ ⟨#[44, 32]⟩ ++ u ++ ⟨#[44, 32]⟩) v (by simp only [ByteArray.size_append]; omega) (by omega)
    have s6 := adds (⟨#[105, 102, 40]⟩ ++ t ++ ⟨#[44, 32]⟩ ++ u ++ ⟨#[44, 32]⟩ ++ v) ⟨#[41]⟩ (by simp only [ByteArray.size_append]; omega) (by decide)
    have HCells := Lib.hid (show ∀ w', Below wc.heap.size wc w' → w'.cell? ⟨B, 5, none⟩ = some (.slice (some a) l.length c) ∧ w'.cell? a = some (.int .i64 e0.op) ∧ w'.cell? ⟨a.block, a.off + 1, none⟩ = some (.int .i64 e0.k) ∧ w'.cell? ⟨a.block, a.off + 2, none⟩ = some (.int .i64 e0.n) ∧ w'.cell? ⟨a.block, a.off + 3, none⟩ = some (.string e0.s) ∧ w'.cell? ⟨a.block, a.off + 4, none⟩ = some (.string e0.nm) ∧ w'.cell? ⟨a.block, a.off + 5, none⟩ = some (.slice B0 k0 c0) ∧ w'.cell? ⟨a.block, a.off + 6, none⟩ = some (.int .i64 e1.op) ∧ w'.cell? ⟨a.block, a.off + 6 + 1, none⟩ = some (.int .i64 e1.k) ∧ w'.cell? ⟨a.block, a.off + 6 + 2, none⟩ = some (.int .i64 e1.n) ∧ w'.cell? ⟨a.block, a.off + 6 + 3, none⟩ = some (.string e1.s) ∧ w'.cell? ⟨a.block, a.off + 6 + 4, none⟩ = some (.string e1.nm) ∧ w'.cell? ⟨a.block, a.off + 6 + 5, none⟩ = some (.slice B1 k1 c1) ∧ w'.cell? ⟨a.block, a.off + 12, none⟩ = some (.int .i64 e2.op) ∧ w'.cell? ⟨a.block, a.off + 12 + 1, none⟩ = some (.int .i64 e2.k) ∧ w'.cell? ⟨a.block, a.off + 12 + 2, none⟩ = some (.int .i64 e2.n) ∧ w'.cell? ⟨a.block, a.off + 12 + 3, none⟩ = some (.string e2.s) ∧ w'.cell? ⟨a.block, a.off + 12 + 4, none⟩ = some (.string e2.nm) ∧ w'.cell? ⟨a.block, a.off + 12 + 5, none⟩ = some (.slice B2 k2 c2) from fun w' h => ⟨((bcell h).1 B 5 hB).trans m5, (h.cell (p := a) hab).trans f0, ((bcell h).1 _ _ hab).trans f1, ((bcell h).1 _ _ hab).trans f2, ((bcell h).1 _ _ hab).trans f3, ((bcell h).1 _ _ hab).trans f4, ((bcell h).1 _ _ hab).trans f5, (h.cell (p := a.add 6) hab).trans g0, ((bcell h).1 _ _ hab).trans g1, ((bcell h).1 _ _ hab).trans g2, ((bcell h).1 _ _ hab).trans g3, ((bcell h).1 _ _ hab).trans g4, ((bcell h).1 _ _ hab).trans g5, (h.cell (p := a.add 12) hab).trans z0, ((bcell h).1 _ _ hab).trans z1, ((bcell h).1 _ _ hab).trans z2, ((bcell h).1 _ _ hab).trans z3, ((bcell h).1 _ _ hab).trans z4, ((bcell h).1 _ _ hab).trans z5⟩)
    have i5 : (1 : Int) < (l.length : Int) := by omega
    have i6 : (2 : Int) < (l.length : Int) := by omega
    clear hc0 hc1 hc2 ht hu hv htl hul hvl e o1 o2 o17 o18 h7 l3 l7 l17 l18 l6 l4 l1 hl3 hw2 hbr hts hus hvs hss hat0 his0 hat1 his1 hat2 his2 hA1 hA2 hsx0 hok0 hsx1 hok1 hsx2 hok2 hcb hsz1 hsz2
    go_wp2_with fail
    go_region_held3 (fun w' => w'.cell? ⟨B, 5, none⟩ = some (.slice (some a) l.length c) ∧ w'.cell? a = some (.int .i64 e0.op) ∧ w'.cell? ⟨a.block, a.off + 1, none⟩ = some (.int .i64 e0.k) ∧ w'.cell? ⟨a.block, a.off + 2, none⟩ = some (.int .i64 e0.n) ∧ w'.cell? ⟨a.block, a.off + 3, none⟩ = some (.string e0.s) ∧ w'.cell? ⟨a.block, a.off + 4, none⟩ = some (.string e0.nm) ∧ w'.cell? ⟨a.block, a.off + 5, none⟩ = some (.slice B0 k0 c0) ∧ w'.cell? ⟨a.block, a.off + 6, none⟩ = some (.int .i64 e1.op) ∧ w'.cell? ⟨a.block, a.off + 6 + 1, none⟩ = some (.int .i64 e1.k) ∧ w'.cell? ⟨a.block, a.off + 6 + 2, none⟩ = some (.int .i64 e1.n) ∧ w'.cell? ⟨a.block, a.off + 6 + 3, none⟩ = some (.string e1.s) ∧ w'.cell? ⟨a.block, a.off + 6 + 4, none⟩ = some (.string e1.nm) ∧ w'.cell? ⟨a.block, a.off + 6 + 5, none⟩ = some (.slice B1 k1 c1) ∧ w'.cell? ⟨a.block, a.off + 12, none⟩ = some (.int .i64 e2.op) ∧ w'.cell? ⟨a.block, a.off + 12 + 1, none⟩ = some (.int .i64 e2.k) ∧ w'.cell? ⟨a.block, a.off + 12 + 2, none⟩ = some (.int .i64 e2.n) ∧ w'.cell? ⟨a.block, a.off + 12 + 3, none⟩ = some (.string e2.s) ∧ w'.cell? ⟨a.block, a.off + 12 + 4, none⟩ = some (.string e2.nm) ∧ w'.cell? ⟨a.block, a.off + 12 + 5, none⟩ = some (.slice B2 k2 c2)) (first | exact HCells.out _ hbl | exact HCells.out _ (b_drew hbl))
      (first | (go_at_call 19; (with_reducible refine (HC0.out _ ?_).mono ?_); (first | exact hbl | exact b_drew hbl); rintro e w3 ⟨rfl, hb3⟩; have hbl : Below wc.heap.size wc w3 := (by (first | (exact b_step hbl hb3) | (exact b_step (b_drew hbl) hb3)))) | (go_at_call 19; (with_reducible refine (HC1.out _ ?_).mono ?_); (first | exact hbl | exact b_drew hbl); rintro e w4 ⟨rfl, hb4⟩; have hbl : Below wc.heap.size wc w4 := (by (first | (exact b_step hbl hb4) | (exact b_step (b_drew hbl) hb4)))) | (go_at_call 19; (with_reducible refine (HC2.out _ ?_).mono ?_); (first | exact hbl | exact b_drew hbl); rintro e w5 ⟨rfl, hb5⟩; have hbl : Below wc.heap.size wc w5 := (by (first | (exact b_step hbl hb5) | (exact b_step (b_drew hbl) hb5)))))
    go_wp2_with fail
    go_ret
    exact ⟨str_inj (by rw [HE.out, ← HT0.out, ← HT1.out, ← HT2.out]; simp [ByteArray.data_append]), hbw.trans (hbl.mono hbw.size)⟩
  have t17 : (d'.op == 17) = false := beq_eq_false_iff_ne.2 o17
  by_cases o6 : cc = 6
  · have t6 : (cc == 6) = true := beq_iff_eq.2 o6
    obtain ⟨t, ht⟩ : ∃ t : ByteArray, t = ⟨(br 5 (l[0].d.op, Ex.txt l[0])).toArray⟩ := ⟨_, rfl⟩
    have htl : t.data.toList = br 5 (arg (txtL l) 0) := by rw [ht, txtL_at l 0 l0]
    have hts : t.size ≤ 10000 := by
      show t.data.toList.length ≤ _
      have := hbr 5 (arg (txtL l) 0); rw [htl]; rw [txtL_at l 0 l0] at this ⊢; dsimp only at this; omega
    have hc := fun W (hb : Below wc.heap.size wc W) => bracketed_any l[0] (HPr.out _ (List.getElem_mem l0)) hok0 (by omega) 5 6 rfl e0 B0 k0 c0 W (his0.below (hbw.trans (hb.mono hbw.size))) (hw2 W hb)
    rw [← ht] at hc
    have e : r = csF d'.op ++ br 5 (arg (txtL l) 0) := by
      have hq := HCC.out
      rw [← HR.out]; unfold txtF
      rw [if_neg o1, if_neg o2, if_neg (by omega)]
      rcases l6 o6 with h | h
      · rw [if_neg (by omega), if_pos (by omega), h]; rfl
      · rw [if_pos h, h]; rfl
    have HE := Lib.hid e
    have HC := Lib.hid hc
    have HT := Lib.hid htl
    have s1 := adds sg t (by omega) (by omega)
    clear hc ht htl e o1 o2 o17 o18 o6 l3 l7 l17 l18 l6 l4 l1 hw2 hbr hts hss hat0 his0 hsx0 hok0 hcb
    go_wp2_with fail
    refine (HC.out _ (Below.refl _ _)).mono ?_; rintro e w1 ⟨rfl, hb1⟩
    go_wp2_with fail
    go_ret
    exact ⟨str_inj (by rw [HE.out, ← HT.out, ← HSg.out]; simp [ByteArray.data_append]), hbw.trans (hb1.mono hbw.size)⟩
  have t6 : (cc == 6) = false := beq_eq_false_iff_ne.2 o6
  have l1' : 1 < l.length := l1 o6 o18
  have o4 : d'.op ≠ 4 := fun h => o6 (l4 h)
  have o7 : cc ≠ 7 := fun h => by have := l7 h; omega
  have hcs : csF d'.op = signF d'.op := by unfold csF; rw [if_neg (by omega), if_neg o4]
  have i5 : (1 : Int) < (l.length : Int) := by omega
  obtain ⟨a', e1, B1, k1, c1, hA1, hat1, his1⟩ := HI.out 1 l1'
  obtain rfl : a = a' := by injection hA1
  obtain ⟨g0, g1, g2, g3, g4, g5⟩ := hat1.below hbw
  rw [Nat.one_mul] at g0 g1 g2 g3 g4 g5
  have hsx1 := HSz.out _ (List.getElem_mem l1')
  have hok1 := okN_op (HL.out _ (List.getElem_mem l1'))
  have HCells := Lib.hid (show ∀ w', Below wc.heap.size wc w' → w'.cell? ⟨B, 5, none⟩ = some (.slice (some a) l.length c) ∧ w'.cell? a = some (.int .i64 e0.op) ∧ w'.cell? ⟨a.block, a.off + 1, none⟩ = some (.int .i64 e0.k) ∧ w'.cell? ⟨a.block, a.off + 2, none⟩ = some (.int .i64 e0.n) ∧ w'.cell? ⟨a.block, a.off + 3, none⟩ = some (.string e0.s) ∧ w'.cell? ⟨a.block, a.off + 4, none⟩ = some (.string e0.nm) ∧ w'.cell? ⟨a.block, a.off + 5, none⟩ = some (.slice B0 k0 c0) ∧ w'.cell? ⟨a.block, a.off + 6, none⟩ = some (.int .i64 e1.op) ∧ w'.cell? ⟨a.block, a.off + 6 + 1, none⟩ = some (.int .i64 e1.k) ∧ w'.cell? ⟨a.block, a.off + 6 + 2, none⟩ = some (.int .i64 e1.n) ∧ w'.cell? ⟨a.block, a.off + 6 + 3, none⟩ = some (.string e1.s) ∧ w'.cell? ⟨a.block, a.off + 6 + 4, none⟩ = some (.string e1.nm) ∧ w'.cell? ⟨a.block, a.off + 6 + 5, none⟩ = some (.slice B1 k1 c1) from fun w' h => ⟨((bcell h).1 B 5 hB).trans m5, (h.cell (p := a) hab).trans f0, ((bcell h).1 _ _ hab).trans f1, ((bcell h).1 _ _ hab).trans f2, ((bcell h).1 _ _ hab).trans f3, ((bcell h).1 _ _ hab).trans f4, ((bcell h).1 _ _ hab).trans f5, (h.cell (p := a.add 6) hab).trans g0, ((bcell h).1 _ _ hab).trans g1, ((bcell h).1 _ _ hab).trans g2, ((bcell h).1 _ _ hab).trans g3, ((bcell h).1 _ _ hab).trans g4, ((bcell h).1 _ _ hab).trans g5⟩)
  obtain ⟨pa, hpa⟩ : ∃ p, leftF d'.op = p := ⟨_, rfl⟩
  have e : r = br pa (arg (txtL l) 0) ++ (32 :: (csF d'.op ++ (32 :: br cc (arg (txtL l) 1)))) := by
    have hq := HCC.out
    rw [← HR.out, hcs, ← hpa, ← hq]; unfold txtF; rw [if_neg o1, if_neg o2, if_neg (by omega), if_neg o4, if_neg (by omega)]
  have HE := Lib.hid e
  obtain ⟨t, ht⟩ : ∃ t : ByteArray, t = ⟨(br pa (l[0].d.op, Ex.txt l[0])).toArray⟩ := ⟨_, rfl⟩
  have htl : t.data.toList = br pa (arg (txtL l) 0) := by rw [ht, txtL_at l 0 l0]
  have hts : t.size ≤ 10000 := by
    show t.data.toList.length ≤ _
    rw [ht]; show (br pa (l[0].d.op, Ex.txt l[0])).length ≤ _
    have := hbr pa (l[0].d.op, Ex.txt l[0]); dsimp only at this; omega
  obtain ⟨u, hu⟩ : ∃ t : ByteArray, t = ⟨(br cc (l[1].d.op, Ex.txt l[1])).toArray⟩ := ⟨_, rfl⟩
  have hul : u.data.toList = br cc (arg (txtL l) 1) := by rw [hu, txtL_at l 1 l1']
  have hus : u.size ≤ 10000 := by
    show u.data.toList.length ≤ _
    rw [hu]; show (br cc (l[1].d.op, Ex.txt l[1])).length ≤ _
    have := hbr cc (l[1].d.op, Ex.txt l[1]); dsimp only at this; omega
  have HT := Lib.hid htl
  have HU := Lib.hid hul
  have s1 := adds t ⟨#[32]⟩ (by omega) (by decide)
  have s2 := adds (t ++ ⟨#[32]⟩) sg (by rw [ByteArray.size_append]; show t.size + 1 ≤ _; omega) (by omega)
  have s3 := adds (t ++ ⟨#[32]⟩ ++ sg) ⟨#[32]⟩ (by rw [ByteArray.size_append, ByteArray.size_append]; show t.size + 1 + sg.size ≤ _; omega) (by decide)
  have s4 := adds (t ++ ⟨#[32]⟩ ++ sg ++ ⟨#[32]⟩) u (by rw [ByteArray.size_append, ByteArray.size_append, ByteArray.size_append]; show t.size + 1 + sg.size + 1 ≤ _; omega) (by omega)
  have hwq : IntKind.i64.wrap (cc + 1) = cc + 1 := IntWalk.i64_in _ (by omega)
  have hc := fun (least : Int) (hp : least = pa + 1) W (hb : Below wc.heap.size wc W) => bracketed_any l[0] (HPr.out _ (List.getElem_mem l0)) hok0 (by omega) pa least hp e0 B0 k0 c0 W (his0.below (hbw.trans (hb.mono hbw.size))) (hw2 W hb)
  have hd := fun W (hb : Below wc.heap.size wc W) => bracketed_any l[1] (HPr.out _ (List.getElem_mem l1')) hok1 (by omega) cc (cc + 1) rfl e1 B1 k1 c1 W (his1.below (hbw.trans (hb.mono hbw.size))) (hw2 W hb)
  rw [← ht] at hc
  rw [← hu] at hd
  by_cases o3 : cc = 3
  · have t3 : (cc == 3) = true := beq_iff_eq.2 o3
    have hc := hc 4 (by rw [← hpa]; unfold leftF; have := HCC.out; rw [if_pos (by omega)]; omega)
    have hd : ∀ W, Below wc.heap.size wc W → _ := hd
    rw [show cc + 1 = 4 by omega] at hd
    have HC := Lib.hid hc
    have HD := Lib.hid hd
    clear hc hd ht hu htl hul e o1 o2 o3 o4 o6 o7 o17 o18 l1 l3 l4 l6 l7 l17 l18 hw2 hbr hts hus hss hat0 his0 hat1 his1 hA1 hsx0 hok0 hsx1 hok1 hcb hcs hpa hwq
    go_wp2_with fail
    go_region_held3 (fun w' => w'.cell? ⟨B, 5, none⟩ = some (.slice (some a) l.length c) ∧ w'.cell? a = some (.int .i64 e0.op) ∧ w'.cell? ⟨a.block, a.off + 1, none⟩ = some (.int .i64 e0.k) ∧ w'.cell? ⟨a.block, a.off + 2, none⟩ = some (.int .i64 e0.n) ∧ w'.cell? ⟨a.block, a.off + 3, none⟩ = some (.string e0.s) ∧ w'.cell? ⟨a.block, a.off + 4, none⟩ = some (.string e0.nm) ∧ w'.cell? ⟨a.block, a.off + 5, none⟩ = some (.slice B0 k0 c0) ∧ w'.cell? ⟨a.block, a.off + 6, none⟩ = some (.int .i64 e1.op) ∧ w'.cell? ⟨a.block, a.off + 6 + 1, none⟩ = some (.int .i64 e1.k) ∧ w'.cell? ⟨a.block, a.off + 6 + 2, none⟩ = some (.int .i64 e1.n) ∧ w'.cell? ⟨a.block, a.off + 6 + 3, none⟩ = some (.string e1.s) ∧ w'.cell? ⟨a.block, a.off + 6 + 4, none⟩ = some (.string e1.nm) ∧ w'.cell? ⟨a.block, a.off + 6 + 5, none⟩ = some (.slice B1 k1 c1)) (first | exact HCells.out _ hbl | exact HCells.out _ (b_drew hbl))
      (first | (go_at_call 34; (with_reducible refine (HC.out _ ?_).mono ?_); (first | exact hbl | exact b_drew hbl); rintro e w4 ⟨rfl, hb4⟩; have hbl : Below wc.heap.size wc w4 := (by (first | (exact b_step hbl hb4) | (exact b_step (b_drew hbl) hb4)))) | (go_at_call 34; (with_reducible refine (HD.out _ ?_).mono ?_); (first | exact hbl | exact b_drew hbl); rintro e w5 ⟨rfl, hb5⟩; have hbl : Below wc.heap.size wc w5 := (by (first | (exact b_step hbl hb5) | (exact b_step (b_drew hbl) hb5)))))
    go_wp2_with fail
    go_ret
    exact ⟨str_inj (by rw [HE.out, ← HT.out, ← HU.out, ← HSg.out]; simp [ByteArray.data_append]), hbw.trans (hbl.mono hbw.size)⟩
  have t3 : (cc == 3) = false := beq_eq_false_iff_ne.2 o3
  have hc := hc cc (by rw [← hpa]; unfold leftF; have := HCC.out; rw [if_neg (by omega)]; omega)
  have HC := Lib.hid hc
  have HD := Lib.hid hd
  clear hc hd ht hu htl hul e o1 o2 o3 o4 o6 o7 o17 o18 l1 l3 l4 l6 l7 l17 l18 hw2 hbr hts hus hss hat0 his0 hat1 his1 hA1 hsx0 hok0 hsx1 hok1 hcb hcs hpa
  go_wp2_with fail
  go_region_held3 (fun w' => w'.cell? ⟨B, 5, none⟩ = some (.slice (some a) l.length c) ∧ w'.cell? a = some (.int .i64 e0.op) ∧ w'.cell? ⟨a.block, a.off + 1, none⟩ = some (.int .i64 e0.k) ∧ w'.cell? ⟨a.block, a.off + 2, none⟩ = some (.int .i64 e0.n) ∧ w'.cell? ⟨a.block, a.off + 3, none⟩ = some (.string e0.s) ∧ w'.cell? ⟨a.block, a.off + 4, none⟩ = some (.string e0.nm) ∧ w'.cell? ⟨a.block, a.off + 5, none⟩ = some (.slice B0 k0 c0) ∧ w'.cell? ⟨a.block, a.off + 6, none⟩ = some (.int .i64 e1.op) ∧ w'.cell? ⟨a.block, a.off + 6 + 1, none⟩ = some (.int .i64 e1.k) ∧ w'.cell? ⟨a.block, a.off + 6 + 2, none⟩ = some (.int .i64 e1.n) ∧ w'.cell? ⟨a.block, a.off + 6 + 3, none⟩ = some (.string e1.s) ∧ w'.cell? ⟨a.block, a.off + 6 + 4, none⟩ = some (.string e1.nm) ∧ w'.cell? ⟨a.block, a.off + 6 + 5, none⟩ = some (.slice B1 k1 c1)) (first | exact HCells.out _ hbl | exact HCells.out _ (b_drew hbl))
    (first | (go_at_call 34; (with_reducible refine (HC.out _ ?_).mono ?_); (first | exact hbl | exact b_drew hbl); rintro e w4 ⟨rfl, hb4⟩; have hbl : Below wc.heap.size wc w4 := (by (first | (exact b_step hbl hb4) | (exact b_step (b_drew hbl) hb4)))) | (go_at_call 34; (with_reducible refine (HD.out _ ?_).mono ?_); (first | exact hbl | exact b_drew hbl); rintro e w5 ⟨rfl, hb5⟩; have hbl : Below wc.heap.size wc w5 := (by (first | (exact b_step hbl hb5) | (exact b_step (b_drew hbl) hb5)))))
  go_wp2_with fail
  go_ret
  exact ⟨str_inj (by rw [HE.out, ← HT.out, ← HU.out, ← HSg.out]; simp [ByteArray.data_append]), hbw.trans (hbl.mono hbw.size)⟩
end Go.Proofs.YtmcggbloangpaaaDoor.PrR
