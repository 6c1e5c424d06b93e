/- Constant folding, the small functions: fold.Closed, constant, literal, isBool, chosen. -/
import Derived.Test.YtehkebncdahmcaaGreatDoorFoMath
import Derived.Test.YtehkebncdahmcaaGreatDoorNmOf
import Derived.Test.YtehkebncdahmcaaGreatDoorEvEval
namespace Go.Proofs.YtehkebncdahmcaaGreatDoor.Fo
open Go.RowKit
open ValM LexM NumM ExM NmM EvM EvP FoM Kit ExL ExP ExV ExN NmC NmO Ev EvO EvF EvE
set_option linter.unusedVariables false

theorem rise_empty {L : List ByteArray} : (rise (bytesL L)).length = 0 ↔ L = [] := by
  constructor
  · intro h
    have h1 : rise (bytesL L) = [] := List.eq_nil_of_length_eq_zero h
    match L with
    | [] => rfl
    | t :: r =>
      have := (rise_mem (bytesL (t :: r)) t.data.toList).2 (by unfold bytesL; simp)
      rw [h1] at this; simp at this
  · rintro rfl; rfl
theorem ofL_closed (x : Ex) : (decide (x.checkE = 0) && decide ((ofL x).length = 0)) = (decide (x.checkE = 0) && closedB x) := by
  unfold ofL
  by_cases h : x.checkE = 0
  · rw [if_pos h]
    congr 1
    rw [Bool.eq_iff_iff, decide_eq_true_eq, rise_empty, closed_nil]
  · rw [decide_eq_false h]; rfl
theorem own_slice {w : World} {base : Nat} {e : TypeId} {size : Nat} {v : Value} {n : Nat} {xs : List Value} (h : w.ownsRow base e size v n xs) : ∃ A c, v = .slice A n c := by
  rcases h.2 with ⟨h1, h2⟩ | ⟨g, cap, cur, h1, _⟩
  · exact ⟨none, 0, by rw [h1, h2]⟩
  · exact ⟨_, _, h1⟩
set_option maxRecDepth 100000 in
set_option maxHeartbeats 1000000 in
theorem closed_any (x : Ex) (d : Nd) (A : Option Addr) (m c : Nat) (w : World) (his : Is w x d A m) (hT : Tab w) :
    Calls Tryz.prog 8 #[.agg #[.int .i64 d.op, .int .i64 d.k, .int .i64 d.n, .string d.s, .string d.nm, .slice A m c]] w fun e w' => e = .returned (.tuple #[.bool (decide (x.checkE = 0) && closedB x), .int .i64 x.checkE]) ∧ Below w.heap.size w w' := by
  have hL := ofL_closed x
  have hO := fun o => NmO.of_any x d A m c (w.alloc o) (his.alloc o) (hT.below (b_new w o))
  obtain ⟨R, hR⟩ : ∃ R, x.checkE = R := ⟨_, rfl⟩
  obtain ⟨L, hL2⟩ : ∃ L, ofL x = L := ⟨_, rfl⟩
  obtain ⟨q, hq⟩ : ∃ q, (decide (R = 0) && closedB x) = q := ⟨_, rfl⟩
  rw [hR, hL2] at hO
  rw [hR, hL2, hq] at hL
  rw [hR, hq]
  obtain ⟨N, hN⟩ : ∃ N, L.length = N := ⟨_, rfl⟩
  rw [hN] at hL
  have HO := Lib.hid hO
  have HN := Lib.hid hN
  have HL := Lib.hid hL
  clear hO hL hL2 hN hq hR his hT
  go_enter Tryz.func8, Tryz.ntmps8
  go_wp2_with fail
  refine (HO.out _).mono ?_; rintro e w1 ⟨v, rfl, hown, hb⟩
  rw [HN.out] at hown
  obtain ⟨A1, c1, rfl⟩ := own_slice hown
  have HB := Lib.hid (b_then hb)
  clear hown hb
  by_cases h0 : R = 0
  · subst h0
    by_cases h1 : N = 0
    · subst h1
      have hq : true = q := HL.out
      subst hq
      clear HL HN HO
      go_wp2_with fail
      go_ret2
      exact ⟨rfl, HB.out⟩
    · have hq : false = q := by rw [← HL.out]; simp [h1]
      subst hq
      have t1 : ((N : Int) == 0) = false := beq_eq_false_iff_ne.2 (by omega)
      clear HL HN HO
      go_wp2_with fail
      go_ret2
      exact ⟨by simp, HB.out⟩
  · have hq : false = q := by rw [← HL.out]; simp [h0]
    subst hq
    have t1 : (R == 0) = false := beq_eq_false_iff_ne.2 h0
    clear HL HN HO
    go_wp2_with fail
    go_ret2
    exact ⟨rfl, HB.out⟩
theorem b_step {wc w w' : World} (h : Below wc.heap.size wc w) (h' : Below w.heap.size w w') : Below wc.heap.size wc w' := h.trans (h'.mono h.size)
set_option maxRecDepth 100000 in
set_option maxHeartbeats 2000000 in
theorem constant_any (x : Ex) (d : Nd) (A : Option Addr) (m c : Nat) (w : World) (his : Is w x d A m) (hT : Tab w) (hck : x.checkE = 0) :
    Calls Tryz.prog 35 #[.agg #[.int .i64 d.op, .int .i64 d.k, .int .i64 d.n, .string d.s, .string d.nm, .slice A m c]] w fun e w' => e = .returned (.tuple #[.agg #[.int .i64 (conVl x).k, .int .i64 (conVl x).n, .string (conVl x).s], .bool (conB x)]) ∧ Below w.heap.size w w' := by
  have hC := fun W (hb : Below w.heap.size w W) => closed_any x d A m c W (his.below hb) (hT.below hb)
  have hE := fun W (hb : Below w.heap.size w W) => EvE.of_any x [] none 0 d A m c W (by simp) (fun f hf => by simp at hf) (his.below hb) (fun i hi => absurd hi (by simp)) (hT.below hb)
  obtain ⟨h1, h2⟩ := ofE_ok (fs := []) hck (fun f hf => by simp at hf)
  have hf0 : EvF.fcs [] = [] := rfl
  simp only [hf0, h1, h2, List.length_nil] at hE
  rw [hck] at hC
  simp only [decide_true, Bool.true_and] at hC
  obtain ⟨V, hV⟩ : ∃ V, Ex.ev [] x = V := ⟨_, rfl⟩
  obtain ⟨q, hq⟩ : ∃ q, closedB x = q := ⟨_, rfl⟩
  have hcv : conVl x = if q = true then V else zeroV := by unfold conVl; rw [hq, hV]
  have hcb : conB x = (q && knV V) := by unfold conB; rw [hq, hV]
  rw [hcv, hcb]
  rw [hq] at hC
  rw [hV] at hE
  obtain ⟨vk, vn, vs⟩ := V
  obtain ⟨kb, hkb⟩ : ∃ kb, knownB vk vn vs.data.toList = kb := ⟨_, rfl⟩
  have hK := fun W => Val.known_any vk vn vs W
  rw [hkb] at hK
  have hkv : knV ⟨vk, vn, vs⟩ = kb := hkb
  rw [hkv]
  simp only at hE
  have hbx := (Box.new w d A m c).below (b_new _ (.cells #[.int .i64 0, .int .i64 0, .string ⟨#[]⟩] 23))
  have hz0 := BV.new (w.alloc (.cells #[.int .i64 d.op, .int .i64 d.k, .int .i64 d.n, .string d.s, .string d.nm, .slice A m c] 26)) 0 0 ⟨#[]⟩
  rw [World.size_alloc] at hz0
  have hb1 := b_more (b_new w (.cells #[.int .i64 d.op, .int .i64 d.k, .int .i64 d.n, .string d.s, .string d.nm, .slice A m c] 26)) (.cells #[.int .i64 0, .int .i64 0, .string ⟨#[]⟩] 23)
  have HC := Lib.hid hC
  have HE := Lib.hid hE
  have HK := Lib.hid hK
  have HX := Lib.hid hbx
  have HZ := Lib.hid hz0
  have HB := Lib.hid hb1
  clear hC hE hK hkb hkv hcv hcb hq hV h1 h2 hf0 hbx hz0 hb1 his hT hck
  go_enter Tryz.func35, Tryz.ntmps35
  go_wp2_with fail
  refine (HC.out _ HB.out).mono ?_; rintro e w1 ⟨rfl, hb1⟩
  have HB1 := Lib.hid (b_trans HB.out hb1)
  have HX1 := Lib.hid (HX.out.below hb1)
  have HZ1 := Lib.hid (HZ.out.below hb1)
  clear hb1
  cases q
  · obtain ⟨t0, t1, t2⟩ := HZ1.out.cells
    have v0 := HZ1.out.frozen
    have zl := HZ1.out.lt
    have hbE := b_set3 HB1.out (w.heap.size + 1) (by omega) (.int .i64 0) (.int .i64 0) (.string ⟨#[]⟩)
    have HBE := Lib.hid hbE
    clear hbE
    go_wp2_with fail
    refine bodyPost_ret (v := .tuple #[.agg #[.int .i64 0, .int .i64 0, .string ⟨#[]⟩], .bool false]) (by simp [results, Tryz.results35, go_sem, t0, t1, t2]) rfl ⟨rfl, HBE.out⟩
  · obtain ⟨b0, b1, b2, b3, b4, b5⟩ := HX1.out.cells
    go_wp2_with fail
    refine (HE.out _ HB1.out).mono ?_; rintro e w2 ⟨rfl, hb2⟩
    have hz2 := (HZ1.out.below hb2).below (b_new w2 (.cells #[.int .i64 vk, .int .i64 vn, .string vs] 23))
    have hv2 := BV.new w2 vk vn vs
    have hbE := b_more (b_trans HB1.out hb2) (.cells #[.int .i64 vk, .int .i64 vn, .string vs] 23)
    obtain ⟨Y, hY⟩ : ∃ Y, w2.alloc (.cells #[.int .i64 vk, .int .i64 vn, .string vs] 23) = Y := ⟨_, rfl⟩
    rw [hY] at hz2 hv2 hbE
    obtain ⟨t0, t1, t2⟩ := hz2.cells
    have v0 := hz2.frozen
    have zl := hz2.lt
    obtain ⟨u0, u1, u2⟩ := hv2.cells
    have ul := hv2.lt
    have HBE := Lib.hid hbE
    have HY := Lib.hid hY
    have hbl := Below.refl Y.heap.size Y
    clear hz2 hv2 hbE hY b0 b1 b2 b3 b4 b5 hb2
    go_wp2_with fail
    rw [HY.out]
    go_region_with (go_at_call 60; (with_reducible refine (HK.out _).mono ?_); rintro e w3 ⟨rfl, hb3⟩; have hbl := (by first | exact b_step hbl hb3 | exact b_step (b_drew hbl) hb3 | exact b_step hbl (b_undrew hb3) : Below Y.heap.size Y w3); obtain ⟨c1, d1⟩ := bcell hbl; have z1 := zlt hbl)
    all_goals (go_wp2_with fail; have k0 := (c1 _ _ zl).trans t0; have k1 := (c1 _ _ zl).trans t1; have k2 := (c1 _ _ zl).trans t2; refine bodyPost_ret (v := .tuple #[.agg #[.int .i64 vk, .int .i64 vn, .string vs], .bool kb]) (by simp [results, Tryz.results35, go_sem, k0, k1, k2]) rfl ⟨by simp, b_set3 (b_trans HBE.out hbl) _ (by omega) _ _ _⟩)
set_option maxHeartbeats 1000000 in
theorem isBool_any (d : Nd) (A : Option Addr) (m c : Nat) (w : World) :
    Calls Tryz.prog 37 #[.agg #[.int .i64 d.op, .int .i64 d.k, .int .i64 d.n, .string d.s, .string d.nm, .slice A m c]] w fun e w' => e = .returned (.bool (decide (d.op = 1) && decide (d.k = 2))) ∧ Below w.heap.size w w' := by
  have hb := b_new w (.cells #[.int .i64 d.op, .int .i64 d.k, .int .i64 d.n, .string d.s, .string d.nm, .slice A m c] 26)
  have HB := Lib.hid hb
  clear hb
  by_cases h1 : d.op = 1
  · by_cases h2 : d.k = 2
    · have t1 : (d.op == 1) = true := by simp [h1]
      have t2 : (d.k == 2) = true := by simp [h2]
      obtain ⟨r, hr⟩ : ∃ r, (decide (d.op = 1) && decide (d.k = 2)) = r := ⟨_, rfl⟩
      have hr2 : true = r := by rw [← hr, h1, h2]; rfl
      rw [hr, ← hr2]
      clear hr hr2 h1 h2
      go_enter Tryz.func37, Tryz.ntmps37
      go_wp2_with fail
      go_ret
      exact ⟨by simp, HB.out⟩
    · have t1 : (d.op == 1) = true := by simp [h1]
      have t2 : (d.k == 2) = false := beq_eq_false_iff_ne.2 h2
      obtain ⟨r, hr⟩ : ∃ r, (decide (d.op = 1) && decide (d.k = 2)) = r := ⟨_, rfl⟩
      have hr2 : false = r := by rw [← hr, h1]; simp [h2]
      rw [hr, ← hr2]
      clear hr hr2 h1 h2
      go_enter Tryz.func37, Tryz.ntmps37
      go_wp2_with fail
      go_ret
      exact ⟨by simp, HB.out⟩
  · have t1 : (d.op == 1) = false := beq_eq_false_iff_ne.2 h1
    obtain ⟨r, hr⟩ : ∃ r, (decide (d.op = 1) && decide (d.k = 2)) = r := ⟨_, rfl⟩
    have hr2 : false = r := by rw [← hr]; simp [h1]
    rw [hr, ← hr2]
    clear hr hr2 h1
    go_enter Tryz.func37, Tryz.ntmps37
    go_wp2_with fail
    go_ret
    exact ⟨by simp, HB.out⟩
end Go.Proofs.YtehkebncdahmcaaGreatDoor.Fo
