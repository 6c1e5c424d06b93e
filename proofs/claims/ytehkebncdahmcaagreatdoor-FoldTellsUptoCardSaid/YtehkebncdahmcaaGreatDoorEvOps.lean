/- Contracts of package eval: truth, fault, negation, length, joined, arithmetic, comparison. -/
import Derived.Test.YtehkebncdahmcaaGreatDoorEvMath
import Derived.Test.YtehkebncdahmcaaGreatDoorValueCmp
import Derived.Test.YtehkebncdahmcaaGreatDoorNum
import Derived.Test.YtehkebncdahmcaaGreatDoorNumQuo
import Derived.Test.YtehkebncdahmcaaGreatDoorKit
namespace Go.Proofs.YtehkebncdahmcaaGreatDoor.Ev
open Go.RowKit
open NumM ValM StrM ExM TyM EvM Kit
set_option linter.unusedVariables false

theorem truth_any (b : Bool) (w : World) : Calls Tryz.prog 76 #[.bool b] w fun e w' => e = .returned (.agg #[.int .i64 2, .int .i64 (bitI b), .string ⟨#[]⟩]) ∧ Below w.heap.size w w' := by
  cases b
  · go_enter Tryz.func76, Tryz.ntmps76
    go_wp2_with fail
    refine bodyPost_ret (v := .agg #[.int .i64 2, .int .i64 0, .string ⟨#[]⟩]) (by simp [results, Tryz.results76, go_sem]) rfl ⟨rfl, b_new _ _⟩
  · go_enter Tryz.func76, Tryz.ntmps76
    go_wp2_with fail
    refine bodyPost_ret (v := .agg #[.int .i64 2, .int .i64 1, .string ⟨#[]⟩]) (by simp [results, Tryz.results76, go_sem]) rfl ⟨rfl, b_new _ _⟩
theorem fault_any (n : Int) (w : World) : Calls Tryz.prog 74 #[.int .i64 n] w fun e w' => e = .returned (.agg #[.int .i64 5, .int .i64 n, .string ⟨#[]⟩]) ∧ Below w.heap.size w w' := by
  go_enter Tryz.func74, Tryz.ntmps74
  go_wp2_with fail
  refine bodyPost_ret (v := .agg #[.int .i64 5, .int .i64 n, .string ⟨#[]⟩]) (by simp [results, Tryz.results74, go_sem]) rfl ⟨rfl, b_new _ _⟩

theorem length_any (v : Vl) (hs : v.s.size ≤ 40) (w : World) : Calls Tryz.prog 100 #[.agg #[.int .i64 v.k, .int .i64 v.n, .string v.s]] w fun e w' => e = .returned (.tuple #[.agg #[.int .i64 (lenR v).1.k, .int .i64 (lenR v).1.n, .string (lenR v).1.s], .int .i64 (lenR v).2]) ∧ Below w.heap.size w w' := by
  obtain ⟨k, n, s⟩ := v
  obtain ⟨R, hR⟩ : ∃ R, lenR ⟨k, n, s⟩ = R := ⟨_, rfl⟩
  rw [hR]
  by_cases h : k = 3
  · subst h
    obtain rfl : R = (⟨1, (s.size : Int), ⟨#[]⟩⟩, 0) := by rw [← hR]; rfl
    clear hR
    simp only at hs
    go_enter Tryz.func100, Tryz.ntmps100
    go_wp2_with fail
    refine bodyPost_ret (v := .tuple #[.agg #[.int .i64 1, .int .i64 (s.size : Int), .string ⟨#[]⟩], .int .i64 0]) (by simp [results, Tryz.results100, go_sem]) rfl ⟨rfl, b_more (b_new _ _) _⟩
  · obtain rfl : R = (zeroV, 9) := by rw [← hR]; unfold lenR; rw [if_neg h]
    have h3 : (k == 3) = false := beq_eq_false_iff_ne.2 h
    clear hR h hs
    go_enter Tryz.func100, Tryz.ntmps100
    go_wp2_with fail
    refine bodyPost_ret (v := .tuple #[.agg #[.int .i64 0, .int .i64 0, .string ⟨#[]⟩], .int .i64 9]) (by simp [results, Tryz.results100, go_sem]) rfl ⟨rfl, b_more (b_new _ _) _⟩

theorem joined_any (a b : Vl) (ha : a.s.size ≤ 40) (hb : b.s.size ≤ 40) (w : World) : Calls Tryz.prog 99 #[.agg #[.int .i64 a.k, .int .i64 a.n, .string a.s], .agg #[.int .i64 b.k, .int .i64 b.n, .string b.s]] w fun e w' => e = .returned (.tuple #[.agg #[.int .i64 (joinR a b).1.k, .int .i64 (joinR a b).1.n, .string (joinR a b).1.s], .int .i64 (joinR a b).2]) ∧ Below w.heap.size w w' := by
  obtain ⟨k, n, s⟩ := a
  obtain ⟨j, m, t⟩ := b
  simp only at ha hb
  obtain ⟨R, hR⟩ : ∃ R, joinR ⟨k, n, s⟩ ⟨j, m, t⟩ = R := ⟨_, rfl⟩
  rw [hR]
  have hz : ¬ (k = 3 ∧ j = 3) → R = (zeroV, 9) := fun h => by rw [← hR]; unfold joinR; rw [if_neg h]
  by_cases h : k = 3
  · subst h
    by_cases g : j = 3
    · subst g
      by_cases hl : 40 < s.size + t.size
      · obtain rfl : R = (zeroV, 1) := by rw [← hR]; unfold joinR; rw [if_pos ⟨rfl, rfl⟩, if_pos hl]
        clear hR hz
        go_enter Tryz.func99, Tryz.ntmps99
        go_wp2_with fail
        refine bodyPost_ret (v := .tuple #[.agg #[.int .i64 0, .int .i64 0, .string ⟨#[]⟩], .int .i64 1]) (by simp [results, Tryz.results99, go_sem]) rfl ⟨rfl, b_more (b_more (b_new _ _) _) _⟩
      · obtain rfl : R = (⟨3, 0, s ++ t⟩, 0) := by rw [← hR]; unfold joinR; rw [if_pos ⟨rfl, rfl⟩, if_neg hl]
        clear hR hz
        go_enter Tryz.func99, Tryz.ntmps99
        go_wp2_with fail
        refine bodyPost_ret (v := .tuple #[.agg #[.int .i64 3, .int .i64 0, .string (s ++ t)], .int .i64 0]) (by simp [results, Tryz.results99, go_sem]) rfl ⟨rfl, b_more (b_more (b_new _ _) _) _⟩
    · obtain rfl := hz (fun h => g h.2)
      have h3 : (j == 3) = false := beq_eq_false_iff_ne.2 g
      clear hR hz g ha hb
      go_enter Tryz.func99, Tryz.ntmps99
      go_wp2_with fail
      refine bodyPost_ret (v := .tuple #[.agg #[.int .i64 0, .int .i64 0, .string ⟨#[]⟩], .int .i64 9]) (by simp [results, Tryz.results99, go_sem]) rfl ⟨rfl, b_more (b_more (b_new _ _) _) _⟩
  · obtain rfl := hz (fun g => h g.1)
    have h3 : (k == 3) = false := beq_eq_false_iff_ne.2 h
    clear hR hz h ha hb
    go_enter Tryz.func99, Tryz.ntmps99
    go_wp2_with fail
    refine bodyPost_ret (v := .tuple #[.agg #[.int .i64 0, .int .i64 0, .string ⟨#[]⟩], .int .i64 9]) (by simp [results, Tryz.results99, go_sem]) rfl ⟨rfl, b_more (b_more (b_new _ _) _) _⟩

theorem truth_t (w : World) : Calls Tryz.prog 76 #[.bool true] w fun e w' => e = .returned (.agg #[.int .i64 2, .int .i64 1, .string ⟨#[]⟩]) ∧ Below w.heap.size w w' := truth_any true w
theorem truth_f (w : World) : Calls Tryz.prog 76 #[.bool false] w fun e w' => e = .returned (.agg #[.int .i64 2, .int .i64 0, .string ⟨#[]⟩]) ∧ Below w.heap.size w w' := truth_any false w
theorem b_step {wc w w' : World} (h : Below wc.heap.size wc w) (h' : Below w.heap.size w w') : Below wc.heap.size wc w' := h.trans (h'.mono h.size)

set_option maxHeartbeats 2000000 in
theorem negation_bool (b : Bool) (w : World) : Calls Tryz.prog 98 #[.agg #[.int .i64 2, .int .i64 (bitI b), .string ⟨#[]⟩]] w fun e w' => e = .returned (.tuple #[.agg #[.int .i64 2, .int .i64 (bitI !b), .string ⟨#[]⟩], .int .i64 0]) ∧ Below w.heap.size w w' := by
  cases b
  · show Calls _ _ #[.agg #[.int .i64 2, .int .i64 0, .string ⟨#[]⟩]] w fun e w' => e = .returned (.tuple #[.agg #[.int .i64 2, .int .i64 1, .string ⟨#[]⟩], .int .i64 0]) ∧ Below w.heap.size w w'
    have hbl : Below ((w.alloc (.cells #[.int .i64 2, .int .i64 0, .string ⟨#[]⟩] 23)).alloc (.cells #[.int .i64 0, .int .i64 0, .string ⟨#[]⟩] 23)).heap.size ((w.alloc (.cells #[.int .i64 2, .int .i64 0, .string ⟨#[]⟩] 23)).alloc (.cells #[.int .i64 0, .int .i64 0, .string ⟨#[]⟩] 23)) ((w.alloc (.cells #[.int .i64 2, .int .i64 0, .string ⟨#[]⟩] 23)).alloc (.cells #[.int .i64 0, .int .i64 0, .string ⟨#[]⟩] 23)) := Below.refl _ _
    go_enter Tryz.func98, Tryz.ntmps98
    go_wp2_with fail
    go_region_with (go_at_call 76; (first | (with_reducible refine (truth_t _).mono ?_) | (with_reducible refine (truth_f _).mono ?_)); rintro e w1 ⟨rfl, hb1⟩; have hbl := (by first | exact b_step hbl hb1 | exact b_step (b_drew hbl) hb1 | exact b_step hbl (b_undrew hb1) : Below ((w.alloc (.cells #[.int .i64 2, .int .i64 0, .string ⟨#[]⟩] 23)).alloc (.cells #[.int .i64 0, .int .i64 0, .string ⟨#[]⟩] 23)).heap.size ((w.alloc (.cells #[.int .i64 2, .int .i64 0, .string ⟨#[]⟩] 23)).alloc (.cells #[.int .i64 0, .int .i64 0, .string ⟨#[]⟩] 23)) w1); obtain ⟨c1, d1⟩ := bcell hbl; have z1 := zlt hbl)
    all_goals (go_wp2_with fail; refine bodyPost_ret (v := .tuple #[.agg #[.int .i64 2, .int .i64 1, .string ⟨#[]⟩], .int .i64 0]) (by simp [results, Tryz.results98, go_sem, c1]) rfl ⟨rfl, b_set3 (b_then (b_then hbl)) _ (by omega) _ _ _⟩)
  · show Calls _ _ #[.agg #[.int .i64 2, .int .i64 1, .string ⟨#[]⟩]] w fun e w' => e = .returned (.tuple #[.agg #[.int .i64 2, .int .i64 0, .string ⟨#[]⟩], .int .i64 0]) ∧ Below w.heap.size w w'
    have hbl : Below ((w.alloc (.cells #[.int .i64 2, .int .i64 1, .string ⟨#[]⟩] 23)).alloc (.cells #[.int .i64 0, .int .i64 0, .string ⟨#[]⟩] 23)).heap.size ((w.alloc (.cells #[.int .i64 2, .int .i64 1, .string ⟨#[]⟩] 23)).alloc (.cells #[.int .i64 0, .int .i64 0, .string ⟨#[]⟩] 23)) ((w.alloc (.cells #[.int .i64 2, .int .i64 1, .string ⟨#[]⟩] 23)).alloc (.cells #[.int .i64 0, .int .i64 0, .string ⟨#[]⟩] 23)) := Below.refl _ _
    go_enter Tryz.func98, Tryz.ntmps98
    go_wp2_with fail
    go_region_with (go_at_call 76; (first | (with_reducible refine (truth_t _).mono ?_) | (with_reducible refine (truth_f _).mono ?_)); rintro e w1 ⟨rfl, hb1⟩; have hbl := (by first | exact b_step hbl hb1 | exact b_step (b_drew hbl) hb1 | exact b_step hbl (b_undrew hb1) : Below ((w.alloc (.cells #[.int .i64 2, .int .i64 1, .string ⟨#[]⟩] 23)).alloc (.cells #[.int .i64 0, .int .i64 0, .string ⟨#[]⟩] 23)).heap.size ((w.alloc (.cells #[.int .i64 2, .int .i64 1, .string ⟨#[]⟩] 23)).alloc (.cells #[.int .i64 0, .int .i64 0, .string ⟨#[]⟩] 23)) w1); obtain ⟨c1, d1⟩ := bcell hbl; have z1 := zlt hbl)
    all_goals (go_wp2_with fail; refine bodyPost_ret (v := .tuple #[.agg #[.int .i64 2, .int .i64 0, .string ⟨#[]⟩], .int .i64 0]) (by simp [results, Tryz.results98, go_sem, c1]) rfl ⟨rfl, b_set3 (b_then (b_then hbl)) _ (by omega) _ _ _⟩)
theorem negation_any (v : Vl) (hv : v.ok) (w : World) : Calls Tryz.prog 98 #[.agg #[.int .i64 v.k, .int .i64 v.n, .string v.s]] w fun e w' => e = .returned (.tuple #[.agg #[.int .i64 (notR v).1.k, .int .i64 (notR v).1.n, .string (notR v).1.s], .int .i64 (notR v).2]) ∧ Below w.heap.size w w' := by
  obtain ⟨k, n, s⟩ := v
  by_cases h : k = 2
  · subst h
    rcases ok_cases hv with h | ⟨_, h, h2⟩ | h | h | h
    · exact absurd (show (2 : Int) = 1 from h.1) (by decide)
    · simp only at h h2
      subst h2
      rcases h with rfl | rfl
      · exact negation_bool false w
      · exact negation_bool true w
    · exact absurd (show (2 : Int) = 3 from h.1) (by decide)
    · exact absurd (show (2 : Int) = 4 from h.1) (by decide)
    · exact absurd (show (2 : Int) = 5 from h.1) (by decide)
  · obtain ⟨R, hR⟩ : ∃ R, notR ⟨k, n, s⟩ = R := ⟨_, rfl⟩
    rw [hR]
    obtain rfl : R = (zeroV, 9) := by rw [← hR]; unfold notR; rw [if_neg h]
    have h3 : (k == 2) = false := beq_eq_false_iff_ne.2 h
    clear hR h hv
    go_enter Tryz.func98, Tryz.ntmps98
    go_wp2_with fail
    refine bodyPost_ret (v := .tuple #[.agg #[.int .i64 0, .int .i64 0, .string ⟨#[]⟩], .int .i64 9]) (by simp [results, Tryz.results98, go_sem]) rfl ⟨rfl, b_more (b_new _ _) _⟩
theorem ar_8 (a b : Vl) (w : World) : Calls Tryz.prog 92 #[.func (.func 94) #[] #[], .agg #[.int .i64 a.k, .int .i64 a.n, .string a.s], .agg #[.int .i64 b.k, .int .i64 b.n, .string b.s]] w fun e w' => e = .returned (.tuple #[.agg #[.int .i64 (arR 8 a b).1.k, .int .i64 (arR 8 a b).1.n, .string (arR 8 a b).1.s], .int .i64 (arR 8 a b).2]) ∧ Below w.heap.size w w' := by
  obtain ⟨k, n, s⟩ := a
  obtain ⟨j, m, t⟩ := b
  obtain ⟨R, hR⟩ : ∃ R, arR 8 ⟨k, n, s⟩ ⟨j, m, t⟩ = R := ⟨_, rfl⟩
  rw [hR]
  have hz : ¬ (k = 1 ∧ j = 1) → R = (zeroV, 9) := fun h => by rw [← hR]; unfold arR; rw [if_neg h]
  by_cases h : k = 1
  · subst h
    by_cases g : j = 1
    · subst g
      have hr : R = if (arN 8 n m).2 = 0 then (⟨1, (arN 8 n m).1, ⟨#[]⟩⟩, 0) else (zeroV, (arN 8 n m).2) := by rw [← hR]; unfold arR; rw [if_pos ⟨rfl, rfl⟩]
      have hc : ∀ W, Calls Tryz.prog 94 #[.int .i64 n, .int .i64 m] W fun e w' => e = .returned (.tuple #[.int .i64 (arN 8 n m).1, .int .i64 (arN 8 n m).2]) ∧ Below W.heap.size W w' := fun W => Num.add_any n m W
      obtain ⟨q, hq⟩ : ∃ q, (arN 8 n m).1 = q := ⟨_, rfl⟩
      obtain ⟨z, hz2⟩ : ∃ z, (arN 8 n m).2 = z := ⟨_, rfl⟩
      rw [hq, hz2] at hc hr
      have HC := Lib.hid hc
      have HR := Lib.hid hr
      clear hc hr hR hz hq hz2
      go_enter Tryz.func92, Tryz.ntmps92
      go_wp2_with fail
      refine (HC.out _).mono ?_; rintro e w1 ⟨rfl, hb1⟩
      obtain ⟨c1, d1⟩ := bcell hb1
      have z1 := zlt hb1
      have hb2 := b_then (b_then (b_then hb1))
      have hr := HR.out
      by_cases h0 : z = 0
      · rw [if_pos h0] at hr
        subst hr
        subst h0
        go_wp2_with fail
        refine bodyPost_ret (v := .tuple #[.agg #[.int .i64 1, .int .i64 q, .string ⟨#[]⟩], .int .i64 0]) (by simp [results, Tryz.results92, go_sem, *]) rfl ⟨rfl, b_set3 hb2 _ (by omega) _ _ _⟩
      · rw [if_neg h0] at hr
        subst hr
        have t0 : (z == 0) = false := beq_eq_false_iff_ne.2 h0
        go_wp2_with fail
        refine bodyPost_ret (v := .tuple #[.agg #[.int .i64 0, .int .i64 0, .string ⟨#[]⟩], .int .i64 z]) (by simp [results, Tryz.results92, go_sem, *]) rfl ⟨rfl, b_set3 hb2 _ (by omega) _ _ _⟩
    · obtain rfl := hz (fun h => g h.2)
      have h3 : (j == 1) = false := beq_eq_false_iff_ne.2 g
      clear hR hz g
      go_enter Tryz.func92, Tryz.ntmps92
      go_wp2_with fail
      refine bodyPost_ret (v := .tuple #[.agg #[.int .i64 0, .int .i64 0, .string ⟨#[]⟩], .int .i64 9]) (by simp [results, Tryz.results92, go_sem]) rfl ⟨rfl, b_more (b_more (b_new _ _) _) _⟩
  · obtain rfl := hz (fun g => h g.1)
    have h3 : (k == 1) = false := beq_eq_false_iff_ne.2 h
    clear hR hz h
    go_enter Tryz.func92, Tryz.ntmps92
    go_wp2_with fail
    refine bodyPost_ret (v := .tuple #[.agg #[.int .i64 0, .int .i64 0, .string ⟨#[]⟩], .int .i64 9]) (by simp [results, Tryz.results92, go_sem]) rfl ⟨rfl, b_more (b_more (b_new _ _) _) _⟩
theorem ar_9 (a b : Vl) (w : World) : Calls Tryz.prog 92 #[.func (.func 93) #[] #[], .agg #[.int .i64 a.k, .int .i64 a.n, .string a.s], .agg #[.int .i64 b.k, .int .i64 b.n, .string b.s]] w fun e w' => e = .returned (.tuple #[.agg #[.int .i64 (arR 9 a b).1.k, .int .i64 (arR 9 a b).1.n, .string (arR 9 a b).1.s], .int .i64 (arR 9 a b).2]) ∧ Below w.heap.size w w' := by
  obtain ⟨k, n, s⟩ := a
  obtain ⟨j, m, t⟩ := b
  obtain ⟨R, hR⟩ : ∃ R, arR 9 ⟨k, n, s⟩ ⟨j, m, t⟩ = R := ⟨_, rfl⟩
  rw [hR]
  have hz : ¬ (k = 1 ∧ j = 1) → R = (zeroV, 9) := fun h => by rw [← hR]; unfold arR; rw [if_neg h]
  by_cases h : k = 1
  · subst h
    by_cases g : j = 1
    · subst g
      have hr : R = if (arN 9 n m).2 = 0 then (⟨1, (arN 9 n m).1, ⟨#[]⟩⟩, 0) else (zeroV, (arN 9 n m).2) := by rw [← hR]; unfold arR; rw [if_pos ⟨rfl, rfl⟩]
      have hc : ∀ W, Calls Tryz.prog 93 #[.int .i64 n, .int .i64 m] W fun e w' => e = .returned (.tuple #[.int .i64 (arN 9 n m).1, .int .i64 (arN 9 n m).2]) ∧ Below W.heap.size W w' := fun W => Num.sub_any n m W
      obtain ⟨q, hq⟩ : ∃ q, (arN 9 n m).1 = q := ⟨_, rfl⟩
      obtain ⟨z, hz2⟩ : ∃ z, (arN 9 n m).2 = z := ⟨_, rfl⟩
      rw [hq, hz2] at hc hr
      have HC := Lib.hid hc
      have HR := Lib.hid hr
      clear hc hr hR hz hq hz2
      go_enter Tryz.func92, Tryz.ntmps92
      go_wp2_with fail
      refine (HC.out _).mono ?_; rintro e w1 ⟨rfl, hb1⟩
      obtain ⟨c1, d1⟩ := bcell hb1
      have z1 := zlt hb1
      have hb2 := b_then (b_then (b_then hb1))
      have hr := HR.out
      by_cases h0 : z = 0
      · rw [if_pos h0] at hr
        subst hr
        subst h0
        go_wp2_with fail
        refine bodyPost_ret (v := .tuple #[.agg #[.int .i64 1, .int .i64 q, .string ⟨#[]⟩], .int .i64 0]) (by simp [results, Tryz.results92, go_sem, *]) rfl ⟨rfl, b_set3 hb2 _ (by omega) _ _ _⟩
      · rw [if_neg h0] at hr
        subst hr
        have t0 : (z == 0) = false := beq_eq_false_iff_ne.2 h0
        go_wp2_with fail
        refine bodyPost_ret (v := .tuple #[.agg #[.int .i64 0, .int .i64 0, .string ⟨#[]⟩], .int .i64 z]) (by simp [results, Tryz.results92, go_sem, *]) rfl ⟨rfl, b_set3 hb2 _ (by omega) _ _ _⟩
    · obtain rfl := hz (fun h => g h.2)
      have h3 : (j == 1) = false := beq_eq_false_iff_ne.2 g
      clear hR hz g
      go_enter Tryz.func92, Tryz.ntmps92
      go_wp2_with fail
      refine bodyPost_ret (v := .tuple #[.agg #[.int .i64 0, .int .i64 0, .string ⟨#[]⟩], .int .i64 9]) (by simp [results, Tryz.results92, go_sem]) rfl ⟨rfl, b_more (b_more (b_new _ _) _) _⟩
  · obtain rfl := hz (fun g => h g.1)
    have h3 : (k == 1) = false := beq_eq_false_iff_ne.2 h
    clear hR hz h
    go_enter Tryz.func92, Tryz.ntmps92
    go_wp2_with fail
    refine bodyPost_ret (v := .tuple #[.agg #[.int .i64 0, .int .i64 0, .string ⟨#[]⟩], .int .i64 9]) (by simp [results, Tryz.results92, go_sem]) rfl ⟨rfl, b_more (b_more (b_new _ _) _) _⟩
theorem ar_5 (a b : Vl) (w : World) : Calls Tryz.prog 92 #[.func (.func 95) #[] #[], .agg #[.int .i64 a.k, .int .i64 a.n, .string a.s], .agg #[.int .i64 b.k, .int .i64 b.n, .string b.s]] w fun e w' => e = .returned (.tuple #[.agg #[.int .i64 (arR 5 a b).1.k, .int .i64 (arR 5 a b).1.n, .string (arR 5 a b).1.s], .int .i64 (arR 5 a b).2]) ∧ Below w.heap.size w w' := by
  obtain ⟨k, n, s⟩ := a
  obtain ⟨j, m, t⟩ := b
  obtain ⟨R, hR⟩ : ∃ R, arR 5 ⟨k, n, s⟩ ⟨j, m, t⟩ = R := ⟨_, rfl⟩
  rw [hR]
  have hz : ¬ (k = 1 ∧ j = 1) → R = (zeroV, 9) := fun h => by rw [← hR]; unfold arR; rw [if_neg h]
  by_cases h : k = 1
  · subst h
    by_cases g : j = 1
    · subst g
      have hr : R = if (arN 5 n m).2 = 0 then (⟨1, (arN 5 n m).1, ⟨#[]⟩⟩, 0) else (zeroV, (arN 5 n m).2) := by rw [← hR]; unfold arR; rw [if_pos ⟨rfl, rfl⟩]
      have hc : ∀ W, Calls Tryz.prog 95 #[.int .i64 n, .int .i64 m] W fun e w' => e = .returned (.tuple #[.int .i64 (arN 5 n m).1, .int .i64 (arN 5 n m).2]) ∧ Below W.heap.size W w' := fun W => Num.mul_any n m W
      obtain ⟨q, hq⟩ : ∃ q, (arN 5 n m).1 = q := ⟨_, rfl⟩
      obtain ⟨z, hz2⟩ : ∃ z, (arN 5 n m).2 = z := ⟨_, rfl⟩
      rw [hq, hz2] at hc hr
      have HC := Lib.hid hc
      have HR := Lib.hid hr
      clear hc hr hR hz hq hz2
      go_enter Tryz.func92, Tryz.ntmps92
      go_wp2_with fail
      refine (HC.out _).mono ?_; rintro e w1 ⟨rfl, hb1⟩
      obtain ⟨c1, d1⟩ := bcell hb1
      have z1 := zlt hb1
      have hb2 := b_then (b_then (b_then hb1))
      have hr := HR.out
      by_cases h0 : z = 0
      · rw [if_pos h0] at hr
        subst hr
        subst h0
        go_wp2_with fail
        refine bodyPost_ret (v := .tuple #[.agg #[.int .i64 1, .int .i64 q, .string ⟨#[]⟩], .int .i64 0]) (by simp [results, Tryz.results92, go_sem, *]) rfl ⟨rfl, b_set3 hb2 _ (by omega) _ _ _⟩
      · rw [if_neg h0] at hr
        subst hr
        have t0 : (z == 0) = false := beq_eq_false_iff_ne.2 h0
        go_wp2_with fail
        refine bodyPost_ret (v := .tuple #[.agg #[.int .i64 0, .int .i64 0, .string ⟨#[]⟩], .int .i64 z]) (by simp [results, Tryz.results92, go_sem, *]) rfl ⟨rfl, b_set3 hb2 _ (by omega) _ _ _⟩
    · obtain rfl := hz (fun h => g h.2)
      have h3 : (j == 1) = false := beq_eq_false_iff_ne.2 g
      clear hR hz g
      go_enter Tryz.func92, Tryz.ntmps92
      go_wp2_with fail
      refine bodyPost_ret (v := .tuple #[.agg #[.int .i64 0, .int .i64 0, .string ⟨#[]⟩], .int .i64 9]) (by simp [results, Tryz.results92, go_sem]) rfl ⟨rfl, b_more (b_more (b_new _ _) _) _⟩
  · obtain rfl := hz (fun g => h g.1)
    have h3 : (k == 1) = false := beq_eq_false_iff_ne.2 h
    clear hR hz h
    go_enter Tryz.func92, Tryz.ntmps92
    go_wp2_with fail
    refine bodyPost_ret (v := .tuple #[.agg #[.int .i64 0, .int .i64 0, .string ⟨#[]⟩], .int .i64 9]) (by simp [results, Tryz.results92, go_sem]) rfl ⟨rfl, b_more (b_more (b_new _ _) _) _⟩
theorem ar_6 (a b : Vl) (w : World) : Calls Tryz.prog 92 #[.func (.func 96) #[] #[], .agg #[.int .i64 a.k, .int .i64 a.n, .string a.s], .agg #[.int .i64 b.k, .int .i64 b.n, .string b.s]] w fun e w' => e = .returned (.tuple #[.agg #[.int .i64 (arR 6 a b).1.k, .int .i64 (arR 6 a b).1.n, .string (arR 6 a b).1.s], .int .i64 (arR 6 a b).2]) ∧ Below w.heap.size w w' := by
  obtain ⟨k, n, s⟩ := a
  obtain ⟨j, m, t⟩ := b
  obtain ⟨R, hR⟩ : ∃ R, arR 6 ⟨k, n, s⟩ ⟨j, m, t⟩ = R := ⟨_, rfl⟩
  rw [hR]
  have hz : ¬ (k = 1 ∧ j = 1) → R = (zeroV, 9) := fun h => by rw [← hR]; unfold arR; rw [if_neg h]
  by_cases h : k = 1
  · subst h
    by_cases g : j = 1
    · subst g
      have hr : R = if (arN 6 n m).2 = 0 then (⟨1, (arN 6 n m).1, ⟨#[]⟩⟩, 0) else (zeroV, (arN 6 n m).2) := by rw [← hR]; unfold arR; rw [if_pos ⟨rfl, rfl⟩]
      have hc : ∀ W, Calls Tryz.prog 96 #[.int .i64 n, .int .i64 m] W fun e w' => e = .returned (.tuple #[.int .i64 (arN 6 n m).1, .int .i64 (arN 6 n m).2]) ∧ Below W.heap.size W w' := fun W => Num.div_any n m W
      obtain ⟨q, hq⟩ : ∃ q, (arN 6 n m).1 = q := ⟨_, rfl⟩
      obtain ⟨z, hz2⟩ : ∃ z, (arN 6 n m).2 = z := ⟨_, rfl⟩
      rw [hq, hz2] at hc hr
      have HC := Lib.hid hc
      have HR := Lib.hid hr
      clear hc hr hR hz hq hz2
      go_enter Tryz.func92, Tryz.ntmps92
      go_wp2_with fail
      refine (HC.out _).mono ?_; rintro e w1 ⟨rfl, hb1⟩
      obtain ⟨c1, d1⟩ := bcell hb1
      have z1 := zlt hb1
      have hb2 := b_then (b_then (b_then hb1))
      have hr := HR.out
      by_cases h0 : z = 0
      · rw [if_pos h0] at hr
        subst hr
        subst h0
        go_wp2_with fail
        refine bodyPost_ret (v := .tuple #[.agg #[.int .i64 1, .int .i64 q, .string ⟨#[]⟩], .int .i64 0]) (by simp [results, Tryz.results92, go_sem, *]) rfl ⟨rfl, b_set3 hb2 _ (by omega) _ _ _⟩
      · rw [if_neg h0] at hr
        subst hr
        have t0 : (z == 0) = false := beq_eq_false_iff_ne.2 h0
        go_wp2_with fail
        refine bodyPost_ret (v := .tuple #[.agg #[.int .i64 0, .int .i64 0, .string ⟨#[]⟩], .int .i64 z]) (by simp [results, Tryz.results92, go_sem, *]) rfl ⟨rfl, b_set3 hb2 _ (by omega) _ _ _⟩
    · obtain rfl := hz (fun h => g h.2)
      have h3 : (j == 1) = false := beq_eq_false_iff_ne.2 g
      clear hR hz g
      go_enter Tryz.func92, Tryz.ntmps92
      go_wp2_with fail
      refine bodyPost_ret (v := .tuple #[.agg #[.int .i64 0, .int .i64 0, .string ⟨#[]⟩], .int .i64 9]) (by simp [results, Tryz.results92, go_sem]) rfl ⟨rfl, b_more (b_more (b_new _ _) _) _⟩
  · obtain rfl := hz (fun g => h g.1)
    have h3 : (k == 1) = false := beq_eq_false_iff_ne.2 h
    clear hR hz h
    go_enter Tryz.func92, Tryz.ntmps92
    go_wp2_with fail
    refine bodyPost_ret (v := .tuple #[.agg #[.int .i64 0, .int .i64 0, .string ⟨#[]⟩], .int .i64 9]) (by simp [results, Tryz.results92, go_sem]) rfl ⟨rfl, b_more (b_more (b_new _ _) _) _⟩
theorem ar_7 (a b : Vl) (w : World) : Calls Tryz.prog 92 #[.func (.func 97) #[] #[], .agg #[.int .i64 a.k, .int .i64 a.n, .string a.s], .agg #[.int .i64 b.k, .int .i64 b.n, .string b.s]] w fun e w' => e = .returned (.tuple #[.agg #[.int .i64 (arR 7 a b).1.k, .int .i64 (arR 7 a b).1.n, .string (arR 7 a b).1.s], .int .i64 (arR 7 a b).2]) ∧ Below w.heap.size w w' := by
  obtain ⟨k, n, s⟩ := a
  obtain ⟨j, m, t⟩ := b
  obtain ⟨R, hR⟩ : ∃ R, arR 7 ⟨k, n, s⟩ ⟨j, m, t⟩ = R := ⟨_, rfl⟩
  rw [hR]
  have hz : ¬ (k = 1 ∧ j = 1) → R = (zeroV, 9) := fun h => by rw [← hR]; unfold arR; rw [if_neg h]
  by_cases h : k = 1
  · subst h
    by_cases g : j = 1
    · subst g
      have hr : R = if (arN 7 n m).2 = 0 then (⟨1, (arN 7 n m).1, ⟨#[]⟩⟩, 0) else (zeroV, (arN 7 n m).2) := by rw [← hR]; unfold arR; rw [if_pos ⟨rfl, rfl⟩]
      have hc : ∀ W, Calls Tryz.prog 97 #[.int .i64 n, .int .i64 m] W fun e w' => e = .returned (.tuple #[.int .i64 (arN 7 n m).1, .int .i64 (arN 7 n m).2]) ∧ Below W.heap.size W w' := fun W => Num.mod_any n m W
      obtain ⟨q, hq⟩ : ∃ q, (arN 7 n m).1 = q := ⟨_, rfl⟩
      obtain ⟨z, hz2⟩ : ∃ z, (arN 7 n m).2 = z := ⟨_, rfl⟩
      rw [hq, hz2] at hc hr
      have HC := Lib.hid hc
      have HR := Lib.hid hr
      clear hc hr hR hz hq hz2
      go_enter Tryz.func92, Tryz.ntmps92
      go_wp2_with fail
      refine (HC.out _).mono ?_; rintro e w1 ⟨rfl, hb1⟩
      obtain ⟨c1, d1⟩ := bcell hb1
      have z1 := zlt hb1
      have hb2 := b_then (b_then (b_then hb1))
      have hr := HR.out
      by_cases h0 : z = 0
      · rw [if_pos h0] at hr
        subst hr
        subst h0
        go_wp2_with fail
        refine bodyPost_ret (v := .tuple #[.agg #[.int .i64 1, .int .i64 q, .string ⟨#[]⟩], .int .i64 0]) (by simp [results, Tryz.results92, go_sem, *]) rfl ⟨rfl, b_set3 hb2 _ (by omega) _ _ _⟩
      · rw [if_neg h0] at hr
        subst hr
        have t0 : (z == 0) = false := beq_eq_false_iff_ne.2 h0
        go_wp2_with fail
        refine bodyPost_ret (v := .tuple #[.agg #[.int .i64 0, .int .i64 0, .string ⟨#[]⟩], .int .i64 z]) (by simp [results, Tryz.results92, go_sem, *]) rfl ⟨rfl, b_set3 hb2 _ (by omega) _ _ _⟩
    · obtain rfl := hz (fun h => g h.2)
      have h3 : (j == 1) = false := beq_eq_false_iff_ne.2 g
      clear hR hz g
      go_enter Tryz.func92, Tryz.ntmps92
      go_wp2_with fail
      refine bodyPost_ret (v := .tuple #[.agg #[.int .i64 0, .int .i64 0, .string ⟨#[]⟩], .int .i64 9]) (by simp [results, Tryz.results92, go_sem]) rfl ⟨rfl, b_more (b_more (b_new _ _) _) _⟩
  · obtain rfl := hz (fun g => h g.1)
    have h3 : (k == 1) = false := beq_eq_false_iff_ne.2 h
    clear hR hz h
    go_enter Tryz.func92, Tryz.ntmps92
    go_wp2_with fail
    refine bodyPost_ret (v := .tuple #[.agg #[.int .i64 0, .int .i64 0, .string ⟨#[]⟩], .int .i64 9]) (by simp [results, Tryz.results92, go_sem]) rfl ⟨rfl, b_more (b_more (b_new _ _) _) _⟩
theorem comparison_any (op : Int) (hop : 11 ≤ op ∧ op ≤ 14) (a b : Vl) (ha : knownB a.k a.n a.s.data.toList = true) (hb : knownB b.k b.n b.s.data.toList = true) (w : World) : Calls Tryz.prog 101 #[.int .i64 op, .agg #[.int .i64 a.k, .int .i64 a.n, .string a.s], .agg #[.int .i64 b.k, .int .i64 b.n, .string b.s]] w fun e w' => e = .returned (.tuple #[.agg #[.int .i64 (cmpR op a b).1.k, .int .i64 (cmpR op a b).1.n, .string (cmpR op a b).1.s], .int .i64 (cmpR op a b).2]) ∧ Below w.heap.size w w' := by
  obtain ⟨k, n, s⟩ := a
  obtain ⟨j, m, t⟩ := b
  simp only at ha hb
  obtain ⟨R, hR⟩ : ∃ R, cmpR op ⟨k, n, s⟩ ⟨j, m, t⟩ = R := ⟨_, rfl⟩
  rw [hR]
  by_cases g : k = j
  · subst g
    have hc := fun W => ValCmp.compare_good k n m s t W ha hb
    have ho : ValCmp.ordV k n m s.data.toList t.data.toList = ordVl ⟨k, n, s⟩ ⟨k, m, t⟩ := rfl
    rw [ho] at hc
    have hr : R = (tru (cmpB op (ordVl ⟨k, n, s⟩ ⟨k, m, t⟩)), 0) := by rw [← hR]; unfold cmpR; rw [if_pos rfl]
    obtain ⟨o, hoo⟩ : ∃ o, ordVl ⟨k, n, s⟩ ⟨k, m, t⟩ = o := ⟨_, rfl⟩
    rw [hoo] at hc hr
    have HC := Lib.hid hc
    clear hR hc ho hoo ha hb
    have hp : op = 11 ∨ op = 12 ∨ op = 13 ∨ op = 14 := by omega
    have close : ∀ (q : Bool), cmpB op o = q → R = (⟨2, bitI q, ⟨#[]⟩⟩, 0) := fun q hq => by rw [hr, hq]; rfl
    have HX := Lib.hid close
    clear hr close hop
    have he := HX.out _ rfl
    subst he
    clear HX
    rcases hp with rfl | rfl | rfl | rfl
    · go_enter Tryz.func101, Tryz.ntmps101
      go_wp2_with fail
      refine (HC.out _).mono ?_; rintro e w1 ⟨rfl, hb1⟩
      obtain ⟨c1, d1⟩ := bcell hb1
      have z1 := zlt hb1
      go_wp2_with (go_at_call 76; refine (truth_any _ _).mono ?_; rintro e w2 ⟨rfl, hb3⟩; have hb4 := b_trans hb1 hb3; clear c1 d1 z1; obtain ⟨c1, d1⟩ := bcell hb4; have z1 := zlt hb4)
      refine bodyPost_ret (v := .tuple #[.agg #[.int .i64 2, .int .i64 (bitI (cmpB 11 o)), .string ⟨#[]⟩], .int .i64 0]) (by simp [results, Tryz.results101, go_sem, c1, cmpB]) rfl ⟨rfl, b_set3 (b_then (b_then (b_then hb4))) _ (by omega) _ _ _⟩
    · go_enter Tryz.func101, Tryz.ntmps101
      go_wp2_with fail
      refine (HC.out _).mono ?_; rintro e w1 ⟨rfl, hb1⟩
      obtain ⟨c1, d1⟩ := bcell hb1
      have z1 := zlt hb1
      go_wp2_with (go_at_call 76; refine (truth_any _ _).mono ?_; rintro e w2 ⟨rfl, hb3⟩; have hb4 := b_trans hb1 hb3; clear c1 d1 z1; obtain ⟨c1, d1⟩ := bcell hb4; have z1 := zlt hb4)
      refine bodyPost_ret (v := .tuple #[.agg #[.int .i64 2, .int .i64 (bitI (cmpB 12 o)), .string ⟨#[]⟩], .int .i64 0]) (by simp [results, Tryz.results101, go_sem, c1, cmpB]) rfl ⟨rfl, b_set3 (b_then (b_then (b_then hb4))) _ (by omega) _ _ _⟩
    · go_enter Tryz.func101, Tryz.ntmps101
      go_wp2_with fail
      refine (HC.out _).mono ?_; rintro e w1 ⟨rfl, hb1⟩
      obtain ⟨c1, d1⟩ := bcell hb1
      have z1 := zlt hb1
      go_wp2_with (go_at_call 76; refine (truth_any _ _).mono ?_; rintro e w2 ⟨rfl, hb3⟩; have hb4 := b_trans hb1 hb3; clear c1 d1 z1; obtain ⟨c1, d1⟩ := bcell hb4; have z1 := zlt hb4)
      refine bodyPost_ret (v := .tuple #[.agg #[.int .i64 2, .int .i64 (bitI (cmpB 13 o)), .string ⟨#[]⟩], .int .i64 0]) (by simp [results, Tryz.results101, go_sem, c1, cmpB]) rfl ⟨rfl, b_set3 (b_then (b_then (b_then hb4))) _ (by omega) _ _ _⟩
    · go_enter Tryz.func101, Tryz.ntmps101
      go_wp2_with fail
      refine (HC.out _).mono ?_; rintro e w1 ⟨rfl, hb1⟩
      obtain ⟨c1, d1⟩ := bcell hb1
      have z1 := zlt hb1
      go_wp2_with (go_at_call 76; refine (truth_any _ _).mono ?_; rintro e w2 ⟨rfl, hb3⟩; have hb4 := b_trans hb1 hb3; clear c1 d1 z1; obtain ⟨c1, d1⟩ := bcell hb4; have z1 := zlt hb4)
      refine bodyPost_ret (v := .tuple #[.agg #[.int .i64 2, .int .i64 (bitI (cmpB 14 o)), .string ⟨#[]⟩], .int .i64 0]) (by simp [results, Tryz.results101, go_sem, c1, cmpB]) rfl ⟨rfl, b_set3 (b_then (b_then (b_then hb4))) _ (by omega) _ _ _⟩
  · have hc := fun W => ValCmp.compare_bad k n j m s t W (fun h => g h.2.2)
    obtain rfl : R = (zeroV, 9) := by rw [← hR]; unfold cmpR; rw [if_neg g]
    have HC := Lib.hid hc
    clear hc hR g ha hb hop
    go_enter Tryz.func101, Tryz.ntmps101
    go_wp2_with fail
    refine (HC.out _).mono ?_; rintro e w1 ⟨rfl, hb1⟩
    obtain ⟨c1, d1⟩ := bcell hb1
    have z1 := zlt hb1
    have hb2 := b_then (b_then (b_then hb1))
    go_wp2_with fail
    refine bodyPost_ret (v := .tuple #[.agg #[.int .i64 0, .int .i64 0, .string ⟨#[]⟩], .int .i64 9]) (by simp [results, Tryz.results101, go_sem, c1]) rfl ⟨rfl, b_set3 hb2 _ (by omega) _ _ _⟩
end Go.Proofs.YtehkebncdahmcaaGreatDoor.Ev
