/- Contracts of package num (chapter 1): Div and Mod, for all arguments. -/
import Derived.Test.YtehkebncdahmcaaGreatDoorNum
import Derived.Deep.QuietTactic
import Derived.BigQuiet
import Derived.WalkSmall
namespace Go.Proofs.YtehkebncdahmcaaGreatDoor.Num
open Go.RowKit
open NumM
set_option linter.unusedVariables false

/-! ### quotient -/
theorem quo_even (a b : Int) (w : World) (h1 : -1099511627776 ≤ a) (h2 : a ≤ 1099511627776) (h3 : -1099511627776 ≤ b) (h4 : b ≤ 1099511627776) (hb : b ≠ 0)
    (h : a.tmod b = 0) :
    Calls Tryz.prog 124 #[.int .i64 a, .int .i64 b] w fun e w' => e = .returned (.int .i64 (a.fdiv b)) ∧ w = w' := by
  have g := tdiv_bd a b 1099511627776 h1 h2
  obtain ⟨g1, g2⟩ := g
  rw [fdiv_same a b hb (Or.inl h)]
  go_enter Tryz.func124, Tryz.ntmps124
  go_wp2
  go_ret
  exact ⟨rfl, rfl⟩

theorem quo_same (a b : Int) (w : World) (h1 : -1099511627776 ≤ a) (h2 : a ≤ 1099511627776) (h3 : -1099511627776 ≤ b) (h4 : b ≤ 1099511627776) (hb : b ≠ 0)
    (h : a.tmod b ≠ 0) (hs : (0 ≤ a ∧ 0 < b) ∨ (a < 0 ∧ b < 0)) :
    Calls Tryz.prog 124 #[.int .i64 a, .int .i64 b] w fun e w' => e = .returned (.int .i64 (a.fdiv b)) ∧ w = w' := by
  rw [fdiv_same a b hb (by omega)]
  have g := tdiv_bd a b 1099511627776 h1 h2
  obtain ⟨g1, g2⟩ := g
  rcases hs with ⟨k1, k2⟩ | ⟨k1, k2⟩
  · have e1 : decide (a < 0) = false := by simpa using k1
    have e2 : decide (b < 0) = false := by simp; omega
    rw [Int.tmod_eq_emod_of_nonneg k1] at h
    go_enter Tryz.func124, Tryz.ntmps124
    go_wp2
    go_ret
    exact ⟨rfl, rfl⟩
  · have e1 : decide (a < 0) = true := by simpa using k1
    have e2 : decide (b < 0) = true := by simpa using k2
    go_enter Tryz.func124, Tryz.ntmps124
    go_wp2
    go_ret
    exact ⟨rfl, rfl⟩

theorem quo_part (a b : Int) (w : World) (h1 : -1099511627776 ≤ a) (h2 : a ≤ 1099511627776) (h3 : -1099511627776 ≤ b) (h4 : b ≤ 1099511627776) (hb : b ≠ 0)
    (h : a.tmod b ≠ 0) (hs : (a < 0 ∧ 0 < b) ∨ (0 ≤ a ∧ b < 0)) :
    Calls Tryz.prog 124 #[.int .i64 a, .int .i64 b] w fun e w' => e = .returned (.int .i64 (a.fdiv b)) ∧ w = w' := by
  rw [fdiv_less a b hb h hs]
  have g := tdiv_bd a b 1099511627776 h1 h2
  obtain ⟨g1, g2⟩ := g
  rcases hs with ⟨k1, k2⟩ | ⟨k1, k2⟩
  · have e1 : decide (a < 0) = true := by simpa using k1
    have e2 : decide (b < 0) = false := by simp; omega
    go_enter Tryz.func124, Tryz.ntmps124
    go_wp2
    go_ret
    exact ⟨rfl, rfl⟩
  · have e1 : decide (a < 0) = false := by simpa using k1
    have e2 : decide (b < 0) = true := by simpa using k2
    rw [Int.tmod_eq_emod_of_nonneg k1] at h
    go_enter Tryz.func124, Tryz.ntmps124
    go_wp2
    go_ret
    exact ⟨rfl, rfl⟩

/-- The floored quotient of numbers in range. -/
theorem quo_any (a b : Int) (w : World) (h1 : -1099511627776 ≤ a) (h2 : a ≤ 1099511627776) (h3 : -1099511627776 ≤ b) (h4 : b ≤ 1099511627776) (hb : b ≠ 0) :
    Calls Tryz.prog 124 #[.int .i64 a, .int .i64 b] w fun e w' => e = .returned (.int .i64 (a.fdiv b)) ∧ w = w' := by
  by_cases h : a.tmod b = 0
  · exact quo_even a b w h1 h2 h3 h4 hb h
  · by_cases hs : (0 ≤ a ∧ 0 < b) ∨ (a < 0 ∧ b < 0)
    · exact quo_same a b w h1 h2 h3 h4 hb h hs
    · exact quo_part a b w h1 h2 h3 h4 hb h (by omega)

/-! ### Div -/
theorem div_in (a b : Int) (w : World) (h1 : -1099511627776 ≤ a) (h2 : a ≤ 1099511627776) (h3 : -1099511627776 ≤ b) (h4 : b ≤ 1099511627776) (hb : b ≠ 0) :
    Calls Tryz.prog 96 #[.int .i64 a, .int .i64 b] w fun e w' => e = .returned (.tuple #[.int .i64 (a.fdiv b), .int .i64 0]) ∧ Below w.heap.size w w' := by
  have hm := hmf
  obtain ⟨g1, g2⟩ := fdiv_bd a b 1099511627776 hb h1 h2
  go_enter Tryz.func96, Tryz.ntmps96
  go_wp2_with (first | (go_at_call 124; refine (quo_any a b _ h1 h2 h3 h4 hb).mono ?_; rintro e w' ⟨rfl, rfl⟩) | go_in)
  go_ret2
  exact ⟨rfl, ((Below.refl _ _).alloc (by simp) _).alloc (by simp) _⟩

theorem div_outa (a b : Int) (w : World) (h : a < -1099511627776 ∨ 1099511627776 < a) :
    Calls Tryz.prog 96 #[.int .i64 a, .int .i64 b] w fun e w' => e = .returned (.tuple #[.int .i64 0, .int .i64 7]) ∧ Below w.heap.size w w' := by
  have hm := hmf
  rcases h with h | h
  all_goals
    go_enter Tryz.func96, Tryz.ntmps96
    go_wp2
    go_ret2
    exact ⟨rfl, ((Below.refl _ _).alloc (by simp) _).alloc (by simp) _⟩

theorem div_zero (a : Int) (w : World) (h1 : -1099511627776 ≤ a) (h2 : a ≤ 1099511627776) :
    Calls Tryz.prog 96 #[.int .i64 a, .int .i64 0] w fun e w' => e = .returned (.tuple #[.int .i64 0, .int .i64 8]) ∧ Below w.heap.size w w' := by
  have hm := hmf
  go_enter Tryz.func96, Tryz.ntmps96
  go_wp2
  go_ret2
  exact ⟨rfl, ((Below.refl _ _).alloc (by simp) _).alloc (by simp) _⟩

theorem div_outb (a b : Int) (w : World) (h1 : -1099511627776 ≤ a) (h2 : a ≤ 1099511627776) (h : b < -1099511627776 ∨ 1099511627776 < b) :
    Calls Tryz.prog 96 #[.int .i64 a, .int .i64 b] w fun e w' => e = .returned (.tuple #[.int .i64 0, .int .i64 7]) ∧ Below w.heap.size w w' := by
  have hm := hmf
  rcases h with h | h
  all_goals
    go_enter Tryz.func96, Tryz.ntmps96
    go_wp2
    go_ret2
    exact ⟨rfl, ((Below.refl _ _).alloc (by simp) _).alloc (by simp) _⟩

theorem div_any (a b : Int) (w : World) :
    Calls Tryz.prog 96 #[.int .i64 a, .int .i64 b] w fun e w' => e = .returned (.tuple #[.int .i64 (quoV a b (a.fdiv b)), .int .i64 (quoE a b (a.fdiv b))]) ∧ Below w.heap.size w w' := by
  by_cases ha : okN a = true
  · have a1 := (okN_iff.1 ha).1
    have a2 := (okN_iff.1 ha).2
    by_cases h0 : b = 0
    · subst h0
      rw [show quoV a 0 (a.fdiv 0) = 0 from if_pos rfl, show quoE a 0 (a.fdiv 0) = 8 from by rw [quoE, if_pos ha, if_pos rfl]]
      exact div_zero a w a1 a2
    · rw [show quoV a b (a.fdiv b) = binV a b (a.fdiv b) from if_neg h0, show quoE a b (a.fdiv b) = binE a b (a.fdiv b) from by rw [quoE, if_pos ha, if_neg h0]]
      by_cases hb : okN b = true
      · have hc := okN_iff.2 (fdiv_bd a b 1099511627776 h0 a1 a2)
        rw [(bin_in ha hb hc).1, (bin_in ha hb hc).2]
        exact div_in a b w a1 a2 (okN_iff.1 hb).1 (okN_iff.1 hb).2 h0
      · rw [(bin_out (fun h => hb h.2.1)).1, (bin_out (fun h => hb h.2.1)).2]
        exact div_outb a b w a1 a2 (okN_not.1 hb)
  · rw [show quoV a b (a.fdiv b) = 0 from by rw [quoV, (bin_out (fun h => ha h.1)).1, ite_self], show quoE a b (a.fdiv b) = 7 from by rw [quoE, if_neg ha]]
    exact div_outa a b w (okN_not.1 ha)

/-! ### Mod -/
theorem mod_in (a b : Int) (w : World) (h1 : -1099511627776 ≤ a) (h2 : a ≤ 1099511627776) (h3 : -1099511627776 ≤ b) (h4 : b ≤ 1099511627776) (hb : b ≠ 0) :
    Calls Tryz.prog 97 #[.int .i64 a, .int .i64 b] w fun e w' => e = .returned (.tuple #[.int .i64 (a.fmod b), .int .i64 0]) ∧ Below w.heap.size w w' := by
  have hm := hmf
  have g : a.fmod b = a - b * a.fdiv b ∧ -1099511627776 ≤ a - b * a.fdiv b ∧ a - b * a.fdiv b ≤ 1099511627776 := by
    rw [Int.mul_comm b]
    rcases Int.lt_or_gt_of_ne hb with k | k
    · obtain ⟨g1, g2, g3⟩ := fdiv_neg a b k; omega
    · obtain ⟨g1, g2, g3⟩ := fdiv_pos a b k; omega
  obtain ⟨g1, g2, g3⟩ := g
  rw [g1]
  clear g1
  go_enter Tryz.func97, Tryz.ntmps97
  go_wp2_with (first | (go_at_call 124; refine (quo_any a b _ h1 h2 h3 h4 hb).mono ?_; rintro e w' ⟨rfl, rfl⟩) | go_in)
  go_quiet ((go_at_call 124; exact Calls.quiet_of_same ((quo_any a b _ h1 h2 h3 h4 hb).mono fun e w' h => ⟨h.1, h.2.symm⟩)))
  go_wp2_with (first | go_in)
  go_ret2
  exact ⟨rfl, below_drewN (((Below.refl _ _).alloc (by simp) _).alloc (by simp) _) _⟩
theorem mod_outa (a b : Int) (w : World) (h : a < -1099511627776 ∨ 1099511627776 < a) :
    Calls Tryz.prog 97 #[.int .i64 a, .int .i64 b] w fun e w' => e = .returned (.tuple #[.int .i64 0, .int .i64 7]) ∧ Below w.heap.size w w' := by
  have hm := hmf
  rcases h with h | h
  all_goals
    go_enter Tryz.func97, Tryz.ntmps97
    go_wp2
    go_ret2
    exact ⟨rfl, ((Below.refl _ _).alloc (by simp) _).alloc (by simp) _⟩
theorem mod_zero (a : Int) (w : World) (h1 : -1099511627776 ≤ a) (h2 : a ≤ 1099511627776) :
    Calls Tryz.prog 97 #[.int .i64 a, .int .i64 0] w fun e w' => e = .returned (.tuple #[.int .i64 0, .int .i64 8]) ∧ Below w.heap.size w w' := by
  have hm := hmf
  go_enter Tryz.func97, Tryz.ntmps97
  go_wp2
  go_ret2
  exact ⟨rfl, ((Below.refl _ _).alloc (by simp) _).alloc (by simp) _⟩
theorem mod_outb (a b : Int) (w : World) (h1 : -1099511627776 ≤ a) (h2 : a ≤ 1099511627776) (h : b < -1099511627776 ∨ 1099511627776 < b) :
    Calls Tryz.prog 97 #[.int .i64 a, .int .i64 b] w fun e w' => e = .returned (.tuple #[.int .i64 0, .int .i64 7]) ∧ Below w.heap.size w w' := by
  have hm := hmf
  rcases h with h | h
  all_goals
    go_enter Tryz.func97, Tryz.ntmps97
    go_wp2
    go_ret2
    exact ⟨rfl, ((Below.refl _ _).alloc (by simp) _).alloc (by simp) _⟩

theorem mod_any (a b : Int) (w : World) :
    Calls Tryz.prog 97 #[.int .i64 a, .int .i64 b] w fun e w' => e = .returned (.tuple #[.int .i64 (quoV a b (a.fmod b)), .int .i64 (quoE a b (a.fmod b))]) ∧ Below w.heap.size w w' := by
  by_cases ha : okN a = true
  · have a1 := (okN_iff.1 ha).1
    have a2 := (okN_iff.1 ha).2
    by_cases h0 : b = 0
    · subst h0
      rw [show quoV a 0 (a.fmod 0) = 0 from if_pos rfl, show quoE a 0 (a.fmod 0) = 8 from by rw [quoE, if_pos ha, if_pos rfl]]
      exact mod_zero a w a1 a2
    · rw [show quoV a b (a.fmod b) = binV a b (a.fmod b) from if_neg h0, show quoE a b (a.fmod b) = binE a b (a.fmod b) from by rw [quoE, if_pos ha, if_neg h0]]
      by_cases hb : okN b = true
      · have hc := okN_iff.2 (fmod_bd a b 1099511627776 h0 (okN_iff.1 hb).1 (okN_iff.1 hb).2)
        rw [(bin_in ha hb hc).1, (bin_in ha hb hc).2]
        exact mod_in a b w a1 a2 (okN_iff.1 hb).1 (okN_iff.1 hb).2 h0
      · rw [(bin_out (fun h => hb h.2.1)).1, (bin_out (fun h => hb h.2.1)).2]
        exact mod_outb a b w a1 a2 (okN_not.1 hb)
  · rw [show quoV a b (a.fmod b) = 0 from by rw [quoV, (bin_out (fun h => ha h.1)).1, ite_self], show quoE a b (a.fmod b) = 7 from by rw [quoE, if_neg ha]]
    exact mod_outa a b w (okN_not.1 ha)
end Go.Proofs.YtehkebncdahmcaaGreatDoor.Num
