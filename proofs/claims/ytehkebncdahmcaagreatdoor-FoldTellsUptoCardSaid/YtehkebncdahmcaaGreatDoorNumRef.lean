/- Contracts of the reference's NumFault and NumOf (chapter 1), for all arguments, by the operation. -/
import Derived.Test.YtehkebncdahmcaaGreatDoorMul64
import Derived.Test.YtehkebncdahmcaaGreatDoorNumFault
import Derived.Test.YtehkebncdahmcaaGreatDoorNumMath
import Derived.ProofKit
import Derived.Lib.Hide
namespace Go.Proofs.YtehkebncdahmcaaGreatDoor.NumRef
open Go.RowKit
open NumM
set_option linter.unusedVariables false

/-! ### Sums and differences -/
theorem outa (op a b : Int) (w : World) (h : a < -1099511627776 ∨ 1099511627776 < a) :
    Calls Tryz.prog 70 #[.int .i64 op, .int .i64 a, .int .i64 b] w fun e w' => e = .returned (.tuple #[.int .i64 0, .int .i64 7]) ∧ w = w' := by
  go_enter Tryz.func70, Tryz.ntmps70
  go_wp2_with (go_at_call 87; refine (fault_out a _ h).mono ?_; rintro e w' ⟨rfl, rfl⟩)
  go_ret2
  exact ⟨rfl, rfl⟩

theorem outb (op a b : Int) (w : World) (h1 : -1099511627776 ≤ a) (h2 : a ≤ 1099511627776) (h : b < -1099511627776 ∨ 1099511627776 < b) :
    Calls Tryz.prog 70 #[.int .i64 op, .int .i64 a, .int .i64 b] w fun e w' => e = .returned (.tuple #[.int .i64 0, .int .i64 7]) ∧ w = w' := by
  have hb : (b == 0) = false := beq_eq_false_iff_ne.2 (by omega)
  go_enter Tryz.func70, Tryz.ntmps70
  go_wp2_with fail
  refine (fault_in a _ h1 h2).mono ?_; rintro e w' ⟨rfl, rfl⟩
  go_wp2_with fail
  refine (fault_out b _ h).mono ?_; rintro e w' ⟨rfl, rfl⟩
  go_wp2_with fail
  go_ret2
  exact ⟨rfl, rfl⟩

theorem add_in (a b : Int) (w : World) (h1 : -1099511627776 ≤ a) (h2 : a ≤ 1099511627776) (h3 : -1099511627776 ≤ b) (h4 : b ≤ 1099511627776)
   (h5 : -1099511627776 ≤ a + b) (h6 : a + b ≤ 1099511627776) :
    Calls Tryz.prog 70 #[.int .i64 8, .int .i64 a, .int .i64 b] w fun e w' => e = .returned (.tuple #[.int .i64 (a + b), .int .i64 0]) ∧ w = w' := by
  by_cases hb : b = 0
  all_goals
    go_enter Tryz.func70, Tryz.ntmps70
    go_wp2
    go_ret2
    exact ⟨ret_pair (by omega) rfl, rfl⟩
theorem add_over (a b : Int) (w : World) (h1 : -1099511627776 ≤ a) (h2 : a ≤ 1099511627776) (h3 : -1099511627776 ≤ b) (h4 : b ≤ 1099511627776)
   (h : a + b < -1099511627776 ∨ 1099511627776 < a + b) :
    Calls Tryz.prog 70 #[.int .i64 8, .int .i64 a, .int .i64 b] w fun e w' => e = .returned (.tuple #[.int .i64 0, .int .i64 7]) ∧ w = w' := by
  have hb : (b == 0) = false := beq_eq_false_iff_ne.2 (by omega)
  rcases h with h | h
  all_goals
    go_enter Tryz.func70, Tryz.ntmps70
    go_wp2
    go_ret2
    exact ⟨rfl, rfl⟩
theorem add_any (a b : Int) (w : World) :
    Calls Tryz.prog 70 #[.int .i64 8, .int .i64 a, .int .i64 b] w fun e w' => e = .returned (.tuple #[.int .i64 (binV a b (a + b)), .int .i64 (binE a b (a + b))]) ∧ w = w' := by
  by_cases ha : okN a = true
  · by_cases hb : okN b = true
    · by_cases hc : okN (a + b) = true
      · rw [(bin_in ha hb hc).1, (bin_in ha hb hc).2]
        exact add_in a b w (okN_iff.1 ha).1 (okN_iff.1 ha).2 (okN_iff.1 hb).1 (okN_iff.1 hb).2 (okN_iff.1 hc).1 (okN_iff.1 hc).2
      · rw [(bin_out (fun h => hc h.2.2)).1, (bin_out (fun h => hc h.2.2)).2]
        exact add_over a b w (okN_iff.1 ha).1 (okN_iff.1 ha).2 (okN_iff.1 hb).1 (okN_iff.1 hb).2 (okN_not.1 hc)
    · rw [(bin_out (fun h => hb h.2.1)).1, (bin_out (fun h => hb h.2.1)).2]
      exact outb 8 a b w (okN_iff.1 ha).1 (okN_iff.1 ha).2 (okN_not.1 hb)
  · rw [(bin_out (fun h => ha h.1)).1, (bin_out (fun h => ha h.1)).2]
    exact outa 8 a b w (okN_not.1 ha)

theorem sub_in (a b : Int) (w : World) (h1 : -1099511627776 ≤ a) (h2 : a ≤ 1099511627776) (h3 : -1099511627776 ≤ b) (h4 : b ≤ 1099511627776)
   (h5 : -1099511627776 ≤ a - b) (h6 : a - b ≤ 1099511627776) :
    Calls Tryz.prog 70 #[.int .i64 9, .int .i64 a, .int .i64 b] w fun e w' => e = .returned (.tuple #[.int .i64 (a - b), .int .i64 0]) ∧ w = w' := by
  by_cases hb : b = 0
  all_goals
    go_enter Tryz.func70, Tryz.ntmps70
    go_wp2
    go_ret2
    exact ⟨ret_pair (by omega) rfl, rfl⟩
theorem sub_over (a b : Int) (w : World) (h1 : -1099511627776 ≤ a) (h2 : a ≤ 1099511627776) (h3 : -1099511627776 ≤ b) (h4 : b ≤ 1099511627776)
   (h : a - b < -1099511627776 ∨ 1099511627776 < a - b) :
    Calls Tryz.prog 70 #[.int .i64 9, .int .i64 a, .int .i64 b] w fun e w' => e = .returned (.tuple #[.int .i64 0, .int .i64 7]) ∧ w = w' := by
  have hb : (b == 0) = false := beq_eq_false_iff_ne.2 (by omega)
  rcases h with h | h
  all_goals
    go_enter Tryz.func70, Tryz.ntmps70
    go_wp2
    go_ret2
    exact ⟨rfl, rfl⟩
theorem sub_any (a b : Int) (w : World) :
    Calls Tryz.prog 70 #[.int .i64 9, .int .i64 a, .int .i64 b] w fun e w' => e = .returned (.tuple #[.int .i64 (binV a b (a - b)), .int .i64 (binE a b (a - b))]) ∧ w = w' := by
  by_cases ha : okN a = true
  · by_cases hb : okN b = true
    · by_cases hc : okN (a - b) = true
      · rw [(bin_in ha hb hc).1, (bin_in ha hb hc).2]
        exact sub_in a b w (okN_iff.1 ha).1 (okN_iff.1 ha).2 (okN_iff.1 hb).1 (okN_iff.1 hb).2 (okN_iff.1 hc).1 (okN_iff.1 hc).2
      · rw [(bin_out (fun h => hc h.2.2)).1, (bin_out (fun h => hc h.2.2)).2]
        exact sub_over a b w (okN_iff.1 ha).1 (okN_iff.1 ha).2 (okN_iff.1 hb).1 (okN_iff.1 hb).2 (okN_not.1 hc)
    · rw [(bin_out (fun h => hb h.2.1)).1, (bin_out (fun h => hb h.2.1)).2]
      exact outb 9 a b w (okN_iff.1 ha).1 (okN_iff.1 ha).2 (okN_not.1 hb)
  · rw [(bin_out (fun h => ha h.1)).1, (bin_out (fun h => ha h.1)).2]
    exact outa 9 a b w (okN_not.1 ha)

/-! ### Products -/
theorem size_any (n : Int) (w : World) (h1 : -1099511627776 ≤ n) (h2 : n ≤ 1099511627776) :
    Calls Tryz.prog 88 #[.int .i64 n] w fun e w' => e = .returned (.tuple #[.int .u64 (n.natAbs : Int), .bool (decide (n < 0))]) ∧ w = w' := by
  by_cases h : n < 0
  · have e1 : ((n.natAbs : Nat) : Int) = -n := by omega
    rw [e1, decide_eq_true h]
    clear e1
    go_enter Tryz.func88, Tryz.ntmps88
    go_wp2
    go_ret2
    exact ⟨rfl, rfl⟩
  · have e1 : ((n.natAbs : Nat) : Int) = n := by omega
    rw [e1, decide_eq_false h]
    clear e1
    go_enter Tryz.func88, Tryz.ntmps88
    go_wp2
    go_ret2
    exact ⟨rfl, rfl⟩

theorem mul_in0 (a : Int) (w : World) (h1 : -1099511627776 ≤ a) (h2 : a ≤ 1099511627776) :
    Calls Tryz.prog 70 #[.int .i64 5, .int .i64 a, .int .i64 0] w fun e w' => e = .returned (.tuple #[.int .i64 0, .int .i64 0]) ∧ w = w' := by
  have hm : ∀ wx : World, Calls Tryz.prog 89 #[.int .u64 (a.natAbs : Int), .int .u64 0] wx fun e w' => e = .returned (.tuple #[.int .u64 0, .int .u64 0]) ∧ wx = w' := fun wx =>
    Mul64.small a.natAbs 0 wx (by omega) (by omega) (by omega)
  have HM := Lib.hid hm
  clear hm
  have hs : ∀ wx : World, Calls Tryz.prog 88 #[.int .i64 0] wx fun e w' => e = .returned (.tuple #[.int .u64 0, .bool false]) ∧ wx = w' := fun wx => size_any 0 wx (by omega) (by omega)
  have HS := Lib.hid hs
  clear hs
  by_cases g : a < 0
  · have e1 : decide (a < 0) = true := decide_eq_true g
    go_enter Tryz.func70, Tryz.ntmps70
    go_wp2_with fail
    refine (fault_in a _ h1 h2).mono ?_; rintro e w' ⟨rfl, rfl⟩
    go_wp2_with fail
    refine (fault_in 0 _ (by omega) (by omega)).mono ?_; rintro e w' ⟨rfl, rfl⟩
    go_wp2_with fail
    refine (size_any a _ h1 h2).mono ?_; rintro e w' ⟨rfl, rfl⟩
    go_wp2_with fail
    refine (HS.out _).mono ?_; rintro e w' ⟨rfl, rfl⟩
    go_wp2_with fail
    refine (HM.out _).mono ?_; rintro e w' ⟨rfl, rfl⟩
    go_wp2
    go_ret2
    exact ⟨rfl, rfl⟩
  · have e1 : decide (a < 0) = false := decide_eq_false g
    go_enter Tryz.func70, Tryz.ntmps70
    go_wp2_with fail
    refine (fault_in a _ h1 h2).mono ?_; rintro e w' ⟨rfl, rfl⟩
    go_wp2_with fail
    refine (fault_in 0 _ (by omega) (by omega)).mono ?_; rintro e w' ⟨rfl, rfl⟩
    go_wp2_with fail
    refine (size_any a _ h1 h2).mono ?_; rintro e w' ⟨rfl, rfl⟩
    go_wp2_with fail
    refine (HS.out _).mono ?_; rintro e w' ⟨rfl, rfl⟩
    go_wp2_with fail
    refine (HM.out _).mono ?_; rintro e w' ⟨rfl, rfl⟩
    go_wp2
    go_ret2
    exact ⟨rfl, rfl⟩

theorem mul_in1 (a b : Int) (w : World) (h1 : -1099511627776 ≤ a) (h2 : a ≤ 1099511627776) (h3 : -1099511627776 ≤ b) (h4 : b ≤ 1099511627776)
   (h5 : -1099511627776 ≤ a * b) (h6 : a * b ≤ 1099511627776) (h0 : (b == 0) = false) :
    Calls Tryz.prog 70 #[.int .i64 5, .int .i64 a, .int .i64 b] w fun e w' => e = .returned (.tuple #[.int .i64 (a * b), .int .i64 0]) ∧ w = w' := by
  obtain ⟨p, hp⟩ : ∃ p : Int, p = ((a * b).natAbs : Int) := ⟨_, rfl⟩
  have hp0 : 0 ≤ p := by omega
  have hp1 : p ≤ 1099511627776 := by omega
  have hm : ∀ wx : World, Calls Tryz.prog 89 #[.int .u64 (a.natAbs : Int), .int .u64 (b.natAbs : Int)] wx fun e w' => e = .returned (.tuple #[.int .u64 0, .int .u64 p]) ∧ wx = w' := fun wx => by
    have := Mul64.small a.natAbs b.natAbs wx (by omega) (by omega) (by rw [← Int.natAbs_mul]; omega)
    rw [hp, Int.natAbs_mul]; exact this
  have HM := Lib.hid hm
  have HP := Lib.hid hp
  clear hm hp
  have hneg : (a < 0 ∧ 0 ≤ b ∧ a * b ≤ 0) ∨ (0 ≤ a ∧ b < 0 ∧ a * b ≤ 0) ∨ (a < 0 ∧ b < 0 ∧ 0 ≤ a * b) ∨ (0 ≤ a ∧ 0 ≤ b ∧ 0 ≤ a * b) := mul_signs a b
  rcases hneg with ⟨g, k, j⟩ | ⟨g, k, j⟩ | ⟨g, k, j⟩ | ⟨g, k, j⟩
  · have e1 : decide (a < 0) = true := decide_eq_true g
    have e2 : decide (b < 0) = false := decide_eq_false (by omega)
    go_enter Tryz.func70, Tryz.ntmps70
    go_wp2_with fail
    refine (fault_in a _ h1 h2).mono ?_; rintro e w' ⟨rfl, rfl⟩
    go_wp2_with fail
    refine (fault_in b _ h3 h4).mono ?_; rintro e w' ⟨rfl, rfl⟩
    go_wp2_with fail
    refine (size_any a _ h1 h2).mono ?_; rintro e w' ⟨rfl, rfl⟩
    go_wp2_with fail
    refine (size_any b _ h3 h4).mono ?_; rintro e w' ⟨rfl, rfl⟩
    go_wp2_with fail
    refine (HM.out _).mono ?_; rintro e w' ⟨rfl, rfl⟩
    go_wp2_with (go_at_call 87; refine (fault_in _ _ (by omega) (by omega)).mono ?_; rintro e w' ⟨rfl, rfl⟩)
    go_ret2
    exact ⟨ret_pair (by have := HP.out; omega) rfl, rfl⟩
  · have e1 : decide (a < 0) = false := decide_eq_false (by omega)
    have e2 : decide (b < 0) = true := decide_eq_true k
    go_enter Tryz.func70, Tryz.ntmps70
    go_wp2_with fail
    refine (fault_in a _ h1 h2).mono ?_; rintro e w' ⟨rfl, rfl⟩
    go_wp2_with fail
    refine (fault_in b _ h3 h4).mono ?_; rintro e w' ⟨rfl, rfl⟩
    go_wp2_with fail
    refine (size_any a _ h1 h2).mono ?_; rintro e w' ⟨rfl, rfl⟩
    go_wp2_with fail
    refine (size_any b _ h3 h4).mono ?_; rintro e w' ⟨rfl, rfl⟩
    go_wp2_with fail
    refine (HM.out _).mono ?_; rintro e w' ⟨rfl, rfl⟩
    go_wp2_with (go_at_call 87; refine (fault_in _ _ (by omega) (by omega)).mono ?_; rintro e w' ⟨rfl, rfl⟩)
    go_ret2
    exact ⟨ret_pair (by have := HP.out; omega) rfl, rfl⟩
  · have e1 : decide (a < 0) = true := decide_eq_true g
    have e2 : decide (b < 0) = true := decide_eq_true k
    go_enter Tryz.func70, Tryz.ntmps70
    go_wp2_with fail
    refine (fault_in a _ h1 h2).mono ?_; rintro e w' ⟨rfl, rfl⟩
    go_wp2_with fail
    refine (fault_in b _ h3 h4).mono ?_; rintro e w' ⟨rfl, rfl⟩
    go_wp2_with fail
    refine (size_any a _ h1 h2).mono ?_; rintro e w' ⟨rfl, rfl⟩
    go_wp2_with fail
    refine (size_any b _ h3 h4).mono ?_; rintro e w' ⟨rfl, rfl⟩
    go_wp2_with fail
    refine (HM.out _).mono ?_; rintro e w' ⟨rfl, rfl⟩
    go_wp2_with (go_at_call 87; refine (fault_in _ _ (by omega) (by omega)).mono ?_; rintro e w' ⟨rfl, rfl⟩)
    go_ret2
    exact ⟨ret_pair (by have := HP.out; omega) rfl, rfl⟩
  · have e1 : decide (a < 0) = false := decide_eq_false (by omega)
    have e2 : decide (b < 0) = false := decide_eq_false (by omega)
    go_enter Tryz.func70, Tryz.ntmps70
    go_wp2_with fail
    refine (fault_in a _ h1 h2).mono ?_; rintro e w' ⟨rfl, rfl⟩
    go_wp2_with fail
    refine (fault_in b _ h3 h4).mono ?_; rintro e w' ⟨rfl, rfl⟩
    go_wp2_with fail
    refine (size_any a _ h1 h2).mono ?_; rintro e w' ⟨rfl, rfl⟩
    go_wp2_with fail
    refine (size_any b _ h3 h4).mono ?_; rintro e w' ⟨rfl, rfl⟩
    go_wp2_with fail
    refine (HM.out _).mono ?_; rintro e w' ⟨rfl, rfl⟩
    go_wp2_with (go_at_call 87; refine (fault_in _ _ (by omega) (by omega)).mono ?_; rintro e w' ⟨rfl, rfl⟩)
    go_ret2
    exact ⟨ret_pair (by have := HP.out; omega) rfl, rfl⟩

theorem mul_in (a b : Int) (w : World) (h1 : -1099511627776 ≤ a) (h2 : a ≤ 1099511627776) (h3 : -1099511627776 ≤ b) (h4 : b ≤ 1099511627776)
   (h5 : -1099511627776 ≤ a * b) (h6 : a * b ≤ 1099511627776) :
    Calls Tryz.prog 70 #[.int .i64 5, .int .i64 a, .int .i64 b] w fun e w' => e = .returned (.tuple #[.int .i64 (a * b), .int .i64 0]) ∧ w = w' := by
  by_cases h : b = 0
  · subst h; rw [Int.mul_zero]; exact mul_in0 a w h1 h2
  · exact mul_in1 a b w h1 h2 h3 h4 h5 h6 (beq_eq_false_iff_ne.2 h)

theorem mul_over (a b : Int) (w : World) (h1 : -1099511627776 ≤ a) (h2 : a ≤ 1099511627776) (h3 : -1099511627776 ≤ b) (h4 : b ≤ 1099511627776)
   (h : a * b < -1099511627776 ∨ 1099511627776 < a * b) :
    Calls Tryz.prog 70 #[.int .i64 5, .int .i64 a, .int .i64 b] w fun e w' => e = .returned (.tuple #[.int .i64 0, .int .i64 7]) ∧ w = w' := by
  have h0 : (b == 0) = false := beq_eq_false_iff_ne.2 (by rintro rfl; simp at h)
  obtain ⟨x, y, hx, hm⟩ : ∃ x y : Int, (0 < x ∨ (x = 0 ∧ 1099511627776 < y)) ∧ ∀ wx : World, Calls Tryz.prog 89 #[.int .u64 (a.natAbs : Int), .int .u64 (b.natAbs : Int)] wx fun e w' => e = .returned (.tuple #[.int .u64 x, .int .u64 y]) ∧ wx = w' := by
    refine ⟨_, _, ?_, fun wx => Mul64.big a.natAbs b.natAbs wx (by omega) (by omega)⟩
    rw [← Int.natAbs_mul]
    omega
  have HM := Lib.hid hm
  clear hm h
  rcases hx with hx | ⟨rfl, hx⟩
  · go_enter Tryz.func70, Tryz.ntmps70
    go_wp2_with fail
    refine (fault_in a _ h1 h2).mono ?_; rintro e w' ⟨rfl, rfl⟩
    go_wp2_with fail
    refine (fault_in b _ h3 h4).mono ?_; rintro e w' ⟨rfl, rfl⟩
    go_wp2_with fail
    refine (size_any a _ h1 h2).mono ?_; rintro e w' ⟨rfl, rfl⟩
    go_wp2_with fail
    refine (size_any b _ h3 h4).mono ?_; rintro e w' ⟨rfl, rfl⟩
    go_wp2_with fail
    refine (HM.out _).mono ?_; rintro e w' ⟨rfl, rfl⟩
    go_wp2_with fail
    go_ret2
    exact ⟨rfl, rfl⟩
  · go_enter Tryz.func70, Tryz.ntmps70
    go_wp2_with fail
    refine (fault_in a _ h1 h2).mono ?_; rintro e w' ⟨rfl, rfl⟩
    go_wp2_with fail
    refine (fault_in b _ h3 h4).mono ?_; rintro e w' ⟨rfl, rfl⟩
    go_wp2_with fail
    refine (size_any a _ h1 h2).mono ?_; rintro e w' ⟨rfl, rfl⟩
    go_wp2_with fail
    refine (size_any b _ h3 h4).mono ?_; rintro e w' ⟨rfl, rfl⟩
    go_wp2_with fail
    refine (HM.out _).mono ?_; rintro e w' ⟨rfl, rfl⟩
    go_wp2_with fail
    go_ret2
    exact ⟨rfl, rfl⟩

theorem mul_any (a b : Int) (w : World) :
    Calls Tryz.prog 70 #[.int .i64 5, .int .i64 a, .int .i64 b] w fun e w' => e = .returned (.tuple #[.int .i64 (binV a b (a * b)), .int .i64 (binE a b (a * b))]) ∧ w = w' := by
  by_cases ha : okN a = true
  · by_cases hb : okN b = true
    · by_cases hc : okN (a * b) = true
      · rw [(bin_in ha hb hc).1, (bin_in ha hb hc).2]
        exact mul_in a b w (okN_iff.1 ha).1 (okN_iff.1 ha).2 (okN_iff.1 hb).1 (okN_iff.1 hb).2 (okN_iff.1 hc).1 (okN_iff.1 hc).2
      · rw [(bin_out (fun h => hc h.2.2)).1, (bin_out (fun h => hc h.2.2)).2]
        exact mul_over a b w (okN_iff.1 ha).1 (okN_iff.1 ha).2 (okN_iff.1 hb).1 (okN_iff.1 hb).2 (okN_not.1 hc)
    · rw [(bin_out (fun h => hb h.2.1)).1, (bin_out (fun h => hb h.2.1)).2]
      exact outb 5 a b w (okN_iff.1 ha).1 (okN_iff.1 ha).2 (okN_not.1 hb)
  · rw [(bin_out (fun h => ha h.1)).1, (bin_out (fun h => ha h.1)).2]
    exact outa 5 a b w (okN_not.1 ha)

/-! ### Quotients and rests -/
theorem zero (op a : Int) (w : World) (hop : op = 6 ∨ op = 7) (h1 : -1099511627776 ≤ a) (h2 : a ≤ 1099511627776) :
    Calls Tryz.prog 70 #[.int .i64 op, .int .i64 a, .int .i64 0] w fun e w' => e = .returned (.tuple #[.int .i64 0, .int .i64 8]) ∧ w = w' := by
  rcases hop with rfl | rfl
  all_goals
    go_enter Tryz.func70, Tryz.ntmps70
    go_wp2_with (go_at_call 87; refine (fault_in _ _ (by omega) (by omega)).mono ?_; rintro e w' ⟨rfl, rfl⟩)
    go_ret2
    exact ⟨rfl, rfl⟩

theorem div_in (a b : Int) (w : World) (h1 : -1099511627776 ≤ a) (h2 : a ≤ 1099511627776) (h3 : -1099511627776 ≤ b) (h4 : b ≤ 1099511627776) (hb : b ≠ 0) :
    Calls Tryz.prog 70 #[.int .i64 6, .int .i64 a, .int .i64 b] w fun e w' => e = .returned (.tuple #[.int .i64 (a.fdiv b), .int .i64 0]) ∧ w = w' := by
  have h0 : (b == 0) = false := beq_eq_false_iff_ne.2 hb
  obtain ⟨k1, k2⟩ := fdiv_bd a b 1099511627776 hb h1 h2
  have hst : a.tdiv b = a.fdiv b ∨ a.tdiv b = a.fdiv b + 1 := tdiv_fdiv a b hb
  have hstep := step_facts a b hb h1 h2 h3 h4
  obtain ⟨f, hf⟩ : ∃ f : Int, f = a.fdiv b := ⟨_, rfl⟩
  rw [← hf] at hst k1 k2 hstep ⊢
  clear hf
  have HST := Lib.hid hst
  have HSTEP := Lib.hid hstep
  clear hst hstep
  obtain ⟨j1, j2⟩ := tdiv_bd a b 1099511627776 h1 h2
  obtain ⟨t, ht⟩ : ∃ t : Int, t = a.tdiv b := ⟨_, rfl⟩
  have HT := Lib.hid ht
  clear ht
  go_enter Tryz.func70, Tryz.ntmps70
  go_wp2_with fail
  refine (fault_in a _ h1 h2).mono ?_; rintro e w' ⟨rfl, rfl⟩
  go_wp2_with fail
  refine (fault_in b _ h3 h4).mono ?_; rintro e w' ⟨rfl, rfl⟩
  go_wp2_with fail
  rw [← HT.out]
  go_loop [8] (fun v => ∃ q : Int, v = .int .i64 q ∧ (q = f ∨ q = f + 1)) (fun v => (intOf v - f).toNat)
  case atStart => exact ⟨t, rfl, by rw [HT.out]; exact HST.out⟩
  case round =>
    obtain ⟨q, rfl, hq⟩ := hrel
    obtain ⟨g1, g2, g3, g4⟩ := HSTEP.out q hq
    rcases Int.lt_or_gt_of_ne hb with k | k
    · have e1 : decide (b < 0) = true := decide_eq_true k
      have e2 : decide (0 < b) = false := decide_eq_false (by omega)
      by_cases hqf : q = f
      · subst hqf
        have g5 := (g3 rfl).2 k
        clear g3 g4 hq
        by_cases g6 : a < q * b
        all_goals
          go_wp2_with (go_at_call 87; refine (fault_in _ _ (by omega) (by omega)).mono ?_; rintro e w' ⟨rfl, rfl⟩)
          go_ret2
          exact ⟨rfl, rfl⟩
      · have g5 := (g4 hqf).2 k
        have g6 : ¬ a < q * b := by omega
        clear g3 g4
        go_wp2_with fail
        go_round
        case rel => exact ⟨q - 1, rfl, by omega⟩
        case measure => simp [intOf]; omega
    · have e1 : decide (b < 0) = false := decide_eq_false (by omega)
      have e2 : decide (0 < b) = true := decide_eq_true k
      by_cases hqf : q = f
      · subst hqf
        have g5 := (g3 rfl).1 k
        clear g3 g4 hq
        by_cases g6 : q * b < a
        all_goals
          go_wp2_with (go_at_call 87; refine (fault_in _ _ (by omega) (by omega)).mono ?_; rintro e w' ⟨rfl, rfl⟩)
          go_ret2
          exact ⟨rfl, rfl⟩
      · have g5 := (g4 hqf).1 k
        clear g3 g4
        go_wp2_with fail
        go_round
        case rel => exact ⟨q - 1, rfl, by omega⟩
        case measure => simp [intOf]; omega

theorem mod_in (a b : Int) (w : World) (h1 : -1099511627776 ≤ a) (h2 : a ≤ 1099511627776) (h3 : -1099511627776 ≤ b) (h4 : b ≤ 1099511627776) (hb : b ≠ 0) :
    Calls Tryz.prog 70 #[.int .i64 7, .int .i64 a, .int .i64 b] w fun e w' => e = .returned (.tuple #[.int .i64 (a.fmod b), .int .i64 0]) ∧ w = w' := by
  have h0 : (b == 0) = false := beq_eq_false_iff_ne.2 hb
  have g : a.fmod b = a - a.fdiv b * b ∧ -1099511627776 ≤ a - a.fdiv b * b ∧ a - a.fdiv b * b ≤ 1099511627776 := by
    rcases Int.lt_or_gt_of_ne hb with k | k
    · obtain ⟨g1, g2, g3⟩ := fdiv_neg a b k; omega
    · obtain ⟨g1, g2, g3⟩ := fdiv_pos a b k; omega
  obtain ⟨g1, g2, g3⟩ := g
  rw [g1]
  clear g1
  go_enter Tryz.func70, Tryz.ntmps70
  go_wp2_with fail
  refine (fault_in a _ h1 h2).mono ?_; rintro e w' ⟨rfl, rfl⟩
  go_wp2_with fail
  refine (fault_in b _ h3 h4).mono ?_; rintro e w' ⟨rfl, rfl⟩
  go_wp2_with fail
  refine (div_in a b _ h1 h2 h3 h4 hb).mono ?_; rintro e w' ⟨rfl, rfl⟩
  go_wp2_with (go_at_call 87; refine (fault_in _ _ (by omega) (by omega)).mono ?_; rintro e w' ⟨rfl, rfl⟩)
  go_ret2
  exact ⟨rfl, rfl⟩

theorem div_any (a b : Int) (w : World) :
    Calls Tryz.prog 70 #[.int .i64 6, .int .i64 a, .int .i64 b] w fun e w' => e = .returned (.tuple #[.int .i64 (quoV a b (a.fdiv b)), .int .i64 (quoE a b (a.fdiv b))]) ∧ w = w' := by
  by_cases ha : okN a = true
  · have a1 := (okN_iff.1 ha).1
    have a2 := (okN_iff.1 ha).2
    by_cases h0 : b = 0
    · subst h0
      rw [show quoV a 0 (a.fdiv 0) = 0 from if_pos rfl, show quoE a 0 (a.fdiv 0) = 8 from by rw [quoE, if_pos ha, if_pos rfl]]
      exact zero 6 a w (by omega) a1 a2
    · rw [show quoV a b (a.fdiv b) = binV a b (a.fdiv b) from if_neg h0, show quoE a b (a.fdiv b) = binE a b (a.fdiv b) from by rw [quoE, if_pos ha, if_neg h0]]
      by_cases hb : okN b = true
      · have hc := okN_iff.2 (fdiv_bd a b 1099511627776 h0 a1 a2)
        rw [(bin_in ha hb hc).1, (bin_in ha hb hc).2]
        exact div_in a b w a1 a2 (okN_iff.1 hb).1 (okN_iff.1 hb).2 h0
      · rw [(bin_out (fun h => hb h.2.1)).1, (bin_out (fun h => hb h.2.1)).2]
        exact outb 6 a b w a1 a2 (okN_not.1 hb)
  · rw [show quoV a b (a.fdiv b) = 0 from by rw [quoV, (bin_out (fun h => ha h.1)).1, ite_self], show quoE a b (a.fdiv b) = 7 from by rw [quoE, if_neg ha]]
    exact outa 6 a b w (okN_not.1 ha)

theorem mod_any (a b : Int) (w : World) :
    Calls Tryz.prog 70 #[.int .i64 7, .int .i64 a, .int .i64 b] w fun e w' => e = .returned (.tuple #[.int .i64 (quoV a b (a.fmod b)), .int .i64 (quoE a b (a.fmod b))]) ∧ w = w' := by
  by_cases ha : okN a = true
  · have a1 := (okN_iff.1 ha).1
    have a2 := (okN_iff.1 ha).2
    by_cases h0 : b = 0
    · subst h0
      rw [show quoV a 0 (a.fmod 0) = 0 from if_pos rfl, show quoE a 0 (a.fmod 0) = 8 from by rw [quoE, if_pos ha, if_pos rfl]]
      exact zero 7 a w (by omega) a1 a2
    · rw [show quoV a b (a.fmod b) = binV a b (a.fmod b) from if_neg h0, show quoE a b (a.fmod b) = binE a b (a.fmod b) from by rw [quoE, if_pos ha, if_neg h0]]
      by_cases hb : okN b = true
      · have hc := okN_iff.2 (fmod_bd a b 1099511627776 h0 (okN_iff.1 hb).1 (okN_iff.1 hb).2)
        rw [(bin_in ha hb hc).1, (bin_in ha hb hc).2]
        exact mod_in a b w a1 a2 (okN_iff.1 hb).1 (okN_iff.1 hb).2 h0
      · rw [(bin_out (fun h => hb h.2.1)).1, (bin_out (fun h => hb h.2.1)).2]
        exact outb 7 a b w a1 a2 (okN_not.1 hb)
  · rw [show quoV a b (a.fmod b) = 0 from by rw [quoV, (bin_out (fun h => ha h.1)).1, ite_self], show quoE a b (a.fmod b) = 7 from by rw [quoE, if_neg ha]]
    exact outa 7 a b w (okN_not.1 ha)

end Go.Proofs.YtehkebncdahmcaaGreatDoor.NumRef
