/- Contracts of package num (chapter 1): what each of its Go functions returns, for all arguments. -/
import Derived.Test.YtehkebncdahmcaaGreatDoorChecked
import Derived.Test.YtehkebncdahmcaaGreatDoorNumMath
import Derived.WalkKit
import Derived.ProofKit
import Derived.Lib.Hide
namespace Go.Proofs.YtehkebncdahmcaaGreatDoor.Num
open Go.RowKit
open NumM
set_option linter.unusedVariables false

theorem ret_int {k : IntKind} {a b : Int} (h : a = b) : Ending.returned (.int k a) = .returned (.int k b) := by rw [h]
theorem ret_pair {k : IntKind} {a b c d : Int} (h : a = b) (g : c = d) : Ending.returned (.tuple #[.int k a, .int k c]) = .returned (.tuple #[.int k b, .int k d]) := by rw [h, g]

/-- What a second call leaves alone, the two leave alone. -/
theorem _root_.Go.Proofs.YtehkebncdahmcaaGreatDoor.below_trans {w w1 w2 : World} (h1 : Below w.heap.size w w1) (h2 : Below w1.heap.size w1 w2) : Below w.heap.size w w2 := h1.trans (h2.mono h1.size)

theorem hmf : ∀ (fn : Fn) (first cap : Array Value) (w : World), (Instr.makeFunc fn first cap).run Tryz.prog w = .ok (.func fn first cap) w := fun _ _ _ _ => rfl

theorem check_in (n : Int) (w : World) (h1 : -1099511627776 ≤ n) (h2 : n ≤ 1099511627776) :
    Calls Tryz.prog 90 #[.int .i64 n] w fun e w' => e = .returned (.int .i64 0) ∧ w = w' := by
  go_enter Tryz.func90, Tryz.ntmps90
  go_wp2
  go_ret
  exact ⟨rfl, rfl⟩

theorem check_out (n : Int) (w : World) (h : n < -1099511627776 ∨ 1099511627776 < n) :
    Calls Tryz.prog 90 #[.int .i64 n] w fun e w' => e = .returned (.int .i64 7) ∧ w = w' := by
  rcases h with h | h
  · go_enter Tryz.func90, Tryz.ntmps90
    go_wp2
    go_ret
    exact ⟨rfl, rfl⟩
  · have h' : ¬ n < -1099511627776 := by omega
    go_enter Tryz.func90, Tryz.ntmps90
    go_wp2
    go_ret
    exact ⟨rfl, rfl⟩

/-- Check, for all numbers. -/
theorem check_any (n : Int) (w : World) :
    Calls Tryz.prog 90 #[.int .i64 n] w fun e w' => e = .returned (.int .i64 (if okN n then 0 else 7)) ∧ w = w' := by
  by_cases h : okN n = true
  · rw [if_pos h]; exact check_in n w (okN_iff.1 h).1 (okN_iff.1 h).2
  · rw [if_neg h]; exact check_out n w (okN_not.1 h)

theorem mag_any (n : Int) (w : World) (h1 : -1099511627776 ≤ n) (h2 : n ≤ 1099511627776) :
    Calls Tryz.prog 134 #[.int .i64 n] w fun e w' => e = .returned (.int .i64 (n.natAbs : Int)) ∧ w = w' := by
  by_cases h : n < 0
  · go_enter Tryz.func134, Tryz.ntmps134
    go_wp2
    go_ret
    exact ⟨ret_int (by omega), rfl⟩
  · go_enter Tryz.func134, Tryz.ntmps134
    go_wp2
    go_ret
    exact ⟨ret_int (by omega), rfl⟩

theorem product_zero (b : Int) (w : World) (h1 : -1099511627776 ≤ b) (h2 : b ≤ 1099511627776) :
    Calls Tryz.prog 121 #[.int .i64 0, .int .i64 b] w fun e w' => e = .returned (.int .i64 0) ∧ w = w' := by
  go_enter Tryz.func121, Tryz.ntmps121
  go_wp2_with fail
  go_ret
  exact ⟨by simp, rfl⟩

theorem product_in (a b : Int) (w : World) (h0 : a ≠ 0) (h1 : -1099511627776 ≤ a) (h2 : a ≤ 1099511627776) (h3 : -1099511627776 ≤ b) (h4 : b ≤ 1099511627776)
    (h5 : -1099511627776 ≤ a * b) (h6 : a * b ≤ 1099511627776) :
    Calls Tryz.prog 121 #[.int .i64 a, .int .i64 b] w fun e w' => e = .returned (.int .i64 (a * b)) ∧ w = w' := by
  have hx : ¬ (1099511627776 : Int) / (a.natAbs : Int) < (b.natAbs : Int) := by
    rw [Int.ediv_lt_iff_lt_mul (by omega)]
    have := mul_sizes a b
    have e : ((b.natAbs : Int) * (a.natAbs : Int)) = ((a * b).natAbs : Int) := by rw [this]; simp
    omega
  have hp : (1 : Int) ≤ (a.natAbs : Int) := by omega
  go_enter Tryz.func121, Tryz.ntmps121
  go_wp2_with fail
  refine (mag_any b _ h3 h4).mono ?_
  rintro e w' ⟨rfl, rfl⟩
  go_wp2_with fail
  refine (mag_any a _ h1 h2).mono ?_
  rintro e w' ⟨rfl, rfl⟩
  go_wp2_with fail
  go_ret
  exact ⟨rfl, rfl⟩

theorem product_out (a b : Int) (w : World) (h0 : a ≠ 0) (h1 : -1099511627776 ≤ a) (h2 : a ≤ 1099511627776) (h3 : -1099511627776 ≤ b) (h4 : b ≤ 1099511627776)
    (h5 : a * b < -1099511627776 ∨ 1099511627776 < a * b) :
    Calls Tryz.prog 121 #[.int .i64 a, .int .i64 b] w fun e w' => e = .returned (.int .i64 1099511627777) ∧ w = w' := by
  have hx : (1099511627776 : Int) / (a.natAbs : Int) < (b.natAbs : Int) := by
    rw [Int.ediv_lt_iff_lt_mul (by omega)]
    have := mul_sizes a b
    have e : ((b.natAbs : Int) * (a.natAbs : Int)) = ((a * b).natAbs : Int) := by rw [this]; simp
    omega
  have hp : (1 : Int) ≤ (a.natAbs : Int) := by omega
  clear h5
  go_enter Tryz.func121, Tryz.ntmps121
  go_wp2_with fail
  refine (mag_any b _ h3 h4).mono ?_
  rintro e w' ⟨rfl, rfl⟩
  go_wp2_with fail
  refine (mag_any a _ h1 h2).mono ?_
  rintro e w' ⟨rfl, rfl⟩
  go_wp2_with fail
  go_ret
  exact ⟨rfl, rfl⟩

/-! ### Add -/
theorem add_in (a b : Int) (w : World) (h1 : -1099511627776 ≤ a) (h2 : a ≤ 1099511627776) (h3 : -1099511627776 ≤ b) (h4 : b ≤ 1099511627776)
   (h5 : -1099511627776 ≤ a + b) (h6 : a + b ≤ 1099511627776) :
    Calls Tryz.prog 94 #[.int .i64 a, .int .i64 b] w fun e w' => e = .returned (.tuple #[.int .i64 (a + b), .int .i64 0]) ∧ Below w.heap.size w w' := by
  have hm := hmf
  go_enter Tryz.func94, Tryz.ntmps94
  go_wp2
  go_ret2
  exact ⟨rfl, ((Below.refl _ _).alloc (by simp) _).alloc (by simp) _⟩
theorem add_outa (a b : Int) (w : World) (h : a < -1099511627776 ∨ 1099511627776 < a) :
    Calls Tryz.prog 94 #[.int .i64 a, .int .i64 b] w fun e w' => e = .returned (.tuple #[.int .i64 0, .int .i64 7]) ∧ Below w.heap.size w w' := by
  have hm := hmf
  rcases h with h | h
  all_goals
    go_enter Tryz.func94, Tryz.ntmps94
    go_wp2
    go_ret2
    exact ⟨rfl, ((Below.refl _ _).alloc (by simp) _).alloc (by simp) _⟩
theorem add_outb (a b : Int) (w : World) (h1 : -1099511627776 ≤ a) (h2 : a ≤ 1099511627776) (h : b < -1099511627776 ∨ 1099511627776 < b) :
    Calls Tryz.prog 94 #[.int .i64 a, .int .i64 b] w fun e w' => e = .returned (.tuple #[.int .i64 0, .int .i64 7]) ∧ Below w.heap.size w w' := by
  have hm := hmf
  rcases h with h | h
  all_goals
    go_enter Tryz.func94, Tryz.ntmps94
    go_wp2
    go_ret2
    exact ⟨rfl, ((Below.refl _ _).alloc (by simp) _).alloc (by simp) _⟩
theorem add_over (a b : Int) (w : World) (h1 : -1099511627776 ≤ a) (h2 : a ≤ 1099511627776) (h3 : -1099511627776 ≤ b) (h4 : b ≤ 1099511627776)
   (h : a + b < -1099511627776 ∨ 1099511627776 < a + b) :
    Calls Tryz.prog 94 #[.int .i64 a, .int .i64 b] w fun e w' => e = .returned (.tuple #[.int .i64 0, .int .i64 7]) ∧ Below w.heap.size w w' := by
  have hm := hmf
  rcases h with h | h
  all_goals
    go_enter Tryz.func94, Tryz.ntmps94
    go_wp2
    go_ret2
    exact ⟨rfl, ((Below.refl _ _).alloc (by simp) _).alloc (by simp) _⟩

theorem add_any (a b : Int) (w : World) :
    Calls Tryz.prog 94 #[.int .i64 a, .int .i64 b] w fun e w' => e = .returned (.tuple #[.int .i64 (binV a b (a + b)), .int .i64 (binE a b (a + b))]) ∧ Below w.heap.size w w' := by
  by_cases ha : okN a = true
  · by_cases hb : okN b = true
    · by_cases hc : okN (a + b) = true
      · rw [(bin_in ha hb hc).1, (bin_in ha hb hc).2]
        exact add_in a b w (okN_iff.1 ha).1 (okN_iff.1 ha).2 (okN_iff.1 hb).1 (okN_iff.1 hb).2 (okN_iff.1 hc).1 (okN_iff.1 hc).2
      · rw [(bin_out (fun h => hc h.2.2)).1, (bin_out (fun h => hc h.2.2)).2]
        exact add_over a b w (okN_iff.1 ha).1 (okN_iff.1 ha).2 (okN_iff.1 hb).1 (okN_iff.1 hb).2 (okN_not.1 hc)
    · rw [(bin_out (fun h => hb h.2.1)).1, (bin_out (fun h => hb h.2.1)).2]
      exact add_outb a b w (okN_iff.1 ha).1 (okN_iff.1 ha).2 (okN_not.1 hb)
  · rw [(bin_out (fun h => ha h.1)).1, (bin_out (fun h => ha h.1)).2]
    exact add_outa a b w (okN_not.1 ha)

/-! ### Sub -/
theorem sub_in (a b : Int) (w : World) (h1 : -1099511627776 ≤ a) (h2 : a ≤ 1099511627776) (h3 : -1099511627776 ≤ b) (h4 : b ≤ 1099511627776)
   (h5 : -1099511627776 ≤ a - b) (h6 : a - b ≤ 1099511627776) :
    Calls Tryz.prog 93 #[.int .i64 a, .int .i64 b] w fun e w' => e = .returned (.tuple #[.int .i64 (a - b), .int .i64 0]) ∧ Below w.heap.size w w' := by
  have hm := hmf
  go_enter Tryz.func93, Tryz.ntmps93
  go_wp2
  go_ret2
  exact ⟨rfl, ((Below.refl _ _).alloc (by simp) _).alloc (by simp) _⟩
theorem sub_outa (a b : Int) (w : World) (h : a < -1099511627776 ∨ 1099511627776 < a) :
    Calls Tryz.prog 93 #[.int .i64 a, .int .i64 b] w fun e w' => e = .returned (.tuple #[.int .i64 0, .int .i64 7]) ∧ Below w.heap.size w w' := by
  have hm := hmf
  rcases h with h | h
  all_goals
    go_enter Tryz.func93, Tryz.ntmps93
    go_wp2
    go_ret2
    exact ⟨rfl, ((Below.refl _ _).alloc (by simp) _).alloc (by simp) _⟩
theorem sub_outb (a b : Int) (w : World) (h1 : -1099511627776 ≤ a) (h2 : a ≤ 1099511627776) (h : b < -1099511627776 ∨ 1099511627776 < b) :
    Calls Tryz.prog 93 #[.int .i64 a, .int .i64 b] w fun e w' => e = .returned (.tuple #[.int .i64 0, .int .i64 7]) ∧ Below w.heap.size w w' := by
  have hm := hmf
  rcases h with h | h
  all_goals
    go_enter Tryz.func93, Tryz.ntmps93
    go_wp2
    go_ret2
    exact ⟨rfl, ((Below.refl _ _).alloc (by simp) _).alloc (by simp) _⟩
theorem sub_over (a b : Int) (w : World) (h1 : -1099511627776 ≤ a) (h2 : a ≤ 1099511627776) (h3 : -1099511627776 ≤ b) (h4 : b ≤ 1099511627776)
   (h : a - b < -1099511627776 ∨ 1099511627776 < a - b) :
    Calls Tryz.prog 93 #[.int .i64 a, .int .i64 b] w fun e w' => e = .returned (.tuple #[.int .i64 0, .int .i64 7]) ∧ Below w.heap.size w w' := by
  have hm := hmf
  rcases h with h | h
  all_goals
    go_enter Tryz.func93, Tryz.ntmps93
    go_wp2
    go_ret2
    exact ⟨rfl, ((Below.refl _ _).alloc (by simp) _).alloc (by simp) _⟩

theorem sub_any (a b : Int) (w : World) :
    Calls Tryz.prog 93 #[.int .i64 a, .int .i64 b] w fun e w' => e = .returned (.tuple #[.int .i64 (binV a b (a - b)), .int .i64 (binE a b (a - b))]) ∧ Below w.heap.size w w' := by
  by_cases ha : okN a = true
  · by_cases hb : okN b = true
    · by_cases hc : okN (a - b) = true
      · rw [(bin_in ha hb hc).1, (bin_in ha hb hc).2]
        exact sub_in a b w (okN_iff.1 ha).1 (okN_iff.1 ha).2 (okN_iff.1 hb).1 (okN_iff.1 hb).2 (okN_iff.1 hc).1 (okN_iff.1 hc).2
      · rw [(bin_out (fun h => hc h.2.2)).1, (bin_out (fun h => hc h.2.2)).2]
        exact sub_over a b w (okN_iff.1 ha).1 (okN_iff.1 ha).2 (okN_iff.1 hb).1 (okN_iff.1 hb).2 (okN_not.1 hc)
    · rw [(bin_out (fun h => hb h.2.1)).1, (bin_out (fun h => hb h.2.1)).2]
      exact sub_outb a b w (okN_iff.1 ha).1 (okN_iff.1 ha).2 (okN_not.1 hb)
  · rw [(bin_out (fun h => ha h.1)).1, (bin_out (fun h => ha h.1)).2]
    exact sub_outa a b w (okN_not.1 ha)

/-! ### Mul -/
theorem mul_in (a b : Int) (w : World) (h1 : -1099511627776 ≤ a) (h2 : a ≤ 1099511627776) (h3 : -1099511627776 ≤ b) (h4 : b ≤ 1099511627776)
   (h5 : -1099511627776 ≤ a * b) (h6 : a * b ≤ 1099511627776) :
    Calls Tryz.prog 95 #[.int .i64 a, .int .i64 b] w fun e w' => e = .returned (.tuple #[.int .i64 (a * b), .int .i64 0]) ∧ Below w.heap.size w w' := by
  have hm := hmf
  by_cases h0 : a = 0
  · subst h0
    go_enter Tryz.func95, Tryz.ntmps95
    go_wp2
    go_ret2
    exact ⟨ret_pair (by simp) rfl, ((Below.refl _ _).alloc (by simp) _).alloc (by simp) _⟩
  · go_enter Tryz.func95, Tryz.ntmps95
    go_wp2_with (first | (go_at_call 121; refine (product_in a b _ h0 h1 h2 h3 h4 h5 h6).mono ?_; rintro e w' ⟨rfl, rfl⟩) | go_in)
    go_ret2
    exact ⟨rfl, ((Below.refl _ _).alloc (by simp) _).alloc (by simp) _⟩
theorem mul_outa (a b : Int) (w : World) (h : a < -1099511627776 ∨ 1099511627776 < a) :
    Calls Tryz.prog 95 #[.int .i64 a, .int .i64 b] w fun e w' => e = .returned (.tuple #[.int .i64 0, .int .i64 7]) ∧ Below w.heap.size w w' := by
  have hm := hmf
  rcases h with h | h
  all_goals
    go_enter Tryz.func95, Tryz.ntmps95
    go_wp2
    go_ret2
    exact ⟨rfl, ((Below.refl _ _).alloc (by simp) _).alloc (by simp) _⟩
theorem mul_outb (a b : Int) (w : World) (h1 : -1099511627776 ≤ a) (h2 : a ≤ 1099511627776) (h : b < -1099511627776 ∨ 1099511627776 < b) :
    Calls Tryz.prog 95 #[.int .i64 a, .int .i64 b] w fun e w' => e = .returned (.tuple #[.int .i64 0, .int .i64 7]) ∧ Below w.heap.size w w' := by
  have hm := hmf
  rcases h with h | h
  all_goals
    go_enter Tryz.func95, Tryz.ntmps95
    go_wp2
    go_ret2
    exact ⟨rfl, ((Below.refl _ _).alloc (by simp) _).alloc (by simp) _⟩
theorem mul_over (a b : Int) (w : World) (h1 : -1099511627776 ≤ a) (h2 : a ≤ 1099511627776) (h3 : -1099511627776 ≤ b) (h4 : b ≤ 1099511627776)
   (h : a * b < -1099511627776 ∨ 1099511627776 < a * b) :
    Calls Tryz.prog 95 #[.int .i64 a, .int .i64 b] w fun e w' => e = .returned (.tuple #[.int .i64 0, .int .i64 7]) ∧ Below w.heap.size w w' := by
  have hm := hmf
  have h0 : a ≠ 0 := by rintro rfl; simp at h
  have hp := fun wx => product_out a b wx h0 h1 h2 h3 h4 h
  clear h
  have H := Lib.hid hp; clear hp
  go_enter Tryz.func95, Tryz.ntmps95
  go_wp2_with (first | (go_at_call 121; refine (H.out _).mono ?_; rintro e w' ⟨rfl, rfl⟩) | go_in)
  go_ret2
  exact ⟨rfl, ((Below.refl _ _).alloc (by simp) _).alloc (by simp) _⟩

theorem mul_any (a b : Int) (w : World) :
    Calls Tryz.prog 95 #[.int .i64 a, .int .i64 b] w fun e w' => e = .returned (.tuple #[.int .i64 (binV a b (a * b)), .int .i64 (binE a b (a * b))]) ∧ Below w.heap.size w w' := by
  by_cases ha : okN a = true
  · by_cases hb : okN b = true
    · by_cases hc : okN (a * b) = true
      · rw [(bin_in ha hb hc).1, (bin_in ha hb hc).2]
        exact mul_in a b w (okN_iff.1 ha).1 (okN_iff.1 ha).2 (okN_iff.1 hb).1 (okN_iff.1 hb).2 (okN_iff.1 hc).1 (okN_iff.1 hc).2
      · rw [(bin_out (fun h => hc h.2.2)).1, (bin_out (fun h => hc h.2.2)).2]
        exact mul_over a b w (okN_iff.1 ha).1 (okN_iff.1 ha).2 (okN_iff.1 hb).1 (okN_iff.1 hb).2 (okN_not.1 hc)
    · rw [(bin_out (fun h => hb h.2.1)).1, (bin_out (fun h => hb h.2.1)).2]
      exact mul_outb a b w (okN_iff.1 ha).1 (okN_iff.1 ha).2 (okN_not.1 hb)
  · rw [(bin_out (fun h => ha h.1)).1, (bin_out (fun h => ha h.1)).2]
    exact mul_outa a b w (okN_not.1 ha)
end Go.Proofs.YtehkebncdahmcaaGreatDoor.Num
