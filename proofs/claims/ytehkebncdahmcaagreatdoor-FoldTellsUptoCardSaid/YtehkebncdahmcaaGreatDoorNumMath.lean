/- Plain arithmetic for chapter 1: floored quotients, products and bounds. No program is named here. -/
import GoSem.Claim
namespace Go.Proofs.YtehkebncdahmcaaGreatDoor.NumM

theorem fdiv_pos (a b : Int) (hb : 0 < b) : a.fdiv b * b ≤ a ∧ a < a.fdiv b * b + b ∧ a.fmod b = a - a.fdiv b * b := by
  have h := Int.mul_fdiv_add_fmod a b
  have h1 := Int.fmod_nonneg_of_pos a hb
  have h2 := Int.fmod_lt_of_pos a hb
  rw [Int.mul_comm] at h
  omega

theorem fdiv_neg (a b : Int) (hb : b < 0) : a ≤ a.fdiv b * b ∧ a.fdiv b * b + b < a ∧ a.fmod b = a - a.fdiv b * b := by
  have e := Int.neg_fdiv_neg a b
  have h := fdiv_pos (-a) (-b) (by omega)
  rw [e, Int.mul_neg] at h
  have h3 := Int.mul_fdiv_add_fmod a b
  rw [Int.mul_comm] at h3
  omega

/-- A quotient is told by where its product lies. -/
theorem fdiv_uniq_pos (a b q : Int) (hb : 0 < b) (h1 : q * b ≤ a) (h2 : a < q * b + b) : a.fdiv b = q := by
  obtain ⟨g1, g2, _⟩ := fdiv_pos a b hb
  have e1 : ¬ q < a.fdiv b := by
    intro h
    have := Int.mul_le_mul_of_nonneg_right (show q + 1 ≤ a.fdiv b by omega) (show 0 ≤ b by omega)
    rw [Int.add_mul, Int.one_mul] at this
    omega
  have e2 : ¬ a.fdiv b < q := by
    intro h
    have := Int.mul_le_mul_of_nonneg_right (show a.fdiv b + 1 ≤ q by omega) (show 0 ≤ b by omega)
    rw [Int.add_mul, Int.one_mul] at this
    omega
  omega

theorem fdiv_uniq_neg (a b q : Int) (hb : b < 0) (h1 : a ≤ q * b) (h2 : q * b + b < a) : a.fdiv b = q := by
  rw [← Int.neg_fdiv_neg]
  exact fdiv_uniq_pos (-a) (-b) q (by omega) (by rw [Int.mul_neg]; omega) (by rw [Int.mul_neg]; omega)

/-- Go's own quotient and rest, signs and sizes. -/
theorem tdiv_facts (a b : Int) (hb : b ≠ 0) : a.tdiv b * b + a.tmod b = a ∧ (0 ≤ a → 0 ≤ a.tmod b) ∧ (a ≤ 0 → a.tmod b ≤ 0) ∧ (0 < b → a.tmod b < b ∧ -b < a.tmod b) ∧ (b < 0 → a.tmod b < -b ∧ b < a.tmod b) := by
  have h := Int.mul_tdiv_add_tmod a b
  rw [Int.mul_comm] at h
  have h1 : 0 ≤ a → 0 ≤ a.tmod b := fun g => Int.tmod_nonneg b g
  have h2 : a ≤ 0 → a.tmod b ≤ 0 := fun g => by
    have := Int.tmod_nonneg b (show 0 ≤ -a by omega)
    rw [Int.neg_tmod] at this
    omega
  have h3 : (a.tmod b).natAbs < b.natAbs := by
    rw [Int.natAbs_tmod]
    exact Nat.mod_lt _ (by omega)
  refine ⟨h, h1, h2, ?_, ?_⟩ <;> intro hb' <;> omega

/-- The floored quotient out of Go's own. -/
theorem fdiv_same (a b : Int) (hb : b ≠ 0) (h : a.tmod b = 0 ∨ (0 ≤ a ∧ 0 < b) ∨ (a ≤ 0 ∧ b < 0)) : a.fdiv b = a.tdiv b := by
  obtain ⟨h0, h1, h2, h3, h4⟩ := tdiv_facts a b hb
  rcases Int.lt_or_gt_of_ne hb with g | g
  · exact fdiv_uniq_neg a b _ g (by omega) (by omega)
  · exact fdiv_uniq_pos a b _ g (by omega) (by omega)

theorem fdiv_less (a b : Int) (hb : b ≠ 0) (hr : a.tmod b ≠ 0) (h : (a < 0 ∧ 0 < b) ∨ (0 ≤ a ∧ b < 0)) : a.fdiv b = a.tdiv b - 1 := by
  obtain ⟨h0, h1, h2, h3, h4⟩ := tdiv_facts a b hb
  rcases Int.lt_or_gt_of_ne hb with g | g
  · exact fdiv_uniq_neg a b _ g (by rw [Int.sub_mul, Int.one_mul]; omega) (by rw [Int.sub_mul, Int.one_mul]; omega)
  · exact fdiv_uniq_pos a b _ g (by rw [Int.sub_mul, Int.one_mul]; omega) (by rw [Int.sub_mul, Int.one_mul]; omega)

theorem tdiv_bd (a b m : Int) (h1 : -m ≤ a) (h2 : a ≤ m) : -m ≤ a.tdiv b ∧ a.tdiv b ≤ m := by
  have h := Int.natAbs_tdiv a b
  have h3 : (a.tdiv b).natAbs ≤ a.natAbs := by rw [h]; exact Nat.div_le_self _ _
  omega

theorem fdiv_bd_pos (a b m : Int) (g : 0 < b) (h1 : -m ≤ a) (h2 : a ≤ m) : -m ≤ a.fdiv b ∧ a.fdiv b ≤ m := by
  obtain ⟨g1, g2, _⟩ := fdiv_pos a b g
  constructor
  · apply Int.le_of_not_gt; intro h
    have k1 := Int.mul_le_mul_of_nonneg_right (show a.fdiv b + 1 ≤ -m by omega) (show 0 ≤ b by omega)
    have k2 := Int.mul_le_mul_of_nonneg_left (show 1 ≤ b by omega) (show 0 ≤ m by omega)
    rw [Int.add_mul, Int.neg_mul] at k1
    omega
  · apply Int.le_of_not_gt; intro h
    have k1 := Int.mul_le_mul_of_nonneg_right (show m + 1 ≤ a.fdiv b by omega) (show 0 ≤ b by omega)
    have k2 := Int.mul_le_mul_of_nonneg_left (show 1 ≤ b by omega) (show 0 ≤ m + 1 by omega)
    omega

theorem fdiv_bd (a b m : Int) (hb : b ≠ 0) (h1 : -m ≤ a) (h2 : a ≤ m) : -m ≤ a.fdiv b ∧ a.fdiv b ≤ m := by
  rcases Int.lt_or_gt_of_ne hb with g | g
  · rw [← Int.neg_fdiv_neg]
    exact fdiv_bd_pos (-a) (-b) m (by omega) (by omega) (by omega)
  · exact fdiv_bd_pos a b m g h1 h2

theorem fmod_bd (a b m : Int) (hb : b ≠ 0) (h1 : -m ≤ b) (h2 : b ≤ m) : -m ≤ a.fmod b ∧ a.fmod b ≤ m := by
  rcases Int.lt_or_gt_of_ne hb with k | k
  · obtain ⟨g1, g2, g3⟩ := fdiv_neg a b k; omega
  · obtain ⟨g1, g2, g3⟩ := fdiv_pos a b k; omega

theorem mul_signs (a b : Int) : (a < 0 ∧ 0 ≤ b ∧ a * b ≤ 0) ∨ (0 ≤ a ∧ b < 0 ∧ a * b ≤ 0) ∨ (a < 0 ∧ b < 0 ∧ 0 ≤ a * b) ∨ (0 ≤ a ∧ 0 ≤ b ∧ 0 ≤ a * b) := by
  by_cases g : a < 0 <;> by_cases k : b < 0
  · exact Or.inr (Or.inr (Or.inl ⟨g, k, Int.mul_nonneg_of_nonpos_of_nonpos (by omega) (by omega)⟩))
  · exact Or.inl ⟨g, by omega, Int.mul_nonpos_of_nonpos_of_nonneg (by omega) (by omega)⟩
  · exact Or.inr (Or.inl ⟨by omega, k, Int.mul_nonpos_of_nonneg_of_nonpos (by omega) (by omega)⟩)
  · exact Or.inr (Or.inr (Or.inr ⟨by omega, by omega, Int.mul_nonneg (by omega) (by omega)⟩))

theorem tdiv_fdiv (a b : Int) (hb : b ≠ 0) : a.tdiv b = a.fdiv b ∨ a.tdiv b = a.fdiv b + 1 := by
  by_cases h : a.tmod b = 0 ∨ (0 ≤ a ∧ 0 < b) ∨ (a ≤ 0 ∧ b < 0)
  · exact Or.inl (fdiv_same a b hb h).symm
  · have := fdiv_less a b hb (by omega) (by omega)
    omega

/-- A count from Go's quotient down to the floored one: where it stops, where it goes on, and its products' size. -/
theorem step_facts (a b : Int) (hb : b ≠ 0) (h1 : -1099511627776 ≤ a) (h2 : a ≤ 1099511627776) (h3 : -1099511627776 ≤ b) (h4 : b ≤ 1099511627776) (q : Int)
    (hq : q = a.fdiv b ∨ q = a.fdiv b + 1) :
    -4398046511104 ≤ q * b ∧ q * b ≤ 4398046511104 ∧ (q = a.fdiv b → (0 < b → ¬ a < q * b) ∧ (b < 0 → ¬ q * b < a)) ∧ (q ≠ a.fdiv b → (0 < b → a < q * b) ∧ (b < 0 → q * b < a)) := by
  have e : (a.fdiv b + 1) * b = a.fdiv b * b + b := by rw [Int.add_mul, Int.one_mul]
  rcases Int.lt_or_gt_of_ne hb with g | g
  · obtain ⟨g1, g2, _⟩ := fdiv_neg a b g
    rcases hq with rfl | rfl
    · refine ⟨by omega, by omega, fun _ => ⟨by omega, by omega⟩, fun h => absurd rfl h⟩
    · rw [e]; refine ⟨by omega, by omega, fun h => by omega, fun _ => ⟨by omega, by omega⟩⟩
  · obtain ⟨g1, g2, _⟩ := fdiv_pos a b g
    rcases hq with rfl | rfl
    · refine ⟨by omega, by omega, fun _ => ⟨by omega, by omega⟩, fun h => absurd rfl h⟩
    · rw [e]; refine ⟨by omega, by omega, fun h => by omega, fun _ => ⟨by omega, by omega⟩⟩

theorem tmod_bd (a m : Int) (hm : 0 < m) : -m ≤ a.tmod m ∧ a.tmod m ≤ m := by
  obtain ⟨_, _, _, h, _⟩ := tdiv_facts a m (by omega)
  have := h hm
  omega
theorem mul_bd (a b m n : Int) (h1 : -m ≤ a) (h2 : a ≤ m) (h3 : -n ≤ b) (h4 : b ≤ n) : -(m * n) ≤ a * b ∧ a * b ≤ m * n ∧ 0 ≤ m ∧ 0 ≤ n := by
  have e : ((a * b).natAbs : Int) = (a.natAbs : Int) * (b.natAbs : Int) := by rw [Int.natAbs_mul]; simp
  have k := Int.mul_le_mul (show (a.natAbs : Int) ≤ m by omega) (show (b.natAbs : Int) ≤ n by omega) (by omega) (by omega)
  omega

/-- In range. -/
def okN (n : Int) : Bool := decide (-1099511627776 ≤ n ∧ n ≤ 1099511627776)
/-- The number and the error of a computation whose number is c: P1.2. -/
def binV (a b c : Int) : Int := if okN a = true ∧ okN b = true ∧ okN c = true then c else 0
def binE (a b c : Int) : Int := if okN a = true ∧ okN b = true ∧ okN c = true then 0 else 7
/-- Likewise where b divides: P1.3. -/
def quoV (a b c : Int) : Int := if b = 0 then 0 else binV a b c
def quoE (a b c : Int) : Int := if okN a = true then (if b = 0 then 8 else binE a b c) else 7

theorem okN_iff {n : Int} : okN n = true ↔ (-1099511627776 ≤ n ∧ n ≤ 1099511627776) := by unfold okN; exact decide_eq_true_iff
theorem okN_not {n : Int} : ¬ okN n = true ↔ (n < -1099511627776 ∨ 1099511627776 < n) := by rw [okN_iff]; omega
theorem bin_in {a b c : Int} (h1 : okN a = true) (h2 : okN b = true) (h3 : okN c = true) : binV a b c = c ∧ binE a b c = 0 :=
  ⟨if_pos ⟨h1, h2, h3⟩, if_pos ⟨h1, h2, h3⟩⟩
theorem bin_out {a b c : Int} (h : ¬ (okN a = true ∧ okN b = true ∧ okN c = true)) : binV a b c = 0 ∧ binE a b c = 7 :=
  ⟨if_neg h, if_neg h⟩

/-- A product's size by the sizes. -/
theorem mul_sizes (a b : Int) : (a * b).natAbs = b.natAbs * a.natAbs := by rw [Int.natAbs_mul, Nat.mul_comm]
end Go.Proofs.YtehkebncdahmcaaGreatDoor.NumM
