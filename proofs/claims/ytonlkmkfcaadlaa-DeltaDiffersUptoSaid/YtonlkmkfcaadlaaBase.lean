/- Plain arithmetic for chapter 1: floored quotients, products and bounds. No program is named here. Plain mathematics for chapter 2: when a value is valid, and which error it has otherwise. No program is named here. Plain mathematics: the order of byte strings. No program is named here. Plain mathematics for chapter 3: the tokens of a text. No program is named here. Plain mathematics of chapter 4: formulas as trees, their size, depth and error. No program is named here. -/
import GoSem.Claim
import Derived.Lib.Bytealg
import Derived.Lib.Small
import Derived.Lib.AtoiAll
namespace Go.Proofs.Ytonlkmkfcaadlaa.NumM

theorem fdiv_pos (a b : Int) (hb : 0 < b) : a.fdiv b * b ≤ a ∧ a < a.fdiv b * b + b ∧ a.fmod b = a - a.fdiv b * b := by
  have h := Int.mul_fdiv_add_fmod a b
  have h1 := Int.fmod_nonneg_of_pos a hb
  have h2 := Int.fmod_lt_of_pos a hb
  rw [Int.mul_comm] at h
  omega

theorem fdiv_neg (a b : Int) (hb : b < 0) : a ≤ a.fdiv b * b ∧ a.fdiv b * b + b < a ∧ a.fmod b = a - a.fdiv b * b := by
  have e := Int.neg_fdiv_neg a b
  have h := fdiv_pos (-a) (-b) (by omega)
  rw [e, Int.mul_neg] at h
  have h3 := Int.mul_fdiv_add_fmod a b
  rw [Int.mul_comm] at h3
  omega

/-- A quotient is told by where its product lies. -/
theorem fdiv_uniq_pos (a b q : Int) (hb : 0 < b) (h1 : q * b ≤ a) (h2 : a < q * b + b) : a.fdiv b = q := by
  obtain ⟨g1, g2, _⟩ := fdiv_pos a b hb
  have e1 : ¬ q < a.fdiv b := by
    intro h
    have := Int.mul_le_mul_of_nonneg_right (show q + 1 ≤ a.fdiv b by omega) (show 0 ≤ b by omega)
    rw [Int.add_mul, Int.one_mul] at this
    omega
  have e2 : ¬ a.fdiv b < q := by
    intro h
    have := Int.mul_le_mul_of_nonneg_right (show a.fdiv b + 1 ≤ q by omega) (show 0 ≤ b by omega)
    rw [Int.add_mul, Int.one_mul] at this
    omega
  omega

theorem fdiv_uniq_neg (a b q : Int) (hb : b < 0) (h1 : a ≤ q * b) (h2 : q * b + b < a) : a.fdiv b = q := by
  rw [← Int.neg_fdiv_neg]
  exact fdiv_uniq_pos (-a) (-b) q (by omega) (by rw [Int.mul_neg]; omega) (by rw [Int.mul_neg]; omega)

/-- Go's own quotient and rest, signs and sizes. -/
theorem tdiv_facts (a b : Int) (hb : b ≠ 0) : a.tdiv b * b + a.tmod b = a ∧ (0 ≤ a → 0 ≤ a.tmod b) ∧ (a ≤ 0 → a.tmod b ≤ 0) ∧ (0 < b → a.tmod b < b ∧ -b < a.tmod b) ∧ (b < 0 → a.tmod b < -b ∧ b < a.tmod b) := by
  have h := Int.mul_tdiv_add_tmod a b
  rw [Int.mul_comm] at h
  have h1 : 0 ≤ a → 0 ≤ a.tmod b := fun g => Int.tmod_nonneg b g
  have h2 : a ≤ 0 → a.tmod b ≤ 0 := fun g => by
    have := Int.tmod_nonneg b (show 0 ≤ -a by omega)
    rw [Int.neg_tmod] at this
    omega
  have h3 : (a.tmod b).natAbs < b.natAbs := by
    rw [Int.natAbs_tmod]
    exact Nat.mod_lt _ (by omega)
  refine ⟨h, h1, h2, ?_, ?_⟩ <;> intro hb' <;> omega

/-- The floored quotient out of Go's own. -/
theorem fdiv_same (a b : Int) (hb : b ≠ 0) (h : a.tmod b = 0 ∨ (0 ≤ a ∧ 0 < b) ∨ (a ≤ 0 ∧ b < 0)) : a.fdiv b = a.tdiv b := by
  obtain ⟨h0, h1, h2, h3, h4⟩ := tdiv_facts a b hb
  rcases Int.lt_or_gt_of_ne hb with g | g
  · exact fdiv_uniq_neg a b _ g (by omega) (by omega)
  · exact fdiv_uniq_pos a b _ g (by omega) (by omega)

theorem fdiv_less (a b : Int) (hb : b ≠ 0) (hr : a.tmod b ≠ 0) (h : (a < 0 ∧ 0 < b) ∨ (0 ≤ a ∧ b < 0)) : a.fdiv b = a.tdiv b - 1 := by
  obtain ⟨h0, h1, h2, h3, h4⟩ := tdiv_facts a b hb
  rcases Int.lt_or_gt_of_ne hb with g | g
  · exact fdiv_uniq_neg a b _ g (by rw [Int.sub_mul, Int.one_mul]; omega) (by rw [Int.sub_mul, Int.one_mul]; omega)
  · exact fdiv_uniq_pos a b _ g (by rw [Int.sub_mul, Int.one_mul]; omega) (by rw [Int.sub_mul, Int.one_mul]; omega)

theorem tdiv_bd (a b m : Int) (h1 : -m ≤ a) (h2 : a ≤ m) : -m ≤ a.tdiv b ∧ a.tdiv b ≤ m := by
  have h := Int.natAbs_tdiv a b
  have h3 : (a.tdiv b).natAbs ≤ a.natAbs := by rw [h]; exact Nat.div_le_self _ _
  omega

theorem fdiv_bd_pos (a b m : Int) (g : 0 < b) (h1 : -m ≤ a) (h2 : a ≤ m) : -m ≤ a.fdiv b ∧ a.fdiv b ≤ m := by
  obtain ⟨g1, g2, _⟩ := fdiv_pos a b g
  constructor
  · apply Int.le_of_not_gt; intro h
    have k1 := Int.mul_le_mul_of_nonneg_right (show a.fdiv b + 1 ≤ -m by omega) (show 0 ≤ b by omega)
    have k2 := Int.mul_le_mul_of_nonneg_left (show 1 ≤ b by omega) (show 0 ≤ m by omega)
    rw [Int.add_mul, Int.neg_mul] at k1
    omega
  · apply Int.le_of_not_gt; intro h
    have k1 := Int.mul_le_mul_of_nonneg_right (show m + 1 ≤ a.fdiv b by omega) (show 0 ≤ b by omega)
    have k2 := Int.mul_le_mul_of_nonneg_left (show 1 ≤ b by omega) (show 0 ≤ m + 1 by omega)
    omega

theorem fdiv_bd (a b m : Int) (hb : b ≠ 0) (h1 : -m ≤ a) (h2 : a ≤ m) : -m ≤ a.fdiv b ∧ a.fdiv b ≤ m := by
  rcases Int.lt_or_gt_of_ne hb with g | g
  · rw [← Int.neg_fdiv_neg]
    exact fdiv_bd_pos (-a) (-b) m (by omega) (by omega) (by omega)
  · exact fdiv_bd_pos a b m g h1 h2

theorem fmod_bd (a b m : Int) (hb : b ≠ 0) (h1 : -m ≤ b) (h2 : b ≤ m) : -m ≤ a.fmod b ∧ a.fmod b ≤ m := by
  rcases Int.lt_or_gt_of_ne hb with k | k
  · obtain ⟨g1, g2, g3⟩ := fdiv_neg a b k; omega
  · obtain ⟨g1, g2, g3⟩ := fdiv_pos a b k; omega

theorem mul_signs (a b : Int) : (a < 0 ∧ 0 ≤ b ∧ a * b ≤ 0) ∨ (0 ≤ a ∧ b < 0 ∧ a * b ≤ 0) ∨ (a < 0 ∧ b < 0 ∧ 0 ≤ a * b) ∨ (0 ≤ a ∧ 0 ≤ b ∧ 0 ≤ a * b) := by
  by_cases g : a < 0 <;> by_cases k : b < 0
  · exact Or.inr (Or.inr (Or.inl ⟨g, k, Int.mul_nonneg_of_nonpos_of_nonpos (by omega) (by omega)⟩))
  · exact Or.inl ⟨g, by omega, Int.mul_nonpos_of_nonpos_of_nonneg (by omega) (by omega)⟩
  · exact Or.inr (Or.inl ⟨by omega, k, Int.mul_nonpos_of_nonneg_of_nonpos (by omega) (by omega)⟩)
  · exact Or.inr (Or.inr (Or.inr ⟨by omega, by omega, Int.mul_nonneg (by omega) (by omega)⟩))

theorem tdiv_fdiv (a b : Int) (hb : b ≠ 0) : a.tdiv b = a.fdiv b ∨ a.tdiv b = a.fdiv b + 1 := by
  by_cases h : a.tmod b = 0 ∨ (0 ≤ a ∧ 0 < b) ∨ (a ≤ 0 ∧ b < 0)
  · exact Or.inl (fdiv_same a b hb h).symm
  · have := fdiv_less a b hb (by omega) (by omega)
    omega

/-- A count from Go's quotient down to the floored one: where it stops, where it goes on, and its products' size. -/
theorem step_facts (a b : Int) (hb : b ≠ 0) (h1 : -1099511627776 ≤ a) (h2 : a ≤ 1099511627776) (h3 : -1099511627776 ≤ b) (h4 : b ≤ 1099511627776) (q : Int)
    (hq : q = a.fdiv b ∨ q = a.fdiv b + 1) :
    -4398046511104 ≤ q * b ∧ q * b ≤ 4398046511104 ∧ (q = a.fdiv b → (0 < b → ¬ a < q * b) ∧ (b < 0 → ¬ q * b < a)) ∧ (q ≠ a.fdiv b → (0 < b → a < q * b) ∧ (b < 0 → q * b < a)) := by
  have e : (a.fdiv b + 1) * b = a.fdiv b * b + b := by rw [Int.add_mul, Int.one_mul]
  rcases Int.lt_or_gt_of_ne hb with g | g
  · obtain ⟨g1, g2, _⟩ := fdiv_neg a b g
    rcases hq with rfl | rfl
    · refine ⟨by omega, by omega, fun _ => ⟨by omega, by omega⟩, fun h => absurd rfl h⟩
    · rw [e]; refine ⟨by omega, by omega, fun h => by omega, fun _ => ⟨by omega, by omega⟩⟩
  · obtain ⟨g1, g2, _⟩ := fdiv_pos a b g
    rcases hq with rfl | rfl
    · refine ⟨by omega, by omega, fun _ => ⟨by omega, by omega⟩, fun h => absurd rfl h⟩
    · rw [e]; refine ⟨by omega, by omega, fun h => by omega, fun _ => ⟨by omega, by omega⟩⟩

theorem tmod_bd (a m : Int) (hm : 0 < m) : -m ≤ a.tmod m ∧ a.tmod m ≤ m := by
  obtain ⟨_, _, _, h, _⟩ := tdiv_facts a m (by omega)
  have := h hm
  omega
theorem mul_bd (a b m n : Int) (h1 : -m ≤ a) (h2 : a ≤ m) (h3 : -n ≤ b) (h4 : b ≤ n) : -(m * n) ≤ a * b ∧ a * b ≤ m * n ∧ 0 ≤ m ∧ 0 ≤ n := by
  have e : ((a * b).natAbs : Int) = (a.natAbs : Int) * (b.natAbs : Int) := by rw [Int.natAbs_mul]; simp
  have k := Int.mul_le_mul (show (a.natAbs : Int) ≤ m by omega) (show (b.natAbs : Int) ≤ n by omega) (by omega) (by omega)
  omega

/-- In range. -/
def okN (n : Int) : Bool := decide (-1099511627776 ≤ n ∧ n ≤ 1099511627776)
/-- The number and the error of a computation whose number is c: P1.2. -/
def binV (a b c : Int) : Int := if okN a = true ∧ okN b = true ∧ okN c = true then c else 0
def binE (a b c : Int) : Int := if okN a = true ∧ okN b = true ∧ okN c = true then 0 else 7
/-- Likewise where b divides: P1.3. -/
def quoV (a b c : Int) : Int := if b = 0 then 0 else binV a b c
def quoE (a b c : Int) : Int := if okN a = true then (if b = 0 then 8 else binE a b c) else 7

theorem okN_iff {n : Int} : okN n = true ↔ (-1099511627776 ≤ n ∧ n ≤ 1099511627776) := by unfold okN; exact decide_eq_true_iff
theorem okN_not {n : Int} : ¬ okN n = true ↔ (n < -1099511627776 ∨ 1099511627776 < n) := by rw [okN_iff]; omega
theorem bin_in {a b c : Int} (h1 : okN a = true) (h2 : okN b = true) (h3 : okN c = true) : binV a b c = c ∧ binE a b c = 0 :=
  ⟨if_pos ⟨h1, h2, h3⟩, if_pos ⟨h1, h2, h3⟩⟩
theorem bin_out {a b c : Int} (h : ¬ (okN a = true ∧ okN b = true ∧ okN c = true)) : binV a b c = 0 ∧ binE a b c = 7 :=
  ⟨if_neg h, if_neg h⟩

/-- A product's size by the sizes. -/
theorem mul_sizes (a b : Int) : (a * b).natAbs = b.natAbs * a.natAbs := by rw [Int.natAbs_mul, Nat.mul_comm]
end Go.Proofs.Ytonlkmkfcaadlaa.NumM
namespace Go.Proofs.Ytonlkmkfcaadlaa.ValM
open NumM

/-- All bytes of a text lie in the range 32 to 126. -/
def cleanL (l : List UInt8) : Bool := l.all fun c => decide (32 ≤ c.toNat) && decide (c.toNat ≤ 126)

/-- The error of a value's kind and number. -/
def numE (k n : Int) : Int :=
  if k = 1 then (if okN n then 0 else 7)
  else if k = 2 then (if 0 ≤ n ∧ n ≤ 1 then 0 else 4)
  else if k = 3 ∨ k = 4 then (if n = 0 then 0 else 4)
  else if k = 5 then (if 1 ≤ n ∧ n ≤ 15 then 0 else 4)
  else 2

/-- The error of a value's text. -/
def strE (k : Int) (l : List UInt8) : Int :=
  if k = 3 then (if 40 < l.length then 1 else if cleanL l then 0 else 3) else (if l = [] then 0 else 3)

def valE (k n : Int) (l : List UInt8) : Int := if numE k n = 0 then strE k l else numE k n

/-- It is a type. -/
def isT (k : Int) : Bool := decide (k = 1) || decide (k = 2) || decide (k = 3)

def knownB (k n : Int) (l : List UInt8) : Bool := isT k && decide (valE k n l = 0)

theorem cleanL_snoc (l : List UInt8) (c : UInt8) : cleanL (l ++ [c]) = (cleanL l && (decide (32 ≤ c.toNat) && decide (c.toNat ≤ 126))) := by
  unfold cleanL; rw [List.all_append]; simp

theorem take_snoc (s : ByteArray) (k : Nat) (h : k < s.size) : s.data.toList.take (k + 1) = s.data.toList.take k ++ [s[k]] := by
  rw [List.take_succ_eq_append_getElem (by simpa using h)]; rfl

theorem cleanL_bad (s : ByteArray) (k : Nat) (h : k < s.size) (hb : s[k].toNat < 32 ∨ 126 < s[k].toNat) : cleanL s.data.toList = false := by
  unfold cleanL
  rw [List.all_eq_false]
  refine ⟨s[k], ?_, ?_⟩
  · have : s[k] = s.data.toList[k]'(by simpa using h) := rfl
    rw [this]; exact List.getElem_mem _
  · simp only [Bool.and_eq_true, decide_eq_true_eq, not_and, Nat.not_le]; omega

theorem cleanL_step (s : ByteArray) (k : Nat) (h : k < s.size) (hk : cleanL (s.data.toList.take k) = true) (h1 : 32 ≤ s[k].toNat) (h2 : s[k].toNat ≤ 126) : cleanL (s.data.toList.take (k + 1)) = true := by
  rw [take_snoc s k h, cleanL_snoc, hk]; simp [h1, h2]

theorem cleanL_all (s : ByteArray) (k : Nat) (h : s.size ≤ k) (hk : cleanL (s.data.toList.take k) = true) : cleanL s.data.toList = true := by
  rw [List.take_of_length_le (by simpa using h)] at hk; exact hk

theorem numE_zero_or (k n : Int) : numE k n = 0 ∨ numE k n = 7 ∨ numE k n = 4 ∨ numE k n = 2 := by
  unfold numE; repeat' split
  all_goals omega

theorem len_size (s : ByteArray) : s.data.toList.length = s.size := rfl
theorem nil_of_size (s : ByteArray) (h : s.size = 0) : s.data.toList = [] := List.eq_nil_of_length_eq_zero h
theorem not_nil (s : ByteArray) (h : 0 < s.size) : s.data.toList ≠ [] := fun e => by
  have : s.data.toList.length = 0 := by rw [e]; rfl
  rw [len_size] at this; omega
theorem strE_clean {l : List UInt8} (h1 : l.length ≤ 40) (h2 : cleanL l = true) : strE 3 l = 0 := by
  unfold strE; rw [if_pos rfl, if_neg (by omega), if_pos h2]
theorem strE_foul {l : List UInt8} (h1 : l.length ≤ 40) (h2 : cleanL l = false) : strE 3 l = 3 := by
  unfold strE; rw [if_pos rfl, if_neg (by omega), if_neg (by simp [h2])]
theorem strE_long {l : List UInt8} (h1 : 40 < l.length) : strE 3 l = 1 := by
  unfold strE; rw [if_pos rfl, if_pos h1]
theorem strE_other {k : Int} {l : List UInt8} (hk : k ≠ 3) : strE k l = if l = [] then 0 else 3 := by
  unfold strE; rw [if_neg hk]
end Go.Proofs.Ytonlkmkfcaadlaa.ValM
namespace Go.Proofs.Ytonlkmkfcaadlaa.StrM
open Go.Lib

theorem cmp_cases : ∀ (l m : List UInt8), compareBytes l m = -1 ∨ compareBytes l m = 0 ∨ compareBytes l m = 1
  | [], [] => .inr (.inl rfl)
  | [], _ :: _ => .inl rfl
  | _ :: _, [] => .inr (.inr rfl)
  | a :: l, b :: m => by
    unfold compareBytes
    by_cases h : a < b
    · rw [if_pos h]; exact .inl rfl
    · rw [if_neg h]
      by_cases g : b < a
      · rw [if_pos g]; exact .inr (.inr rfl)
      · rw [if_neg g]; exact cmp_cases l m

theorem cmp_less : ∀ (l m : List UInt8), Op.bytesLess l m = decide (compareBytes l m = -1)
  | [], [] => by simp [Op.bytesLess, compareBytes]
  | [], _ :: _ => by simp [Op.bytesLess, compareBytes]
  | _ :: _, [] => by simp [Op.bytesLess, compareBytes]
  | a :: l, b :: m => by
    unfold compareBytes Op.bytesLess
    by_cases h : a < b
    · simp [h]
    · by_cases g : b < a
      · have hne : (a == b) = false := by
          rw [beq_eq_false_iff_ne]; rintro rfl; exact h g
        simp [h, g, hne]
      · have he : a = b := by
          apply UInt8.toNat_inj.1
          have h1 : ¬ a.toNat < b.toNat := fun x => h (UInt8.lt_iff_toNat_lt.2 x)
          have h2 : ¬ b.toNat < a.toNat := fun x => g (UInt8.lt_iff_toNat_lt.2 x)
          omega
        subst he
        rw [cmp_less l m]; simp [h]

theorem cmp_zero : ∀ (l m : List UInt8), compareBytes l m = 0 ↔ l = m
  | [], [] => by simp [compareBytes]
  | [], _ :: _ => by simp [compareBytes]
  | _ :: _, [] => by simp [compareBytes]
  | a :: l, b :: m => by
    unfold compareBytes
    by_cases h : a < b
    · rw [if_pos h]
      constructor
      · intro e; omega
      · intro e; injection e with e _; subst e; exact absurd (UInt8.lt_iff_toNat_lt.1 h) (by omega)
    · rw [if_neg h]
      by_cases g : b < a
      · rw [if_pos g]
        constructor
        · intro e; omega
        · intro e; injection e with e _; subst e; exact absurd (UInt8.lt_iff_toNat_lt.1 g) (by omega)
      · have he : a = b := by
          apply UInt8.toNat_inj.1
          have h1 : ¬ a.toNat < b.toNat := fun x => h (UInt8.lt_iff_toNat_lt.2 x)
          have h2 : ¬ b.toNat < a.toNat := fun x => g (UInt8.lt_iff_toNat_lt.2 x)
          omega
        subst he
        rw [if_neg g, cmp_zero l m]; simp

theorem cmp_swap : ∀ (l m : List UInt8), compareBytes m l = - compareBytes l m
  | [], [] => by simp [compareBytes]
  | [], _ :: _ => by simp [compareBytes]
  | _ :: _, [] => by simp [compareBytes]
  | a :: l, b :: m => by
    unfold compareBytes
    by_cases h : a < b
    · have g : ¬ b < a := fun g => by have := UInt8.lt_iff_toNat_lt.1 h; have := UInt8.lt_iff_toNat_lt.1 g; omega
      rw [if_neg g, if_pos h, if_pos h]; rfl
    · by_cases g : b < a
      · rw [if_pos g, if_neg h, if_pos g]
      · rw [if_neg g, if_neg h, if_neg h, if_neg g]; exact cmp_swap l m

theorem cmp_trans : ∀ (l m n : List UInt8), compareBytes l m ≤ 0 → compareBytes m n ≤ 0 → compareBytes l n ≤ 0
  | [], _, [], _, _ => by simp [compareBytes]
  | [], _, _ :: _, _, _ => by simp [compareBytes]
  | _ :: _, [], _, h, _ => by simp [compareBytes] at h
  | _ :: _, _ :: _, [], _, h => by simp [compareBytes] at h
  | a :: l, b :: m, c :: n, h1, h2 => by
    unfold compareBytes at h1 h2 ⊢
    by_cases x : a < c
    · rw [if_pos x]; omega
    · rw [if_neg x]
      have hx : ¬ a.toNat < c.toNat := fun y => x (UInt8.lt_iff_toNat_lt.2 y)
      have hab : ¬ b < a := fun g => by
        have g' := UInt8.lt_iff_toNat_lt.1 g
        have : ¬ a < b := fun y => by have := UInt8.lt_iff_toNat_lt.1 y; omega
        rw [if_neg this, if_pos g] at h1; omega
      have hbc : ¬ c < b := fun g => by
        have g' := UInt8.lt_iff_toNat_lt.1 g
        have : ¬ b < c := fun y => by have := UInt8.lt_iff_toNat_lt.1 y; omega
        rw [if_neg this, if_pos g] at h2; omega
      have h3 : ¬ b.toNat < a.toNat := fun y => hab (UInt8.lt_iff_toNat_lt.2 y)
      have h4 : ¬ c.toNat < b.toNat := fun y => hbc (UInt8.lt_iff_toNat_lt.2 y)
      have e1 : a = b := UInt8.toNat_inj.1 (by omega)
      have e2 : b = c := UInt8.toNat_inj.1 (by omega)
      subst e1; subst e2
      rw [if_neg hab]
      rw [if_neg hab, if_neg hab] at h1 h2
      exact cmp_trans l m n h1 h2

theorem int_cases (x y : Int) : (x < y ∧ compareInt x y = -1) ∨ (x = y ∧ compareInt x y = 0) ∨ (y < x ∧ compareInt x y = 1) := by
  unfold compareInt
  by_cases h : x < y
  · rw [if_pos h]; omega
  · rw [if_neg h]
    by_cases g : y < x
    · rw [if_pos g]; omega
    · rw [if_neg g]; omega
end Go.Proofs.Ytonlkmkfcaadlaa.StrM
namespace Go.Proofs.Ytonlkmkfcaadlaa.LexM

def lowB (c : UInt8) : Bool := decide (97 ≤ c.toNat) && decide (c.toNat ≤ 122)
def digB (c : UInt8) : Bool := decide (48 ≤ c.toNat) && decide (c.toNat ≤ 57)
def alnB (c : UInt8) : Bool := lowB c || digB c
/-- A byte that is a sign by itself. -/
def sgnB (c : UInt8) : Bool := decide (c = 60) || decide (c = 61) || decide (c = 43) || decide (c = 45) || decide (c = 42) || decide (c = 47) || decide (c = 37) || decide (c = 38) || decide (c = 40) || decide (c = 41) || decide (c = 44)

/-- A first token: its kind, its length, its value's kind, number and text. -/
structure Tok where
  kind : Int
  len : Nat
  vk : Int
  n : Int
  t : List UInt8

inductive Fst where
  | bad (e : Int)
  | tok (t : Tok)

/-- A quote behind its first sign: how many bytes it has there, and its text. -/
def quoF : List UInt8 → Option (Nat × List UInt8)
  | [] => none
  | [c] => if c = 34 then some (1, []) else none
  | c :: d :: r =>
    if c = 34 then some (1, [])
    else if c.toNat < 32 ∨ 126 < c.toNat then none
    else if c = 92 then (if d = 34 ∨ d = 92 then (quoF r).map fun x => (x.1 + 2, d :: x.2) else none)
    else (quoF (d :: r)).map fun x => (x.1 + 1, c :: x.2)

def numT (d : List UInt8) : Fst :=
  if d.head? = some 48 ∧ 1 < d.length then .bad 3
  else match Lib.atoiAll d with
    | .ok n => if 1099511627776 < n then .bad 7 else .tok ⟨1, d.length, 1, n, []⟩
    | _ => .bad 7
def wordT (d : List UInt8) : Fst := if 10 < d.length then .bad 1 else .tok ⟨2, d.length, 0, 0, []⟩
def quoT (r : List UInt8) : Fst :=
  match quoF r with
  | none => .bad 3
  | some (m, t) => if 40 < t.length then .bad 1 else .tok ⟨3, m + 1, 3, 0, t⟩
def sgnT (c : UInt8) (r : List UInt8) : Fst :=
  if (c = 60 ∨ c = 33) ∧ r.head? = some 61 then .tok ⟨4, 2, 0, 0, []⟩ else if sgnB c then .tok ⟨4, 1, 0, 0, []⟩ else .bad 3
def firstF : List UInt8 → Fst
  | [] => .bad 3
  | c :: r =>
    if digB c then numT ((c :: r).takeWhile digB)
    else if lowB c then wordT ((c :: r).takeWhile alnB)
    else if c = 34 then quoT r
    else sgnT c r

theorem first_cons (c : UInt8) (r : List UInt8) : firstF (c :: r) = if digB c then numT ((c :: r).takeWhile digB) else if lowB c then wordT ((c :: r).takeWhile alnB) else if c = 34 then quoT r else sgnT c r := rfl

structure Tk where
  kind : Int
  pos : Nat
  s : List UInt8
  vk : Int
  n : Int
  t : List UInt8

inductive Res where
  | bad (pos : Nat) (e : Int)
  | ok (l : List Tk)
def Res.cons (x : Tk) : Res → Res
  | .bad p e => .bad p e
  | .ok l => .ok (x :: l)
def mk (t : Tok) (pos : Nat) (l : List UInt8) : Tk := ⟨t.kind, pos, l.take t.len, t.vk, t.n, t.t⟩

def toks : Nat → List UInt8 → Nat → Res
  | 0, _, _ => .ok []
  | _ + 1, [], _ => .ok []
  | f + 1, c :: r, p =>
    if c = 32 then toks f r (p + 1)
    else match firstF (c :: r) with
      | .bad e => .bad p e
      | .tok t => (toks f ((c :: r).drop t.len) (p + t.len)).cons (mk t p (c :: r))

/-- What is handed back: the tokens, the offset, the error. -/
def fin (acc : List Tk) : Res → List Tk × Nat × Int
  | .bad p e => ([], p, e)
  | .ok l => (acc ++ l, 0, 0)
def lexR (l : List UInt8) : List Tk × Nat × Int := if 160 < l.length then ([], 0, 1) else fin [] (toks (l.length + 1) l 0)

theorem fin_cons (acc : List Tk) (x : Tk) (r : Res) : fin acc (r.cons x) = fin (acc ++ [x]) r := by
  cases r <;> simp [fin, Res.cons]

/-! ### Lengths -/
theorem tw_len (p : UInt8 → Bool) : ∀ l : List UInt8, (l.takeWhile p).length ≤ l.length
  | [] => by simp
  | c :: l => by
    rw [List.takeWhile_cons]
    split
    · have := tw_len p l; simp; omega
    · simp
theorem quoF_len : ∀ (l : List UInt8) (m : Nat) (t : List UInt8), quoF l = some (m, t) → 1 ≤ m ∧ m ≤ l.length ∧ t.length < m
  | [], m, t, h => by simp [quoF] at h
  | [c], m, t, h => by
    unfold quoF at h
    split at h
    · simp only [Option.some.injEq, Prod.mk.injEq] at h; obtain ⟨rfl, rfl⟩ := h; simp
    · cases h
  | c :: d :: r, m, t, h => by
    unfold quoF at h
    split at h
    · simp only [Option.some.injEq, Prod.mk.injEq] at h; obtain ⟨rfl, rfl⟩ := h; simp
    · split at h
      · cases h
      · split at h
        · split at h
          · obtain ⟨⟨m', t'⟩, h', hx⟩ := Option.map_eq_some_iff.1 h
            simp only [Prod.mk.injEq] at hx; obtain ⟨rfl, rfl⟩ := hx
            have := quoF_len r m' t' h'
            simp only [List.length_cons]; omega
          · cases h
        · obtain ⟨⟨m', t'⟩, h', hx⟩ := Option.map_eq_some_iff.1 h
          simp only [Prod.mk.injEq] at hx; obtain ⟨rfl, rfl⟩ := hx
          have := quoF_len (d :: r) m' t' h'
          simp only [List.length_cons] at this ⊢; omega

theorem numT_tok {d : List UInt8} {t : Tok} (h : numT d = .tok t) : t.len = d.length ∧ t.kind = 1 ∧ t.vk = 1 ∧ t.t = [] := by
  unfold numT at h
  split at h
  · cases h
  · split at h
    · split at h
      · cases h
      · injection h with h; subst h; simp
    · cases h
theorem wordT_tok {d : List UInt8} {t : Tok} (h : wordT d = .tok t) : t = ⟨2, d.length, 0, 0, []⟩ ∧ d.length ≤ 10 := by
  unfold wordT at h
  split at h
  · cases h
  · injection h with h; exact ⟨h.symm, by omega⟩
theorem quoT_tok {r : List UInt8} {t : Tok} (h : quoT r = .tok t) : ∃ m u, quoF r = some (m, u) ∧ u.length ≤ 40 ∧ t = ⟨3, m + 1, 3, 0, u⟩ := by
  unfold quoT at h
  split at h
  · cases h
  · rename_i m u hq
    split at h
    · cases h
    · injection h with h; exact ⟨m, u, hq, by omega, h.symm⟩

theorem first_len {l : List UInt8} {t : Tok} (h : firstF l = .tok t) : 1 ≤ t.len ∧ t.len ≤ l.length := by
  cases l with
  | nil => cases h
  | cons c r =>
    rw [first_cons] at h
    split at h
    · rename_i hd
      obtain ⟨h1, _⟩ := numT_tok h
      have h2 := tw_len digB (c :: r)
      rw [h1]; refine ⟨?_, h2⟩
      rw [List.takeWhile_cons, if_pos hd]; simp
    · split at h
      · rename_i hd
        obtain ⟨rfl, _⟩ := wordT_tok h
        have h2 := tw_len alnB (c :: r)
        refine ⟨?_, h2⟩
        show 1 ≤ ((c :: r).takeWhile alnB).length
        rw [List.takeWhile_cons, if_pos (by simp [alnB, hd])]; simp
      · split at h
        · obtain ⟨m, u, hq, _, rfl⟩ := quoT_tok h
          have := quoF_len r m u hq
          simp; omega
        · unfold sgnT at h
          split at h
          · rename_i hh
            injection h with h; subst h
            cases r with
            | nil => simp at hh
            | cons d r => simp
          · split at h
            · injection h with h; subst h; simp
            · cases h

/-! ### A first token stays the first one if the text is cut behind it -/
theorem tw_cut (p : UInt8 → Bool) : ∀ (l r : List UInt8), (r = [] ∨ (∃ c, r.head? = some c ∧ p c = false) ∨ r.head? = (l.drop (l.takeWhile p).length).head?) →
    (l.take (l.takeWhile p).length ++ r).takeWhile p = l.takeWhile p
  | [], r, h => by
    cases r with
    | nil => rfl
    | cons d r =>
      rcases h with h | ⟨c, h, hp⟩ | h
      · cases h
      · simp at h; subst h; simp [hp]
      · simp at h
  | c :: l, r, h => by
    rw [List.takeWhile_cons] at h ⊢
    by_cases hc : p c = true
    · rw [if_pos hc] at h ⊢
      simp only [List.length_cons, List.take_succ_cons, List.cons_append, List.drop_succ_cons] at h ⊢
      rw [List.takeWhile_cons, if_pos hc, tw_cut p l r h]
    · rw [if_neg hc] at h ⊢
      cases r with
      | nil => rfl
      | cons d r =>
        have hd : p d = false := by
          rcases h with h | ⟨c', h, hp⟩ | h
          · cases h
          · simp at h; subst h; exact hp
          · simp at h; subst h; simpa using hc
        simp [hd]

theorem quoF_cut : ∀ (l r : List UInt8) (m : Nat) (t : List UInt8), quoF l = some (m, t) → quoF (l.take m ++ r) = some (m, t)
  | [], _, m, t, h => by simp [quoF] at h
  | [c], r, m, t, h => by
    unfold quoF at h
    split at h
    · rename_i hc
      simp only [Option.some.injEq, Prod.mk.injEq] at h; obtain ⟨rfl, rfl⟩ := h
      subst hc
      cases r <;> simp [quoF]
    · cases h
  | c :: d :: r', r, m, t, h => by
    unfold quoF at h
    split at h
    · rename_i hc
      simp only [Option.some.injEq, Prod.mk.injEq] at h; obtain ⟨rfl, rfl⟩ := h
      subst hc
      cases r <;> simp [quoF]
    · rename_i h34
      split at h
      · cases h
      · rename_i hr
        split at h
        · rename_i h92
          split at h
          · rename_i hd
            obtain ⟨⟨m', t'⟩, h', hx⟩ := Option.map_eq_some_iff.1 h
            simp only [Prod.mk.injEq] at hx; obtain ⟨rfl, rfl⟩ := hx
            have ih := quoF_cut r' r m' t' h'
            show quoF ((c :: d :: r').take (m' + 2) ++ r) = _
            rw [List.take_succ_cons, List.take_succ_cons, List.cons_append, List.cons_append, quoF, if_neg h34, if_neg hr, if_pos h92, if_pos hd, ih]
            rfl
          · cases h
        · rename_i h92
          obtain ⟨⟨m', t'⟩, h', hx⟩ := Option.map_eq_some_iff.1 h
          simp only [Prod.mk.injEq] at hx; obtain ⟨rfl, rfl⟩ := hx
          have ih := quoF_cut (d :: r') r m' t' h'
          have hm := (quoF_len _ _ _ h').1
          obtain ⟨k, rfl⟩ : ∃ k, m' = k + 1 := ⟨m' - 1, by omega⟩
          show quoF ((c :: d :: r').take (k + 1 + 1) ++ r) = _
          rw [List.take_succ_cons, List.take_succ_cons, List.cons_append, List.cons_append, quoF, if_neg h34, if_neg hr, if_neg h92]
          rw [List.take_succ_cons, List.cons_append] at ih
          rw [ih]; rfl

theorem first_cut {l : List UInt8} {t : Tok} (r : List UInt8) (h : firstF l = .tok t) (hr : r = [] ∨ r.head? = some 32 ∨ r.head? = (l.drop t.len).head?) : firstF (l.take t.len ++ r) = .tok t := by
  have hl := first_len h
  cases l with
  | nil => cases h
  | cons c l =>
    obtain ⟨k, hk⟩ : ∃ k, t.len = k + 1 := ⟨t.len - 1, by omega⟩
    rw [first_cons] at h
    have e0 : (c :: l).take t.len ++ r = c :: (l.take k ++ r) := by rw [hk, List.take_succ_cons, List.cons_append]
    split at h
    · rename_i hd
      obtain ⟨h1, _⟩ := numT_tok h
      rw [e0]; rw [first_cons]; rw [if_pos hd, ← e0, h1]
      rw [tw_cut digB (c :: l) r, h]
      rcases hr with hr | hr | hr
      · exact .inl hr
      · exact .inr (.inl ⟨32, hr, by decide⟩)
      · exact .inr (.inr (by rw [← h1]; exact hr))
    · rename_i hd
      split at h
      · rename_i hw
        obtain ⟨h1, _⟩ := wordT_tok h
        have h2 : t.len = ((c :: l).takeWhile alnB).length := by rw [h1]
        rw [e0]; rw [first_cons]; rw [if_neg hd, if_pos hw, ← e0, h2]
        rw [tw_cut alnB (c :: l) r, h]
        rcases hr with hr | hr | hr
        · exact .inl hr
        · exact .inr (.inl ⟨32, hr, by decide⟩)
        · exact .inr (.inr (by rw [← h2]; exact hr))
      · rename_i hw
        split at h
        · rename_i hq
          obtain ⟨m, u, h1, h2, rfl⟩ := quoT_tok h
          obtain rfl : m = k := by simp at hk; exact hk
          rw [e0]; rw [first_cons]; rw [if_neg hd, if_neg hw, if_pos hq]
          unfold quoT
          rw [quoF_cut l r _ _ h1]
          simp; omega
        · rename_i hq
          unfold sgnT at h
          split at h
          · rename_i h2
            injection h with h; subst h
            obtain rfl : 1 = k := by simp at hk; exact hk.symm
            rw [e0]; rw [first_cons]; rw [if_neg hd, if_neg hw, if_neg hq]
            unfold sgnT
            have e1 : (l.take 1 ++ r).head? = some 61 := by
              cases l with
              | nil => simp at h2
              | cons d l => simpa using h2.2
            rw [if_pos ⟨h2.1, e1⟩]
          · rename_i h2
            split at h
            · rename_i h3
              injection h with h; subst h
              obtain rfl : 0 = k := by simp at hk; exact hk.symm
              rw [e0]; rw [first_cons]; rw [if_neg hd, if_neg hw, if_neg hq]
              unfold sgnT
              rw [if_neg, if_pos h3]
              rintro ⟨g1, g2⟩
              refine h2 ⟨g1, ?_⟩
              simp at g2
              rcases hr with hr | hr | hr
              · subst hr; simp at g2
              · rw [hr] at g2; simp at g2
              · rw [hr] at g2; simpa using g2
            · cases h

/-! ### Fuel -/
theorem toks_fuel : ∀ (f g : Nat) (l : List UInt8) (p : Nat), l.length < f → l.length < g → toks f l p = toks g l p
  | 0, _, _, _, h, _ => absurd h (by omega)
  | _ + 1, 0, _, _, _, h => absurd h (by omega)
  | f + 1, g + 1, [], p, _, _ => by simp [toks]
  | f + 1, g + 1, c :: r, p, hf, hg => by
    simp only [List.length_cons] at hf hg
    unfold toks
    split
    · exact toks_fuel f g r (p + 1) (by omega) (by omega)
    · split
      · rfl
      · rename_i t ht
        have := first_len ht
        simp only [List.length_cons] at this
        rw [toks_fuel f g _ _ (by simp; omega) (by simp; omega)]

/-- The tokens of a text that stands at an offset. -/
def tokens (l : List UInt8) (p : Nat) : Res := toks (l.length + 1) l p
theorem tokens_nil (p : Nat) : tokens [] p = .ok [] := rfl
theorem tokens_space (r : List UInt8) (p : Nat) : tokens (32 :: r) p = tokens r (p + 1) := by
  unfold tokens; rw [List.length_cons, toks, if_pos rfl]
theorem tokens_bad {c : UInt8} {r : List UInt8} {p : Nat} {e : Int} (hc : c ≠ 32) (h : firstF (c :: r) = .bad e) : tokens (c :: r) p = .bad p e := by
  unfold tokens; rw [List.length_cons, toks, if_neg hc, h]
theorem tokens_tok {c : UInt8} {r : List UInt8} {p : Nat} {t : Tok} (hc : c ≠ 32) (h : firstF (c :: r) = .tok t) : tokens (c :: r) p = (tokens ((c :: r).drop t.len) (p + t.len)).cons (mk t p (c :: r)) := by
  have := first_len h
  simp only [List.length_cons] at this
  unfold tokens; rw [List.length_cons, toks, if_neg hc, h]
  simp only
  rw [toks_fuel (r.length + 1) (((c :: r).drop t.len).length + 1) _ _ (by simp; omega) (by omega)]
theorem lexR_of {l : List UInt8} (h : l.length ≤ 160) : lexR l = fin [] (tokens l 0) := by unfold lexR tokens; rw [if_neg (by omega)]
theorem lexR_long {l : List UInt8} (h : 160 < l.length) : lexR l = ([], 0, 1) := by unfold lexR; rw [if_pos h]

/-- Induction over the text of tokens. -/
theorem tokens_ind {M : List UInt8 → Nat → Res → Prop} (h0 : ∀ p, M [] p (.ok [])) (h1 : ∀ r p, M r (p + 1) (tokens r (p + 1)) → M (32 :: r) p (tokens r (p + 1)))
    (h2 : ∀ c r p e, c ≠ 32 → firstF (c :: r) = .bad e → M (c :: r) p (.bad p e))
    (h3 : ∀ c r p t, c ≠ 32 → firstF (c :: r) = .tok t → M ((c :: r).drop t.len) (p + t.len) (tokens ((c :: r).drop t.len) (p + t.len)) → M (c :: r) p ((tokens ((c :: r).drop t.len) (p + t.len)).cons (mk t p (c :: r)))) :
    ∀ (n : Nat) (l : List UInt8) (p : Nat), l.length ≤ n → M l p (tokens l p)
  | _, [], p, _ => h0 p
  | 0, c :: r, _, h => absurd h (by simp)
  | n + 1, c :: r, p, h => by
    simp only [List.length_cons] at h
    by_cases hc : c = 32
    · subst hc
      rw [tokens_space]
      exact h1 r p (tokens_ind h0 h1 h2 h3 n r (p + 1) (by omega))
    · cases ht : firstF (c :: r) with
      | bad e => rw [tokens_bad hc ht]; exact h2 c r p e hc ht
      | tok t =>
        rw [tokens_tok hc ht]
        have := first_len ht
        simp only [List.length_cons] at this
        exact h3 c r p t hc ht (tokens_ind h0 h1 h2 h3 n _ _ (by simp; omega))

/-! ### Properties -/
theorem few (l : List UInt8) (p : Nat) : ∀ ts, tokens l p = .ok ts → ts.length ≤ l.length := by
  refine tokens_ind (M := fun l _ r => ∀ ts, r = .ok ts → ts.length ≤ l.length) ?_ ?_ ?_ ?_ l.length l p (Nat.le_refl _)
  · intro p ts h; injection h with h; subst h; simp
  · intro r p ih ts h; have := ih ts h; simp; omega
  · intro c r p e _ _ ts h; cases h
  · intro c r p t hc ht ih ts h
    have hl := first_len ht
    cases hr : tokens ((c :: r).drop t.len) (p + t.len) with
    | bad q e => rw [hr] at h; cases h
    | ok us =>
      rw [hr] at h; injection h with h; subst h
      have := ih us hr
      simp only [List.length_cons, List.length_drop] at this hl ⊢
      omega

theorem cut_tok {c : UInt8} {r : List UInt8} {p : Nat} {t : Tok} (hc : c ≠ 32) (ht : firstF (c :: r) = .tok t) (u : List UInt8) (hu : u = [] ∨ u.head? = some 32 ∨ u.head? = ((c :: r).drop t.len).head?) :
    tokens ((c :: r).take t.len ++ u) p = (tokens u (p + t.len)).cons (mk t p (c :: r)) := by
  have hl := first_len ht
  simp only [List.length_cons] at hl
  have hc1 := first_cut u ht hu
  obtain ⟨j, hj⟩ : ∃ j, t.len = j + 1 := ⟨t.len - 1, by omega⟩
  have e2 : (c :: r).take t.len ++ u = c :: (r.take j ++ u) := by rw [hj, List.take_succ_cons, List.cons_append]
  have e3 : ((c :: r).take t.len).length = t.len := by rw [List.length_take, List.length_cons]; omega
  rw [e2, tokens_tok hc (by rw [← e2]; exact hc1), ← e2, List.drop_append_of_le_length (by omega), List.drop_eq_nil_of_le (by omega), List.nil_append]
  congr 1
  unfold mk
  rw [List.take_append_of_le_length (by omega), List.take_of_length_le (by omega)]

theorem wrong (l : List UInt8) (p : Nat) : ∀ q e, tokens l p = .bad q e → p ≤ q ∧ q < p + l.length ∧ (e = 1 ∨ e = 3 ∨ e = 7) ∧ ∃ ts, tokens (l.take (q - p)) p = .ok ts := by
  refine tokens_ind (M := fun l p r => ∀ q e, r = .bad q e → p ≤ q ∧ q < p + l.length ∧ (e = 1 ∨ e = 3 ∨ e = 7) ∧ ∃ ts, tokens (l.take (q - p)) p = .ok ts) ?_ ?_ ?_ ?_ l.length l p (Nat.le_refl _)
  · intro p q e h; cases h
  · intro r p ih q e h
    obtain ⟨h1, h2, h4, ts, h3⟩ := ih q e h
    refine ⟨by omega, by simp; omega, h4, ts, ?_⟩
    obtain ⟨k, rfl⟩ : ∃ k, q = p + 1 + k := ⟨q - (p + 1), by omega⟩
    rw [show p + 1 + k - p = k + 1 by omega, List.take_succ_cons, tokens_space]
    rw [show p + 1 + k - (p + 1) = k by omega] at h3
    exact h3
  · intro c r p e hc hb q e' h
    injection h with h h'
    subst h; subst h'
    refine ⟨Nat.le_refl _, by simp, ?_, [], by rw [Nat.sub_self]; rfl⟩
    rw [first_cons] at hb
    unfold numT wordT quoT sgnT at hb
    repeat' split at hb
    all_goals (first | (injection hb with hb; omega) | cases hb)
  · intro c r p t hc ht ih q e h
    have hl := first_len ht
    cases hr : tokens ((c :: r).drop t.len) (p + t.len) with
    | ok us => rw [hr] at h; cases h
    | bad q' e' =>
      rw [hr] at h
      injection h with h h'
      subst h; subst h'
      obtain ⟨h1, h2, h4, ts, h3⟩ := ih q' e' hr
      simp only [List.length_cons, List.length_drop] at h2 hl
      refine ⟨by omega, by simp; omega, h4, mk t p (c :: r) :: ts, ?_⟩
      obtain ⟨k, rfl⟩ : ∃ k, q' = p + t.len + k := ⟨q' - (p + t.len), by omega⟩
      have e1 : (c :: r).take (p + t.len + k - p) = (c :: r).take t.len ++ ((c :: r).drop t.len).take k := by
        rw [show p + t.len + k - p = t.len + k by omega, List.take_add]
      rw [show p + t.len + k - (p + t.len) = k by omega] at h3
      have hc1 := cut_tok (p := p) hc ht (((c :: r).drop t.len).take k) (by
        cases k with
        | zero => exact .inl (by simp)
        | succ k =>
          refine .inr (.inr ?_)
          cases (c :: r).drop t.len <;> simp)
      rw [e1, hc1, h3]; rfl

/-- A token without its offset. -/
def Tk.bare (x : Tk) : Int × List UInt8 × Int × Int × List UInt8 := (x.kind, x.s, x.vk, x.n, x.t)
def joined : List (List UInt8) → List UInt8
  | [] => []
  | [s] => s
  | s :: t :: r => s ++ 32 :: joined (t :: r)

theorem apart (l : List UInt8) (p : Nat) : ∀ ts, tokens l p = .ok ts → ∀ q, ∃ us, tokens (joined (ts.map Tk.s)) q = .ok us ∧ us.map Tk.bare = ts.map Tk.bare := by
  refine tokens_ind (M := fun l p r => ∀ ts, r = .ok ts → ∀ q, ∃ us, tokens (joined (ts.map Tk.s)) q = .ok us ∧ us.map Tk.bare = ts.map Tk.bare) ?_ ?_ ?_ ?_ l.length l p (Nat.le_refl _)
  · intro p ts h q; injection h with h; subst h; exact ⟨[], rfl, rfl⟩
  · intro r p ih ts h q; exact ih ts h q
  · intro c r p e _ _ ts h; cases h
  · intro c r p t hc ht ih ts h q
    cases hr : tokens ((c :: r).drop t.len) (p + t.len) with
    | bad q e => rw [hr] at h; cases h
    | ok ws =>
      rw [hr] at h; injection h with h; subst h
      cases ws with
      | nil =>
        refine ⟨[mk t q (c :: r)], ?_, rfl⟩
        have := cut_tok (p := q) hc ht [] (.inl rfl)
        rw [List.append_nil] at this
        show tokens ((c :: r).take t.len) q = _
        rw [this]; rfl
      | cons x ws =>
        obtain ⟨us, h1, h2⟩ := ih (x :: ws) hr (q + t.len + 1)
        refine ⟨mk t q (c :: r) :: us, ?_, ?_⟩
        · have := cut_tok (p := q) hc ht (32 :: joined ((x :: ws).map Tk.s)) (.inr (.inl rfl))
          rw [tokens_space, h1] at this
          show tokens ((c :: r).take t.len ++ 32 :: joined ((x :: ws).map Tk.s)) q = _
          rw [this]; rfl
        · rw [List.map_cons, List.map_cons, h2]; rfl

/-! ### Names -/
def nameB (l : List UInt8) : Bool := match l with | [] => false | c :: r => lowB c && r.all alnB
theorem tw_all (p : UInt8 → Bool) : ∀ l : List UInt8, l.all p = true → l.takeWhile p = l
  | [], _ => rfl
  | c :: l, h => by
    rw [List.all_cons, Bool.and_eq_true] at h
    rw [List.takeWhile_cons, if_pos h.1, tw_all p l h.2]
theorem name_tok {l : List UInt8} (h : nameB l = true) (hl : l.length ≤ 10) (p : Nat) : tokens l p = .ok [⟨2, p, l, 0, 0, []⟩] := by
  cases l with
  | nil => cases h
  | cons c r =>
    unfold nameB at h
    simp only [Bool.and_eq_true] at h
    obtain ⟨h1, h2⟩ := h
    have hd : digB c = false := by
      unfold lowB at h1; unfold digB
      simp only [Bool.and_eq_true, decide_eq_true_eq, Bool.and_eq_false_iff, decide_eq_false_iff_not] at h1 ⊢
      omega
    have hc : c ≠ 32 := fun e => by subst e; exact absurd h1 (by decide)
    have htw : (c :: r).takeWhile alnB = c :: r := tw_all alnB _ (by rw [List.all_cons, h2]; simp [alnB, h1])
    have hf : firstF (c :: r) = .tok ⟨2, (c :: r).length, 0, 0, []⟩ := by
      rw [first_cons]
      rw [if_neg (by simp [hd]), if_pos h1, htw]
      unfold wordT
      rw [if_neg (by omega)]
    rw [tokens_tok hc hf]
    show (tokens ((c :: r).drop (c :: r).length) _).cons (mk _ p (c :: r)) = _
    rw [List.drop_length, tokens_nil]
    show Res.ok [mk _ p (c :: r)] = _
    unfold mk
    simp

/-! ### Where the tokens stand -/
theorem covers (l : List UInt8) (p : Nat) (hp : p ≤ l.length) : ∀ ts, tokens (l.drop p) p = .ok ts →
    (ts = [] → (l.drop p).all (· == 32) = true) ∧
    (∀ x us, ts = x :: us → p ≤ x.pos ∧ x.s ≠ [] ∧ x.pos + x.s.length ≤ l.length ∧ (l.drop x.pos).take x.s.length = x.s ∧ ((l.drop p).take (x.pos - p)).all (· == 32) = true ∧ tokens (l.drop (x.pos + x.s.length)) (x.pos + x.s.length) = .ok us) := by
  obtain ⟨k, hk⟩ : ∃ k, l.length - p = k := ⟨_, rfl⟩
  induction k generalizing p with
  | zero =>
    intro ts h
    have e : l.drop p = [] := List.drop_eq_nil_of_le (by omega)
    rw [e] at h ⊢
    injection h with h; subst h
    exact ⟨fun _ => rfl, fun x us hx => by cases hx⟩
  | succ k ih =>
    intro ts h
    have hlt : p < l.length := by omega
    have e : l.drop p = l[p] :: l.drop (p + 1) := List.drop_eq_getElem_cons hlt
    by_cases hc : l[p] = 32
    · rw [e, hc, tokens_space] at h
      obtain ⟨h1, h2⟩ := ih (p + 1) (by omega) (by omega) ts h
      refine ⟨fun hn => by rw [e, List.all_cons, hc, h1 hn]; rfl, fun x us hx => ?_⟩
      obtain ⟨g1, g2, g3, g4, g5, g6⟩ := h2 x us hx
      refine ⟨by omega, g2, g3, g4, ?_, g6⟩
      rw [show x.pos - p = (x.pos - (p + 1)) + 1 by omega, e, List.take_succ_cons, List.all_cons, hc, g5]; rfl
    · cases ht : firstF (l[p] :: l.drop (p + 1)) with
      | bad q => rw [e, tokens_bad hc ht] at h; cases h
      | tok t =>
        rw [e, tokens_tok hc ht, ← e, List.drop_drop] at h
        have hl := first_len ht
        rw [← e, List.length_drop] at hl
        cases hr : tokens (l.drop (p + t.len)) (p + t.len) with
        | bad q e => rw [hr] at h; cases h
        | ok ws =>
          rw [hr] at h
          injection h with h
          subst h
          refine ⟨(fun hn => by cases hn), fun x us hx => ?_⟩
          injection hx with hx hu
          subst hx; subst hu
          have es : (mk t p (l.drop p)).s = (l.drop p).take t.len := rfl
          have el : (mk t p (l.drop p)).s.length = t.len := by rw [es, List.length_take, List.length_drop]; omega
          have ep : (mk t p (l.drop p)).pos = p := rfl
          refine ⟨Nat.le_refl _, fun g => by rw [g] at el; simp at el; omega, by rw [ep, el]; omega, by rw [ep, el, es], by rw [ep, Nat.sub_self]; rfl, by rw [ep, el]; exact hr⟩

/-! ### Keywords -/
def keyB (l : List UInt8) : Bool := decide (l = [97, 110, 100]) || decide (l = [111, 114]) || decide (l = [110, 111, 116]) || decide (l = [116, 114, 117, 101]) || decide (l = [102, 97, 108, 115, 101]) || decide (l = [105, 102]) || decide (l = [108, 101, 110])
theorem take_tw (p : UInt8 → Bool) : ∀ l : List UInt8, l.take (l.takeWhile p).length = l.takeWhile p
  | [] => rfl
  | c :: l => by
    rw [List.takeWhile_cons]
    split
    · rw [List.length_cons, List.take_succ_cons, take_tw p l]
    · rfl
theorem tw_id (p : UInt8 → Bool) : ∀ l : List UInt8, l.takeWhile p = l ↔ l.all p = true
  | [] => by simp
  | c :: l => by
    rw [List.takeWhile_cons, List.all_cons]
    by_cases h : p c = true
    · rw [if_pos h, h, Bool.true_and, ← tw_id p l]; simp
    · rw [if_neg h]; simp [h]
end Go.Proofs.Ytonlkmkfcaadlaa.LexM
namespace Go.Proofs.Ytonlkmkfcaadlaa.ExM
open ValM LexM

/-- A node's own data. -/
structure Nd where
  op : Int
  k : Int
  n : Int
  s : ByteArray
  nm : ByteArray

inductive Ex where
  | mk (d : Nd) (args : List Ex)

def Ex.d : Ex → Nd | .mk d _ => d
def Ex.args : Ex → List Ex | .mk _ l => l

theorem Ex.ind {P : Ex → Prop} (h : ∀ d l, (∀ x ∈ l, P x) → P (.mk d l)) : ∀ x, P x
  | .mk d l => h d l (go l)
where go : ∀ l : List Ex, ∀ x ∈ l, P x
  | [], _, hx => absurd hx (by simp)
  | y :: r, x, hx => by
    rcases List.mem_cons.1 hx with e | hx
    · rw [e]; exact Ex.ind h y
    · exact go r x hx

mutual
def Ex.nodes : Ex → Nat | .mk _ l => 1 + nodesL l
def nodesL : List Ex → Nat | [] => 0 | x :: l => x.nodes + nodesL l
end
mutual
def Ex.depth : Ex → Nat | .mk _ l => depthL l + 1
def depthL : List Ex → Nat | [] => 0 | x :: l => max x.depth (depthL l)
end
mutual
def Ex.pre : Ex → List (Nd × Nat) | .mk d l => (d, l.length) :: preL l
def preL : List Ex → List (Nd × Nat) | [] => [] | x :: l => x.pre ++ preL l
end

theorem nodes_mk (d : Nd) (l : List Ex) : (Ex.mk d l).nodes = 1 + nodesL l := by simp [Ex.nodes]
theorem depth_mk (d : Nd) (l : List Ex) : (Ex.mk d l).depth = depthL l + 1 := by simp [Ex.depth]
theorem pre_mk (d : Nd) (l : List Ex) : (Ex.mk d l).pre = (d, l.length) :: preL l := by simp [Ex.pre]
theorem nodesL_nil : nodesL [] = 0 := by simp [nodesL]
theorem depthL_nil : depthL [] = 0 := by simp [depthL]
theorem preL_nil : preL [] = [] := by simp [preL]
theorem nodesL_cons (x : Ex) (l : List Ex) : nodesL (x :: l) = x.nodes + nodesL l := by simp [nodesL]
theorem depthL_cons (x : Ex) (l : List Ex) : depthL (x :: l) = max x.depth (depthL l) := by simp [depthL]
theorem preL_cons (x : Ex) (l : List Ex) : preL (x :: l) = x.pre ++ preL l := by simp [preL]
theorem nodesL_append (l m : List Ex) : nodesL (l ++ m) = nodesL l + nodesL m := by
  induction l with
  | nil => simp [nodesL_nil]
  | cons x l ih => rw [List.cons_append, nodesL_cons, nodesL_cons, ih]; omega
theorem depthL_append (l m : List Ex) : depthL (l ++ m) = max (depthL l) (depthL m) := by
  induction l with
  | nil => simp [depthL_nil]
  | cons x l ih => rw [List.cons_append, depthL_cons, depthL_cons, ih]; omega
theorem preL_append (l m : List Ex) : preL (l ++ m) = preL l ++ preL m := by
  induction l with
  | nil => simp [preL_nil]
  | cons x l ih => rw [List.cons_append, preL_cons, preL_cons, ih, List.append_assoc]
theorem nodesL_snoc (l : List Ex) (x : Ex) : nodesL (l ++ [x]) = nodesL l + x.nodes := by rw [nodesL_append, nodesL_cons, nodesL_nil]; omega
theorem depthL_snoc (l : List Ex) (x : Ex) : depthL (l ++ [x]) = max (depthL l) x.depth := by rw [depthL_append, depthL_cons, depthL_nil]; omega
theorem nodes_pos (x : Ex) : 1 ≤ x.nodes := by cases x; rw [nodes_mk]; omega
theorem depth_pos (x : Ex) : 1 ≤ x.depth := by cases x; rw [depth_mk]; omega
theorem nodesL_take (l : List Ex) (i : Nat) : nodesL (l.take i) ≤ nodesL l := by
  have h := nodesL_append (l.take i) (l.drop i)
  rw [List.take_append_drop] at h; omega
theorem depthL_take (l : List Ex) (i : Nat) : depthL (l.take i) ≤ depthL l := by
  have h := depthL_append (l.take i) (l.drop i)
  rw [List.take_append_drop] at h; omega
theorem take_at {α : Type} (l : List α) (i : Nat) (h : i < l.length) : l.take (i + 1) = l.take i ++ [l[i]] := by
  rw [List.take_succ_eq_append_getElem h]
theorem nodesL_at (l : List Ex) (i : Nat) (h : i < l.length) : nodesL (l.take (i + 1)) = nodesL (l.take i) + l[i].nodes := by rw [take_at l i h, nodesL_snoc]
theorem depthL_at (l : List Ex) (i : Nat) (h : i < l.length) : depthL (l.take (i + 1)) = max (depthL (l.take i)) l[i].depth := by rw [take_at l i h, depthL_snoc]
theorem preL_at (l : List Ex) (i : Nat) (h : i < l.length) : preL (l.take (i + 1)) = preL (l.take i) ++ l[i].pre := by rw [take_at l i h, preL_append, preL_cons, preL_nil, List.append_nil]
theorem nodes_mem {l : List Ex} {x : Ex} (h : x ∈ l) : x.nodes ≤ nodesL l := by
  induction l with
  | nil => simp at h
  | cons y l ih =>
    rw [nodesL_cons]
    rcases List.mem_cons.1 h with e | h
    · rw [e]; omega
    · have := ih h; omega
theorem depth_mem {l : List Ex} {x : Ex} (h : x ∈ l) : x.depth ≤ depthL l := by
  induction l with
  | nil => simp at h
  | cons y l ih =>
    rw [depthL_cons]
    rcases List.mem_cons.1 h with e | h
    · rw [e]; omega
    · have := ih h; omega
theorem len_nodesL (l : List Ex) : l.length ≤ nodesL l := by
  induction l with
  | nil => simp
  | cons x l ih => rw [nodesL_cons, List.length_cons]; have := nodes_pos x; omega
theorem depth_le_nodes : ∀ x : Ex, x.depth ≤ x.nodes := by
  refine Ex.ind fun d l ih => ?_
  rw [depth_mk, nodes_mk]
  have : depthL l ≤ nodesL l := by
    clear d
    induction l with
    | nil => simp [depthL_nil]
    | cons x l ihl =>
      rw [depthL_cons, nodesL_cons]
      have h1 := ih x (by simp)
      have h2 := ihl fun y hy => ih y (by simp [hy])
      omega
  omega
theorem pre_len : ∀ x : Ex, x.pre.length = x.nodes := by
  refine Ex.ind fun d l ih => ?_
  rw [pre_mk, nodes_mk, List.length_cons]
  have : (preL l).length = nodesL l := by
    clear d
    induction l with
    | nil => simp [preL_nil, nodesL_nil]
    | cons x l ihl => rw [preL_cons, nodesL_cons, List.length_append, ih x (by simp), ihl fun y hy => ih y (by simp [hy])]
  omega
theorem preL_len (l : List Ex) : (preL l).length = nodesL l := by
  induction l with
  | nil => simp [preL_nil, nodesL_nil]
  | cons x l ihl => rw [preL_cons, nodesL_cons, List.length_append, pre_len, ihl]

/-! ### The error of a formula -/
def arity (op : Int) : Nat := if op = 1 ∨ op = 2 then 0 else if op = 3 ∨ op = 4 ∨ op = 18 then 1 else if op = 17 then 3 else 2
def nmB (l : List UInt8) : Bool := !l.isEmpty && decide (l.length ≤ 10) && nameB l && !keyB l
/-- It has the value that its operator asks for. -/
def vOk (d : Nd) : Bool := if d.op = 1 then knownB d.k d.n d.s.data.toList && !(decide (d.k = 1) && decide (d.n < 0)) else decide (d.k = 0) && decide (d.n = 0) && d.s.data.toList.isEmpty
/-- It has the name that its operator asks for. -/
def nmOk (d : Nd) : Bool := if d.op = 2 then nmB d.nm.data.toList else d.nm.data.toList.isEmpty
def nodeE (d : Nd) (m : Nat) : Int := if d.op < 1 ∨ 18 < d.op then 2 else if m = arity d.op ∧ vOk d = true ∧ nmOk d = true then 0 else 3
def firstE : List (Nd × Nat) → Int
  | [] => 0
  | (d, m) :: l => if nodeE d m = 0 then firstE l else nodeE d m
def Ex.checkE (x : Ex) : Int := if 60 < x.nodes then 1 else if 12 < x.depth then 4 else firstE x.pre
theorem firstE_cons (d : Nd) (m : Nat) (l : List (Nd × Nat)) : firstE ((d, m) :: l) = if nodeE d m = 0 then firstE l else nodeE d m := rfl
theorem firstE_append (l m : List (Nd × Nat)) : firstE (l ++ m) = if firstE l = 0 then firstE m else firstE l := by
  induction l with
  | nil => simp [firstE]
  | cons x l ih =>
    obtain ⟨d, j⟩ := x
    rw [List.cons_append, firstE_cons, firstE_cons, ih]
    by_cases h : nodeE d j = 0
    · rw [if_pos h, if_pos h]
    · rw [if_neg h, if_neg h, if_neg h]
theorem firstE_mk (d : Nd) (l : List Ex) : firstE (Ex.mk d l).pre = if nodeE d l.length = 0 then firstE (preL l) else nodeE d l.length := by rw [pre_mk, firstE_cons]
theorem firstE_zero (l : List (Nd × Nat)) : firstE l = 0 ↔ ∀ x ∈ l, nodeE x.1 x.2 = 0 := by
  induction l with
  | nil => simp [firstE]
  | cons x l ih =>
    obtain ⟨d, j⟩ := x
    rw [firstE_cons]
    by_cases h : nodeE d j = 0
    · rw [if_pos h, ih]; simp [h]
    · rw [if_neg h]; simp [h]
/-- Each node is right. -/
def Ex.okN (x : Ex) : Prop := firstE x.pre = 0
theorem okN_mk (d : Nd) (l : List Ex) : (Ex.mk d l).okN ↔ nodeE d l.length = 0 ∧ ∀ x ∈ l, x.okN := by
  unfold Ex.okN
  rw [firstE_mk]
  by_cases h : nodeE d l.length = 0
  · rw [if_pos h]
    simp only [h, true_and]
    induction l generalizing d with
    | nil => simp [preL_nil, firstE]
    | cons x l ih =>
      rw [preL_cons, firstE_append]
      by_cases hx : firstE x.pre = 0
      · rw [if_pos hx]
        have : firstE (preL l) = 0 ↔ ∀ y ∈ l, firstE y.pre = 0 := by
          clear ih h
          induction l with
          | nil => simp [preL_nil, firstE]
          | cons z l ihl =>
            rw [preL_cons, firstE_append]
            by_cases hz : firstE z.pre = 0
            · rw [if_pos hz, ihl]; simp [hz]
            · rw [if_neg hz]; simp [hz]
        rw [this]; simp [hx]
      · rw [if_neg hx]; simp [hx]
  · rw [if_neg h]; simp [h]
theorem checkE_ok {x : Ex} (h1 : x.nodes ≤ 60) (h2 : x.depth ≤ 12) : x.checkE = firstE x.pre := by
  unfold Ex.checkE; rw [if_neg (by omega), if_neg (by omega)]
theorem checkE_zero {x : Ex} (h : x.checkE = 0) : x.nodes ≤ 60 ∧ x.depth ≤ 12 ∧ x.okN := by
  unfold Ex.checkE at h
  by_cases h1 : 60 < x.nodes
  · rw [if_pos h1] at h; exact absurd h (by decide)
  · rw [if_neg h1] at h
    by_cases h2 : 12 < x.depth
    · rw [if_pos h2] at h; exact absurd h (by decide)
    · rw [if_neg h2] at h; exact ⟨by omega, by omega, h⟩
end Go.Proofs.Ytonlkmkfcaadlaa.ExM
