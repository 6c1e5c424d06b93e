/- Plain mathematics: the order of byte strings. No program is named here. -/
import GoSem.Claim
import Derived.Lib.Bytealg
import Derived.Lib.Small
namespace Go.Proofs.YtehkebncdahmcaaGreatDoor.StrM
open Go.Lib

theorem cmp_cases : ∀ (l m : List UInt8), compareBytes l m = -1 ∨ compareBytes l m = 0 ∨ compareBytes l m = 1
  | [], [] => .inr (.inl rfl)
  | [], _ :: _ => .inl rfl
  | _ :: _, [] => .inr (.inr rfl)
  | a :: l, b :: m => by
    unfold compareBytes
    by_cases h : a < b
    · rw [if_pos h]; exact .inl rfl
    · rw [if_neg h]
      by_cases g : b < a
      · rw [if_pos g]; exact .inr (.inr rfl)
      · rw [if_neg g]; exact cmp_cases l m

theorem cmp_less : ∀ (l m : List UInt8), Op.bytesLess l m = decide (compareBytes l m = -1)
  | [], [] => by simp [Op.bytesLess, compareBytes]
  | [], _ :: _ => by simp [Op.bytesLess, compareBytes]
  | _ :: _, [] => by simp [Op.bytesLess, compareBytes]
  | a :: l, b :: m => by
    unfold compareBytes Op.bytesLess
    by_cases h : a < b
    · simp [h]
    · by_cases g : b < a
      · have hne : (a == b) = false := by
          rw [beq_eq_false_iff_ne]; rintro rfl; exact h g
        simp [h, g, hne]
      · have he : a = b := by
          apply UInt8.toNat_inj.1
          have h1 : ¬ a.toNat < b.toNat := fun x => h (UInt8.lt_iff_toNat_lt.2 x)
          have h2 : ¬ b.toNat < a.toNat := fun x => g (UInt8.lt_iff_toNat_lt.2 x)
          omega
        subst he
        rw [cmp_less l m]; simp [h]

theorem cmp_zero : ∀ (l m : List UInt8), compareBytes l m = 0 ↔ l = m
  | [], [] => by simp [compareBytes]
  | [], _ :: _ => by simp [compareBytes]
  | _ :: _, [] => by simp [compareBytes]
  | a :: l, b :: m => by
    unfold compareBytes
    by_cases h : a < b
    · rw [if_pos h]
      constructor
      · intro e; omega
      · intro e; injection e with e _; subst e; exact absurd (UInt8.lt_iff_toNat_lt.1 h) (by omega)
    · rw [if_neg h]
      by_cases g : b < a
      · rw [if_pos g]
        constructor
        · intro e; omega
        · intro e; injection e with e _; subst e; exact absurd (UInt8.lt_iff_toNat_lt.1 g) (by omega)
      · have he : a = b := by
          apply UInt8.toNat_inj.1
          have h1 : ¬ a.toNat < b.toNat := fun x => h (UInt8.lt_iff_toNat_lt.2 x)
          have h2 : ¬ b.toNat < a.toNat := fun x => g (UInt8.lt_iff_toNat_lt.2 x)
          omega
        subst he
        rw [if_neg g, cmp_zero l m]; simp

theorem cmp_swap : ∀ (l m : List UInt8), compareBytes m l = - compareBytes l m
  | [], [] => by simp [compareBytes]
  | [], _ :: _ => by simp [compareBytes]
  | _ :: _, [] => by simp [compareBytes]
  | a :: l, b :: m => by
    unfold compareBytes
    by_cases h : a < b
    · have g : ¬ b < a := fun g => by have := UInt8.lt_iff_toNat_lt.1 h; have := UInt8.lt_iff_toNat_lt.1 g; omega
      rw [if_neg g, if_pos h, if_pos h]; rfl
    · by_cases g : b < a
      · rw [if_pos g, if_neg h, if_pos g]
      · rw [if_neg g, if_neg h, if_neg h, if_neg g]; exact cmp_swap l m

theorem cmp_trans : ∀ (l m n : List UInt8), compareBytes l m ≤ 0 → compareBytes m n ≤ 0 → compareBytes l n ≤ 0
  | [], _, [], _, _ => by simp [compareBytes]
  | [], _, _ :: _, _, _ => by simp [compareBytes]
  | _ :: _, [], _, h, _ => by simp [compareBytes] at h
  | _ :: _, _ :: _, [], _, h => by simp [compareBytes] at h
  | a :: l, b :: m, c :: n, h1, h2 => by
    unfold compareBytes at h1 h2 ⊢
    by_cases x : a < c
    · rw [if_pos x]; omega
    · rw [if_neg x]
      have hx : ¬ a.toNat < c.toNat := fun y => x (UInt8.lt_iff_toNat_lt.2 y)
      have hab : ¬ b < a := fun g => by
        have g' := UInt8.lt_iff_toNat_lt.1 g
        have : ¬ a < b := fun y => by have := UInt8.lt_iff_toNat_lt.1 y; omega
        rw [if_neg this, if_pos g] at h1; omega
      have hbc : ¬ c < b := fun g => by
        have g' := UInt8.lt_iff_toNat_lt.1 g
        have : ¬ b < c := fun y => by have := UInt8.lt_iff_toNat_lt.1 y; omega
        rw [if_neg this, if_pos g] at h2; omega
      have h3 : ¬ b.toNat < a.toNat := fun y => hab (UInt8.lt_iff_toNat_lt.2 y)
      have h4 : ¬ c.toNat < b.toNat := fun y => hbc (UInt8.lt_iff_toNat_lt.2 y)
      have e1 : a = b := UInt8.toNat_inj.1 (by omega)
      have e2 : b = c := UInt8.toNat_inj.1 (by omega)
      subst e1; subst e2
      rw [if_neg hab]
      rw [if_neg hab, if_neg hab] at h1 h2
      exact cmp_trans l m n h1 h2

theorem int_cases (x y : Int) : (x < y ∧ compareInt x y = -1) ∨ (x = y ∧ compareInt x y = 0) ∨ (y < x ∧ compareInt x y = 1) := by
  unfold compareInt
  by_cases h : x < y
  · rw [if_pos h]; omega
  · rw [if_neg h]
    by_cases g : y < x
    · rw [if_pos g]; omega
    · rw [if_neg g]; omega
end Go.Proofs.YtehkebncdahmcaaGreatDoor.StrM
