/- Plain mathematics: which value is shown as a string (P2.4). No program is named here. -/
import GoSem.Claim
import Derived.Test.YtjjchbafobcofaaGreatDoorShowMath
import Derived.Test.YtjjchbafobcofaaGreatDoorBase
import Derived.Lib.AtoiAll
import Derived.Lib.AtoiTie
import Derived.Lib.ItoaMem
namespace Go.Proofs.YtjjchbafobcofaaGreatDoor.ParseM
open ValM ShowM NumM

/-- What stands between the double quotes, read on behind the first one. -/
def unq : List UInt8 → List UInt8
  | [] => []
  | [c] => if c = 34 then [] else [c]
  | c :: d :: r => if c = 34 then [] else if c = 92 then d :: unq r else c :: unq (d :: r)

theorem unq_esc : ∀ l : List UInt8, unq (escL l ++ [34]) = l
  | [] => rfl
  | c :: l => by
    have e : escL (c :: l) = (if c = 34 ∨ c = 92 then [92, c] else [c]) ++ escL l := by unfold escL; rw [List.flatMap_cons]
    rw [e]
    by_cases h : c = 34 ∨ c = 92
    · rw [if_pos h]
      show unq (92 :: c :: (escL l ++ [34])) = c :: l
      rw [unq, if_neg (by decide), if_pos rfl, unq_esc l]
    · rw [if_neg h]
      have h1 : c ≠ 34 := fun g => h (.inl g)
      have h2 : c ≠ 92 := fun g => h (.inr g)
      obtain ⟨d, r, hd⟩ : ∃ d r, escL l ++ [34] = d :: r := by
        cases hh : escL l ++ [34] with
        | nil => simp at hh
        | cons d r => exact ⟨d, r, rfl⟩
      show unq (c :: (escL l ++ [34])) = c :: l
      rw [hd, unq, if_neg h1, if_neg h2, ← hd, unq_esc l]

theorem unq_len : ∀ l : List UInt8, (unq l).length ≤ l.length
  | [] => Nat.le_refl _
  | [c] => by unfold unq; split <;> simp
  | c :: d :: r => by
    unfold unq
    by_cases h1 : c = 34
    · rw [if_pos h1]; simp
    · rw [if_neg h1]
      by_cases h2 : c = 92
      · rw [if_pos h2]; have := unq_len r; simp only [List.length_cons]; omega
      · rw [if_neg h2]; have := unq_len (d :: r); simp only [List.length_cons] at *; omega

theorem drop_cons (s : ByteArray) (k : Nat) (h : k < s.size) : s.data.toList.drop k = s[k] :: s.data.toList.drop (k + 1) := by
  rw [List.drop_eq_getElem_cons (show k < s.data.toList.length by rw [len_size]; exact h)]; rfl
theorem unq_step1 (s : ByteArray) (k : Nat) (h : k < s.size) (h1 : s[k] ≠ 34) (h2 : ¬ (s[k] = 92 ∧ k + 1 < s.size)) : unq (s.data.toList.drop k) = s[k] :: unq (s.data.toList.drop (k + 1)) := by
  rw [drop_cons s k h]
  by_cases g : k + 1 < s.size
  · rw [drop_cons s (k + 1) g, unq, if_neg h1, if_neg (fun e => h2 ⟨e, g⟩)]
  · rw [List.drop_eq_nil_of_le (by rw [len_size]; omega), show unq ([] : List UInt8) = [] from rfl]
    unfold unq; rw [if_neg h1]
theorem unq_step2 (s : ByteArray) (k : Nat) (h : k + 1 < s.size) (h1 : s[k] = 92) : unq (s.data.toList.drop k) = s[k + 1] :: unq (s.data.toList.drop (k + 2)) := by
  rw [drop_cons s k (by omega), drop_cons s (k + 1) h, unq, if_neg (by rw [h1]; decide), if_pos h1]
theorem unq_stop (s : ByteArray) (k : Nat) (h : s.size ≤ k) : unq (s.data.toList.drop k) = [] := by
  rw [List.drop_eq_nil_of_le (by rw [len_size]; omega)]; rfl
theorem unq_quote (s : ByteArray) (k : Nat) (h : k < s.size) (h1 : s[k] = 34) : unq (s.data.toList.drop k) = [] := by
  rw [drop_cons s k h]
  cases hd : s.data.toList.drop (k + 1) with
  | nil => rw [unq, if_pos h1]
  | cons d r => rw [unq, if_pos h1]

/-! ### numerals -/
theorem decFrom_append : ∀ (l m : List UInt8) (acc n : Nat), Lib.decFrom acc l = some n → Lib.decFrom acc (l ++ m) = Lib.decFrom n m
  | [], m, acc, n, h => by
    simp only [Lib.decFrom, Option.some.injEq] at h
    subst h; rfl
  | c :: l, m, acc, n, h => by
    rw [List.cons_append]
    change (match Lib.digitVal c with | some d => Lib.decFrom (acc * 10 + d) l | none => none) = some n at h
    show (match Lib.digitVal c with | some d => Lib.decFrom (acc * 10 + d) (l ++ m) | none => none) = Lib.decFrom n m
    cases hd : Lib.digitVal c with
    | none => rw [hd] at h; simp at h
    | some d =>
      rw [hd] at h
      exact decFrom_append l m _ n h

theorem digit_of (d : Nat) (h : d < 10) : Lib.digitVal (UInt8.ofNat (48 + d)) = some d := by
  have : ∀ d : Fin 10, Lib.digitVal (UInt8.ofNat (48 + d.val)) = some d.val := by decide
  exact this ⟨d, h⟩

theorem decFrom_dec (u : Nat) : Lib.decFrom 0 (Lib.decDigits u) = some u := by
  induction u using Nat.strongRecOn with
  | _ u ih =>
    by_cases h : u < 10
    · rw [Lib.decDigits_one h]
      unfold Lib.decFrom
      rw [digit_of u h]
      simp [Lib.decFrom]
    · rw [Lib.decDigits, dif_neg h, decFrom_append _ _ _ _ (ih (u / 10) (by omega))]
      unfold Lib.decFrom
      rw [digit_of _ (by omega)]
      simp [Lib.decFrom]
      omega

theorem dec_ne (u : Nat) : Lib.decDigits u ≠ [] := fun h => by
  have := Lib.decDigits_length u
  rw [h] at this
  have := Lib.nDigits_pos u
  simp at *
  omega

theorem decNat_dec (u : Nat) : Lib.decNat (Lib.decDigits u) = some u := by
  have h := decFrom_dec u
  unfold Lib.decNat
  cases hd : Lib.decDigits u with
  | nil => exact absurd hd (dec_ne u)
  | cons c r => rw [hd] at h; simpa using h

/-- The first sign of a numeral. -/
theorem dec_head (u : Nat) : ∃ c r, Lib.decDigits u = c :: r ∧ 48 ≤ c.toNat ∧ c.toNat ≤ 57 := by
  cases hd : Lib.decDigits u with
  | nil => exact absurd hd (dec_ne u)
  | cons c r =>
    refine ⟨c, r, rfl, ?_⟩
    have h := decFrom_dec u
    obtain ⟨d, hdg⟩ := Lib.digit_of_decFrom _ _ _ h 0 c (by rw [hd]; rfl)
    have := Lib.digitVal_eq hdg
    exact ⟨this.1, this.2.1⟩

theorem atoi_itoa (n : Int) : Lib.atoi (Lib.itoa n) = some n := by
  by_cases h : n < 0
  · have e : Lib.itoa n = 45 :: Lib.decDigits n.natAbs := by unfold Lib.itoa; rw [if_pos h]
    rw [e]
    unfold Lib.atoi
    simp [decNat_dec]
    omega
  · have e : Lib.itoa n = Lib.decDigits n.toNat := by unfold Lib.itoa; rw [if_neg h]
    rw [e]
    obtain ⟨c, r, hc, h1, h2⟩ := dec_head n.toNat
    have hd := decNat_dec n.toNat
    rw [hc] at hd ⊢
    show (if (c == 45) = true then Option.map (fun (m : Nat) => -(m : Int)) (Lib.decNat r) else if (c == 43) = true then Option.map (fun (m : Nat) => (m : Int)) (Lib.decNat r) else Option.map (fun (m : Nat) => (m : Int)) (Lib.decNat (c :: r))) = some n
    have e1 : (c == 45) = false := by rw [beq_eq_false_iff_ne]; rintro rfl; simp at h1
    have e2 : (c == 43) = false := by rw [beq_eq_false_iff_ne]; rintro rfl; simp at h1
    rw [e1, e2]
    simp only [Bool.false_eq_true, if_false]
    rw [hd]
    simp
    omega

theorem itoa_short (n : Int) (h1 : -1099511627776 ≤ n) (h2 : n ≤ 1099511627776) : (Lib.itoa n).length ≤ 18 := by
  have hd : ∀ u : Nat, u ≤ 1099511627776 → (Lib.decDigits u).length ≤ 13 := fun u hu => by
    rw [Lib.decDigits_length]
    by_cases g : Lib.nDigits u ≤ 13
    · exact g
    · exfalso
      have hp : ∀ k u : Nat, Lib.nDigits u = k + 1 → 10 ^ k ≤ u ∨ k = 0 := by
        intro k
        induction k with
        | zero => intro u _; exact .inr rfl
        | succ k ih =>
          intro u hn
          left
          by_cases hu : u < 10
          · rw [Lib.nDigits_small hu] at hn; omega
          · rw [Lib.nDigits_big hu] at hn
            rcases ih (u / 10) (by omega) with g | g
            · rw [Nat.pow_succ]; omega
            · subst g; omega
      obtain ⟨k, hk⟩ : ∃ k, Lib.nDigits u = k + 1 := ⟨Lib.nDigits u - 1, by have := Lib.nDigits_pos u; omega⟩
      rcases hp k u hk with g1 | g1
      · have : 10 ^ 13 ≤ 10 ^ k := Nat.pow_le_pow_right (by decide) (by omega)
        omega
      · omega
  unfold Lib.itoa
  by_cases h : n < 0
  · rw [if_pos h, List.length_cons]; have := hd n.natAbs (by omega); omega
  · rw [if_neg h]; have := hd n.toNat (by omega); omega

theorem atoiAll_itoa (n : Int) (h1 : -1099511627776 ≤ n) (h2 : n ≤ 1099511627776) : Lib.atoiAll (Lib.itoa n) = .ok n := by
  rw [Lib.atoiAll_short _ (itoa_short n h1 h2), atoi_itoa]; rfl

/-! ### the only value that could be shown so -/
def numF (k : Int) (l : List UInt8) : Option (Int × Int × List UInt8) := match Lib.atoiAll l with | .ok n => some (k, n, []) | _ => none
def trueL : List UInt8 := [116, 114, 117, 101]
def falseL : List UInt8 := [102, 97, 108, 115, 101]
def candF (l : List UInt8) : Option (Int × Int × List UInt8) :=
  if l = trueL then some (2, 1, []) else if l = falseL then some (2, 0, []) else if l = [63] then some (4, 0, [])
  else if l.head? = some 34 then some (3, 0, unq l.tail) else if l.head? = some 33 then numF 5 l.tail else numF 1 l

theorem itoa_head (n : Int) : ∃ c r, Lib.itoa n = c :: r ∧ (c = 45 ∨ (48 ≤ c.toNat ∧ c.toNat ≤ 57)) := by
  unfold Lib.itoa
  by_cases h : n < 0
  · rw [if_pos h]; exact ⟨_, _, rfl, .inl rfl⟩
  · rw [if_neg h]; obtain ⟨c, r, hc, h1⟩ := dec_head n.toNat; exact ⟨c, r, hc, .inr h1⟩
theorem head_ne {c d : UInt8} (h : c = 45 ∨ (48 ≤ c.toNat ∧ c.toNat ≤ 57)) (hd : d = 116 ∨ d = 102 ∨ d = 63 ∨ d = 34 ∨ d = 33) : c ≠ d := by
  rintro rfl
  rcases h with h | ⟨h1, h2⟩
  · subst h; revert hd; decide
  · rcases hd with rfl | rfl | rfl | rfl | rfl <;> simp at h1 h2

theorem cand_num {c : UInt8} {r : List UInt8} (h : c = 45 ∨ (48 ≤ c.toNat ∧ c.toNat ≤ 57)) : candF (c :: r) = numF 1 (c :: r) := by
  have h1 := head_ne (d := 116) h (by decide)
  have h2 := head_ne (d := 102) h (by decide)
  have h3 := head_ne (d := 63) h (by decide)
  have h4 := head_ne (d := 34) h (by decide)
  have h5 := head_ne (d := 33) h (by decide)
  unfold candF trueL falseL
  rw [if_neg (by intro e; injection e with e _; exact h1 e), if_neg (by intro e; injection e with e _; exact h2 e), if_neg (by intro e; injection e with e _; exact h3 e),
    if_neg (by simpa using h4), if_neg (by simpa using h5)]

/-- What is shown is read again. -/
theorem cand_show {k n : Int} {l : List UInt8} (h1 : numE k n = 0) (h2 : strE k l = 0) : candF (showL k n l) = some (k, n, l) := by
  have hl : k ≠ 3 → l = [] := fun hk => by
    rw [strE_other hk] at h2
    by_cases e : l = []
    · exact e
    · rw [if_neg e] at h2; omega
  unfold numE at h1
  by_cases k1 : k = 1
  · subst k1
    rw [hl (by decide)]
    rw [if_pos rfl] at h1
    have ho : okN n = true := by by_cases g : okN n = true; exact g; rw [if_neg g] at h1; omega
    obtain ⟨b1, b2⟩ := okN_iff.1 ho
    have e : showL 1 n [] = Lib.itoa n := by simp [showL]
    rw [e]
    obtain ⟨c, r, hc, hh⟩ := itoa_head n
    rw [hc, cand_num hh, ← hc]
    unfold numF
    rw [atoiAll_itoa n b1 b2]
  · rw [if_neg k1] at h1
    by_cases k2 : k = 2
    · subst k2
      rw [hl (by decide)]
      rw [if_pos rfl] at h1
      have hn : n = 0 ∨ n = 1 := by
        by_cases g : 0 ≤ n ∧ n ≤ 1
        · omega
        · rw [if_neg g] at h1; omega
      rcases hn with rfl | rfl
      · decide
      · decide
    · rw [if_neg k2] at h1
      by_cases k3 : k = 3 ∨ k = 4
      · rw [if_pos k3] at h1
        have hn : n = 0 := by by_cases g : n = 0; exact g; rw [if_neg g] at h1; omega
        subst hn
        rcases k3 with rfl | rfl
        · have e : showL 3 0 l = 34 :: (escL l ++ [34]) := by simp [showL, quoteL]
          rw [e]
          unfold candF
          rw [if_neg (by intro e; injection e with e _; revert e; decide), if_neg (by intro e; injection e with e _; revert e; decide), if_neg (by intro e; injection e with e _; revert e; decide), if_pos (show (34 :: (escL l ++ [34])).head? = some 34 from rfl)]
          simp [unq_esc]
        · rw [hl (by decide)]; decide
      · rw [if_neg k3] at h1
        by_cases k5 : k = 5
        · subst k5
          rw [hl (by decide)]
          rw [if_pos rfl] at h1
          have hn : 1 ≤ n ∧ n ≤ 15 := by
            by_cases g : 1 ≤ n ∧ n ≤ 15
            · exact g
            · rw [if_neg g] at h1; omega
          have e : showL 5 n [] = 33 :: Lib.itoa n := by simp [showL]
          rw [e]
          unfold candF
          rw [if_neg (by intro e; injection e with e _; revert e; decide), if_neg (by intro e; injection e with e _; revert e; decide), if_neg (by intro e; injection e with e _; revert e; decide), if_neg (by simp), if_pos (show (33 :: Lib.itoa n).head? = some 33 from rfl)]
          unfold numF
          rw [List.tail_cons, atoiAll_itoa n (by omega) (by omega)]
        · rw [if_neg k5] at h1; omega
end Go.Proofs.YtjjchbafobcofaaGreatDoor.ParseM
