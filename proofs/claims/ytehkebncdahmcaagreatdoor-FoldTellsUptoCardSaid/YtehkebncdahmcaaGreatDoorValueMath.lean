/- Plain mathematics for chapter 2: when a value is valid, and which error it has otherwise. No program is named here. -/
import GoSem.Claim
import Derived.Test.YtehkebncdahmcaaGreatDoorNumMath
namespace Go.Proofs.YtehkebncdahmcaaGreatDoor.ValM
open NumM

/-- All bytes of a text lie in the range 32 to 126. -/
def cleanL (l : List UInt8) : Bool := l.all fun c => decide (32 ≤ c.toNat) && decide (c.toNat ≤ 126)

/-- The error of a value's kind and number. -/
def numE (k n : Int) : Int :=
  if k = 1 then (if okN n then 0 else 7)
  else if k = 2 then (if 0 ≤ n ∧ n ≤ 1 then 0 else 4)
  else if k = 3 ∨ k = 4 then (if n = 0 then 0 else 4)
  else if k = 5 then (if 1 ≤ n ∧ n ≤ 15 then 0 else 4)
  else 2

/-- The error of a value's text. -/
def strE (k : Int) (l : List UInt8) : Int :=
  if k = 3 then (if 40 < l.length then 1 else if cleanL l then 0 else 3) else (if l = [] then 0 else 3)

def valE (k n : Int) (l : List UInt8) : Int := if numE k n = 0 then strE k l else numE k n

/-- It is a type. -/
def isT (k : Int) : Bool := decide (k = 1) || decide (k = 2) || decide (k = 3)

def knownB (k n : Int) (l : List UInt8) : Bool := isT k && decide (valE k n l = 0)

theorem cleanL_snoc (l : List UInt8) (c : UInt8) : cleanL (l ++ [c]) = (cleanL l && (decide (32 ≤ c.toNat) && decide (c.toNat ≤ 126))) := by
  unfold cleanL; rw [List.all_append]; simp

theorem take_snoc (s : ByteArray) (k : Nat) (h : k < s.size) : s.data.toList.take (k + 1) = s.data.toList.take k ++ [s[k]] := by
  rw [List.take_succ_eq_append_getElem (by simpa using h)]; rfl

theorem cleanL_bad (s : ByteArray) (k : Nat) (h : k < s.size) (hb : s[k].toNat < 32 ∨ 126 < s[k].toNat) : cleanL s.data.toList = false := by
  unfold cleanL
  rw [List.all_eq_false]
  refine ⟨s[k], ?_, ?_⟩
  · have : s[k] = s.data.toList[k]'(by simpa using h) := rfl
    rw [this]; exact List.getElem_mem _
  · simp only [Bool.and_eq_true, decide_eq_true_eq, not_and, Nat.not_le]; omega

theorem cleanL_step (s : ByteArray) (k : Nat) (h : k < s.size) (hk : cleanL (s.data.toList.take k) = true) (h1 : 32 ≤ s[k].toNat) (h2 : s[k].toNat ≤ 126) : cleanL (s.data.toList.take (k + 1)) = true := by
  rw [take_snoc s k h, cleanL_snoc, hk]; simp [h1, h2]

theorem cleanL_all (s : ByteArray) (k : Nat) (h : s.size ≤ k) (hk : cleanL (s.data.toList.take k) = true) : cleanL s.data.toList = true := by
  rw [List.take_of_length_le (by simpa using h)] at hk; exact hk

theorem numE_zero_or (k n : Int) : numE k n = 0 ∨ numE k n = 7 ∨ numE k n = 4 ∨ numE k n = 2 := by
  unfold numE; repeat' split
  all_goals omega

theorem len_size (s : ByteArray) : s.data.toList.length = s.size := rfl
theorem nil_of_size (s : ByteArray) (h : s.size = 0) : s.data.toList = [] := List.eq_nil_of_length_eq_zero h
theorem not_nil (s : ByteArray) (h : 0 < s.size) : s.data.toList ≠ [] := fun e => by
  have : s.data.toList.length = 0 := by rw [e]; rfl
  rw [len_size] at this; omega
theorem strE_clean {l : List UInt8} (h1 : l.length ≤ 40) (h2 : cleanL l = true) : strE 3 l = 0 := by
  unfold strE; rw [if_pos rfl, if_neg (by omega), if_pos h2]
theorem strE_foul {l : List UInt8} (h1 : l.length ≤ 40) (h2 : cleanL l = false) : strE 3 l = 3 := by
  unfold strE; rw [if_pos rfl, if_neg (by omega), if_neg (by simp [h2])]
theorem strE_long {l : List UInt8} (h1 : 40 < l.length) : strE 3 l = 1 := by
  unfold strE; rw [if_pos rfl, if_pos h1]
theorem strE_other {k : Int} {l : List UInt8} (hk : k ≠ 3) : strE k l = if l = [] then 0 else 3 := by
  unfold strE; rw [if_neg hk]
end Go.Proofs.YtehkebncdahmcaaGreatDoor.ValM
