/- Contracts of package lex (chapter 3), its smallest functions: bytes, the beginning of a string, keywords, names; and the reference's own. -/
import Derived.Test.YtonlkmkfcaadlaaChecked
import Derived.Test.YtonlkmkfcaadlaaBase
import Derived.WalkKit
import Derived.WalkSpells
import Derived.ProofKit
import Derived.Lib.Hide
import Derived.WalkLawsBesides
import Derived.BigQuiet
import Derived.Deep.QuietTactic
import Derived.Outline
namespace Go.Proofs.Ytonlkmkfcaadlaa.LexB
open Go.RowKit
open LexM
set_option linter.unusedVariables false

theorem low_t {c : UInt8} (h1 : (97 : Int) ≤ c.toNat) (h2 : (c.toNat : Int) ≤ 122) : lowB c = true := by unfold lowB; simp; omega
theorem low_f {c : UInt8} (h : (c.toNat : Int) < 97 ∨ (122 : Int) < c.toNat) : lowB c = false := by
  unfold lowB; rw [Bool.and_eq_false_iff]; simp; omega
theorem dig_t {c : UInt8} (h1 : (48 : Int) ≤ c.toNat) (h2 : (c.toNat : Int) ≤ 57) : digB c = true := by unfold digB; simp; omega
theorem dig_f {c : UInt8} (h : (c.toNat : Int) < 48 ∨ (57 : Int) < c.toNat) : digB c = false := by
  unfold digB; rw [Bool.and_eq_false_iff]; simp; omega

theorem take_snoc (s : ByteArray) (k : Nat) (h : k < s.size) : s.data.toList.take (k + 1) = s.data.toList.take k ++ [s[k]] := by
  rw [List.take_succ_eq_append_getElem (by simpa using h)]; rfl
theorem drop_cons (s : ByteArray) (k : Nat) (h : k < s.size) : s.data.toList.drop k = s[k] :: s.data.toList.drop (k + 1) := by
  rw [List.drop_eq_getElem_cons (by simpa using h)]; rfl
theorem len_size (s : ByteArray) : s.data.toList.length = s.size := rfl
/-- How far a string's beginning goes. -/
def tw (p : UInt8 → Bool) (s : ByteArray) : Nat := (s.data.toList.takeWhile p).length
theorem tw_le (p : UInt8 → Bool) (s : ByteArray) : tw p s ≤ s.size := LexM.tw_len p _
theorem tw_stop (p : UInt8 → Bool) (s : ByteArray) (k : Nat) (hk : k ≤ s.size) (h : (s.data.toList.take k).all p = true) (h2 : ∀ g : k < s.size, p s[k] = false) : tw p s = k := by
  unfold tw
  have e : s.data.toList = s.data.toList.take k ++ s.data.toList.drop k := (List.take_append_drop k _).symm
  have e2 : (s.data.toList.drop k).takeWhile p = [] := by
    by_cases g : k < s.size
    · rw [drop_cons s k g, List.takeWhile_cons, h2 g]; rfl
    · rw [List.drop_eq_nil_of_le (by rw [len_size]; omega)]; rfl
  rw [e, List.takeWhile_append_of_pos (fun a ha => List.all_eq_true.1 h a ha), e2, List.append_nil, List.length_take, len_size]
  omega
theorem all_step (p : UInt8 → Bool) (s : ByteArray) (k : Nat) (hk : k < s.size) (h : (s.data.toList.take k).all p = true) (h2 : p s[k] = true) : (s.data.toList.take (k + 1)).all p = true := by
  rw [take_snoc s k hk, List.all_append, h]; simp [h2]

theorem eqb_of (s : ByteArray) (l : List UInt8) : (s.toList == l) = decide (s.data.toList = l) := by
  rw [ByteArray.toList_eq, Bool.eq_iff_iff]; simp
theorem bytes_of {s : ByteArray} {l : List UInt8} (h : s.data.toList = l) : s = ⟨l.toArray⟩ := by
  obtain ⟨⟨x⟩⟩ := s; cases h; rfl
def words : Nat → List UInt8
  | 0 => [97, 110, 100]
  | 1 => [111, 114]
  | 2 => [110, 111, 116]
  | 3 => [116, 114, 117, 101]
  | 4 => [102, 97, 108, 115, 101]
  | 5 => [105, 102]
  | _ => [108, 101, 110]
theorem key_no {s : List UInt8} {k : Nat} (hk : 7 ≤ k) (h : ∀ i, i < k → s ≠ words i) : keyB s = false := by
  unfold keyB
  have h0 := h 0 (by omega); have h1 := h 1 (by omega); have h2 := h 2 (by omega); have h3 := h 3 (by omega); have h4 := h 4 (by omega); have h5 := h 5 (by omega); have h6 := h 6 (by omega)
  simp only [words] at h0 h1 h2 h3 h4 h5 h6
  simp [h0, h1, h2, h3, h4, h5, h6]
theorem key_yes {s : List UInt8} {k : Nat} (hk : k < 7) (h : s = words k) : keyB s = true := by
  subst h
  match k, hk with
  | 0, _ => rfl
  | 1, _ => rfl
  | 2, _ => rfl
  | 3, _ => rfl
  | 4, _ => rfl
  | 5, _ => rfl
  | 6, _ => rfl
def nameE (l : List UInt8) : Int := if l = [] ∨ 10 < l.length then 1 else if nameB l = true ∧ keyB l = false then 0 else 3
theorem nameB_iff (l : List UInt8) : nameB l = true ↔ 0 < l.length ∧ ∀ (i : Nat) (h : i < l.length), lowB l[i] = true ∨ (0 < i ∧ digB l[i] = true) := by
  cases l with
  | nil => simp [nameB]
  | cons c r =>
    unfold nameB
    simp only [Bool.and_eq_true, List.all_eq_true]
    constructor
    · rintro ⟨h1, h2⟩
      refine ⟨by simp, fun i h => ?_⟩
      cases i with
      | zero => exact .inl h1
      | succ i =>
        have := h2 (r[i]'(by simpa using h)) (List.getElem_mem _)
        unfold alnB at this
        rw [Bool.or_eq_true] at this
        rcases this with g | g
        · exact .inl g
        · exact .inr ⟨by omega, g⟩
    · rintro ⟨_, h⟩
      refine ⟨?_, fun x hx => ?_⟩
      · rcases h 0 (by simp) with g | g
        · exact g
        · omega
      · obtain ⟨i, hi, rfl⟩ := List.mem_iff_getElem.1 hx
        unfold alnB
        rw [Bool.or_eq_true]
        rcases h (i + 1) (by simpa using hi) with g | g
        · exact .inl g
        · exact .inr g.2
theorem empty_f (s : ByteArray) (h : 0 < s.size) : (!s.toList.isEmpty) = true ∧ s.toList.isEmpty = false ∧ s.data.toList ≠ [] := by
  have e : s.data.toList ≠ [] := fun e => by
    have : s.data.toList.length = 0 := by rw [e]; rfl
    rw [len_size] at this; omega
  rw [ByteArray.toList_eq]
  cases hd : s.data.toList with
  | nil => exact absurd hd e
  | cons a r => simp
theorem head_of (s : ByteArray) (h : 0 < s.size) : ∃ r, s.data.toList = s[0] :: r := ⟨_, by have := drop_cons s 0 h; rwa [List.drop_zero] at this⟩
theorem tw_eq (s : ByteArray) : (s.extract 0 (tw alnB s)).data.toList = s.data.toList.takeWhile alnB := by
  have e : (s.extract 0 (tw alnB s)).data.toList = s.data.toList.take (tw alnB s) := by simp [ByteArray.data_extract]
  rw [e]
  unfold tw
  exact LexM.take_tw alnB _
end Go.Proofs.Ytonlkmkfcaadlaa.LexB
