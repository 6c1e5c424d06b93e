/- Package field, and the reference's: the place of a field; whether a field may be told a value. -/
import Derived.Test.YtonlkmkfcaadlaaGenLeaf
import Derived.Test.YtonlkmkfcaadlaaValue
import Derived.RegionTactic
import Derived.BigQuiet
import Derived.Deep.QuietTactic
import Derived.Deep.RegionLaw
namespace Go.Proofs.Ytonlkmkfcaadlaa.FldP
open Go.RowKit
open ValM LexM NumM ExM Kit ExL RawV Within RawL GenL
set_option linter.unusedVariables false

/-- The place of a field, or as many as there are. -/
def atF : List GenL.Fd → ByteArray → Nat
  | [], _ => 0
  | f :: l, s => if f.nm = s then 0 else atF l s + 1
theorem atF_le : ∀ (fs : List GenL.Fd) (s : ByteArray), atF fs s ≤ fs.length
  | [], _ => Nat.le_refl _
  | f :: l, s => by
    unfold atF
    split
    · exact Nat.zero_le _
    · exact Nat.succ_le_succ (atF_le l s)
theorem atF_eq : ∀ (fs : List GenL.Fd) (s : ByteArray) (k : Nat) (hk : k < fs.length), (∀ j (hj : j < fs.length), j < k → fs[j].nm ≠ s) → fs[k].nm = s → atF fs s = k
  | f :: l, s, 0, hk, h, he => by unfold atF; rw [if_pos (show f.nm = s from he)]
  | f :: l, s, k + 1, hk, h, he => by
    unfold atF
    rw [if_neg (show ¬ f.nm = s from h 0 (by simp) (by omega)), atF_eq l s k (by simpa using hk) (fun j hj hjk => h (j + 1) (by simpa using hj) (by omega)) he]
theorem atF_none {fs : List GenL.Fd} {s : ByteArray} (h : ∀ j (hj : j < fs.length), fs[j].nm ≠ s) : atF fs s = fs.length := by
  induction fs with
  | nil => rfl
  | cons f l ih =>
    unfold atF
    rw [if_neg (show ¬ f.nm = s from h 0 (by simp)), ih fun j hj => h (j + 1) (by simpa using hj)]; rfl
theorem atF_at {fs : List GenL.Fd} {s : ByteArray} (h : atF fs s < fs.length) : fs[atF fs s].nm = s ∧ ∀ j (hj : j < fs.length), j < atF fs s → fs[j].nm ≠ s := by
  by_cases hex : ∃ j, ∃ hj : j < fs.length, fs[j].nm = s
  · obtain ⟨k, hk, hmin⟩ : ∃ k, (∃ hk : k < fs.length, fs[k].nm = s) ∧ ∀ j, j < k → ¬ ∃ hj : j < fs.length, fs[j].nm = s := by
      obtain ⟨j, hj⟩ := hex
      exact Nat.strongRecOn (motive := fun j => (∃ hj : j < fs.length, fs[j].nm = s) → ∃ k, (∃ hk : k < fs.length, fs[k].nm = s) ∧ ∀ j, j < k → ¬ ∃ hj : j < fs.length, fs[j].nm = s) j (fun m ih hm => by
        by_cases h : ∃ i, i < m ∧ ∃ hi : i < fs.length, fs[i].nm = s
        · obtain ⟨i, hi, hh⟩ := h
          exact ih i hi hh
        · exact ⟨m, hm, fun j hj hh => h ⟨j, hj, hh⟩⟩) hj
    obtain ⟨hk, he⟩ := hk
    have e := atF_eq fs s k hk (fun j hj hjk hh => hmin j hjk ⟨hj, hh⟩) he
    refine ⟨?_, fun j hj hjk hh => hmin j (by omega) ⟨hj, hh⟩⟩
    simp only [e]; exact he
  · have := atF_none (fs := fs) (s := s) fun j hj hh => hex ⟨j, hj, hh⟩
    omega
theorem atF_take {fs : List GenL.Fd} {s : ByteArray} {k : Nat} (hk : k ≤ fs.length) : atF (fs.take k) s < k ↔ atF fs s < k := by
  have hl : (fs.take k).length = k := by simp; omega
  constructor
  · intro h
    obtain ⟨h1, h2⟩ := atF_at (fs := fs.take k) (s := s) (by omega)
    have e := atF_eq fs s (atF (fs.take k) s) (by omega) (fun j hj hjk => by have := h2 j (by omega) hjk; simpa using this) (by simpa using h1)
    omega
  · intro h
    obtain ⟨h1, h2⟩ := atF_at (fs := fs) (s := s) (by omega)
    have e := atF_eq (fs.take k) s (atF fs s) (by omega) (fun j hj hjk => by have := h2 j (by omega) hjk; simpa using this) (by simpa using h1)
    omega
theorem Flds.take {w : World} {A : Option Addr} {fs : List GenL.Fd} (h : Flds w A fs) (k : Nat) : Flds w A (fs.take k) := fun i hi => by
  obtain ⟨a, e, hf⟩ := h i (by simp at hi; omega)
  exact ⟨a, e, by simpa using hf⟩
theorem eq_t {a b : ByteArray} (h : a = b) : (a.toList == b.toList) = true := by rw [h]; simp
theorem eq_f {a b : ByteArray} (h : ¬ a = b) : (a.toList == b.toList) = false := beq_eq_false_iff_ne.2 fun e => h (by
  rw [ByteArray.toList_eq, ByteArray.toList_eq] at e
  exact ByteArray.ext (Array.ext' e))

/-! ### a value is told -/
/-- P9.4. -/
def toldE (fs : List GenL.Fd) (s : ByteArray) (k n : Int) (t : ByteArray) : Int :=
  if h : atF fs s < fs.length then (if fs[atF fs s].kind = 1 then (if knownB k n t.data.toList = true ∧ k = fs[atF fs s].ty then 0 else 9) else 2) else 5
end Go.Proofs.Ytonlkmkfcaadlaa.FldP
