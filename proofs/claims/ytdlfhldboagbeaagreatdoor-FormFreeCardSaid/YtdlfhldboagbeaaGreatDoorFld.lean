/- Package field, and the reference's: the place of a field; whether a field may be told a value. -/
import Derived.Test.YtdlfhldboagbeaaGreatDoorGenLeaf
import Derived.Test.YtdlfhldboagbeaaGreatDoorValue
import Derived.RegionTactic
import Derived.BigQuiet
import Derived.Deep.QuietTactic
import Derived.Deep.RegionLaw
namespace Go.Proofs.YtdlfhldboagbeaaGreatDoor.FldP
open Go.RowKit
open ValM LexM NumM ExM Kit ExL RawV Within RawL GenL
set_option linter.unusedVariables false

/-- The place of a field, or as many as there are. -/
def atF : List GenL.Fd → ByteArray → Nat
  | [], _ => 0
  | f :: l, s => if f.nm = s then 0 else atF l s + 1
theorem atF_le : ∀ (fs : List GenL.Fd) (s : ByteArray), atF fs s ≤ fs.length
  | [], _ => Nat.le_refl _
  | f :: l, s => by
    unfold atF
    split
    · exact Nat.zero_le _
    · exact Nat.succ_le_succ (atF_le l s)
theorem atF_eq : ∀ (fs : List GenL.Fd) (s : ByteArray) (k : Nat) (hk : k < fs.length), (∀ j (hj : j < fs.length), j < k → fs[j].nm ≠ s) → fs[k].nm = s → atF fs s = k
  | f :: l, s, 0, hk, h, he => by unfold atF; rw [if_pos (show f.nm = s from he)]
  | f :: l, s, k + 1, hk, h, he => by
    unfold atF
    rw [if_neg (show ¬ f.nm = s from h 0 (by simp) (by omega)), atF_eq l s k (by simpa using hk) (fun j hj hjk => h (j + 1) (by simpa using hj) (by omega)) he]
theorem atF_none {fs : List GenL.Fd} {s : ByteArray} (h : ∀ j (hj : j < fs.length), fs[j].nm ≠ s) : atF fs s = fs.length := by
  induction fs with
  | nil => rfl
  | cons f l ih =>
    unfold atF
    rw [if_neg (show ¬ f.nm = s from h 0 (by simp)), ih fun j hj => h (j + 1) (by simpa using hj)]; rfl
theorem atF_at {fs : List GenL.Fd} {s : ByteArray} (h : atF fs s < fs.length) : fs[atF fs s].nm = s ∧ ∀ j (hj : j < fs.length), j < atF fs s → fs[j].nm ≠ s := by
  by_cases hex : ∃ j, ∃ hj : j < fs.length, fs[j].nm = s
  · obtain ⟨k, hk, hmin⟩ : ∃ k, (∃ hk : k < fs.length, fs[k].nm = s) ∧ ∀ j, j < k → ¬ ∃ hj : j < fs.length, fs[j].nm = s := by
      obtain ⟨j, hj⟩ := hex
      exact Nat.strongRecOn (motive := fun j => (∃ hj : j < fs.length, fs[j].nm = s) → ∃ k, (∃ hk : k < fs.length, fs[k].nm = s) ∧ ∀ j, j < k → ¬ ∃ hj : j < fs.length, fs[j].nm = s) j (fun m ih hm => by
        by_cases h : ∃ i, i < m ∧ ∃ hi : i < fs.length, fs[i].nm = s
        · obtain ⟨i, hi, hh⟩ := h
          exact ih i hi hh
        · exact ⟨m, hm, fun j hj hh => h ⟨j, hj, hh⟩⟩) hj
    obtain ⟨hk, he⟩ := hk
    have e := atF_eq fs s k hk (fun j hj hjk hh => hmin j hjk ⟨hj, hh⟩) he
    refine ⟨?_, fun j hj hjk hh => hmin j (by omega) ⟨hj, hh⟩⟩
    simp only [e]; exact he
  · have := atF_none (fs := fs) (s := s) fun j hj hh => hex ⟨j, hj, hh⟩
    omega
theorem atF_take {fs : List GenL.Fd} {s : ByteArray} {k : Nat} (hk : k ≤ fs.length) : atF (fs.take k) s < k ↔ atF fs s < k := by
  have hl : (fs.take k).length = k := by simp; omega
  constructor
  · intro h
    obtain ⟨h1, h2⟩ := atF_at (fs := fs.take k) (s := s) (by omega)
    have e := atF_eq fs s (atF (fs.take k) s) (by omega) (fun j hj hjk => by have := h2 j (by omega) hjk; simpa using this) (by simpa using h1)
    omega
  · intro h
    obtain ⟨h1, h2⟩ := atF_at (fs := fs) (s := s) (by omega)
    have e := atF_eq (fs.take k) s (atF fs s) (by omega) (fun j hj hjk => by have := h2 j (by omega) hjk; simpa using this) (by simpa using h1)
    omega
theorem Flds.take {w : World} {A : Option Addr} {fs : List GenL.Fd} (h : Flds w A fs) (k : Nat) : Flds w A (fs.take k) := fun i hi => by
  obtain ⟨a, e, hf⟩ := h i (by simp at hi; omega)
  exact ⟨a, e, by simpa using hf⟩
theorem eq_t {a b : ByteArray} (h : a = b) : (a.toList == b.toList) = true := by rw [h]; simp
theorem eq_f {a b : ByteArray} (h : ¬ a = b) : (a.toList == b.toList) = false := beq_eq_false_iff_ne.2 fun e => h (by
  rw [ByteArray.toList_eq, ByteArray.toList_eq] at e
  exact ByteArray.ext (Array.ext' e))

set_option maxHeartbeats 1000000 in
theorem find_any (s : ByteArray) (fs : List GenL.Fd) (FA : Option Addr) (fc : Nat) (w : World) (hf : Flds w FA fs) (hm : fs.length ≤ 9223372036854775807) :
    Calls Tryz.prog 73 #[.slice FA fs.length fc, .string s] w fun e w' => e = .returned (.tuple #[.int .i64 (if atF fs s < fs.length then (atF fs s : Int) else 0), .int .i64 (if atF fs s < fs.length then 0 else 5)]) ∧ w = w' := by
  obtain ⟨R, hR⟩ : ∃ R : Int × Int, ((if atF fs s < fs.length then (atF fs s : Int) else 0), (if atF fs s < fs.length then (0 : Int) else 5)) = R := ⟨_, rfl⟩
  have hgood : ∀ k (hk : k < fs.length), (∀ j (hj : j < fs.length), j < k → fs[j].nm ≠ s) → fs[k].nm = s → R = ((k : Int), 0) := fun k hk h he => by
    rw [← hR, atF_eq fs s k hk h he, if_pos hk, if_pos hk]
  have hbad : (∀ j (hj : j < fs.length), fs[j].nm ≠ s) → R = (0, 5) := fun h => by
    rw [← hR, atF_none h, if_neg (Nat.lt_irrefl _), if_neg (Nat.lt_irrefl _)]
  rw [show (if atF fs s < fs.length then (atF fs s : Int) else 0) = R.1 from congrArg Prod.fst hR, show (if atF fs s < fs.length then (0 : Int) else 5) = R.2 from congrArg Prod.snd hR]
  have HG := Lib.hid hgood
  have HB := Lib.hid hbad
  have HF := Lib.hid hf
  clear hgood hbad hR hf
  go_enter Tryz.func73, Tryz.ntmps73
  go_wp2_with fail
  go_loopw [6, 9] (fun _ i wr => ∃ (k : Nat), i = .int .i64 k ∧ k ≤ fs.length ∧ (∀ j (hj : j < fs.length), j < k → fs[j].nm ≠ s) ∧ wr = w) (fun _ i _ => fs.length - (intOf i).toNat)
  case atStart => exact ⟨0, rfl, Nat.zero_le _, fun j hj hjk => absurd hjk (by omega), rfl⟩
  case round =>
    obtain ⟨k, rfl, hk, hall, rfl⟩ := hrel
    by_cases hlt : k < fs.length
    · obtain ⟨a, rfl, h0, h1, h2, h3⟩ := HF.out k hlt
      have hg := HG.out k hlt hall
      have hnext : fs[k].nm ≠ s → ∀ j (hj : j < fs.length), j < k + 1 → fs[j].nm ≠ s := fun e j hj hjk => by
        rcases Nat.lt_or_ge j k with h | h
        · exact hall j hj h
        · obtain rfl : j = k := by omega
          exact e
      obtain ⟨nm, hnm⟩ : ∃ a, fs[k].nm = a := ⟨_, rfl⟩
      rw [hnm] at hg hnext h0
      have HG2 := Lib.hid hg
      have HN := Lib.hid hnext
      clear hg hnext hall hnm h2 h3 h1
      by_cases he : nm = s
      · obtain rfl := HG2.out he
        have t1 : (nm.toList == s.toList) = true := eq_t he
        go_wp2_with fail
        go_ret2
        exact ⟨rfl, rfl⟩
      · have t1 : (nm.toList == s.toList) = false := eq_f he
        go_wp2_with fail
        go_roundw
        case rel => exact ⟨k + 1, by go_num, by omega, HN.out he, by first | rfl | trivial⟩
        case measure => simp [intOf]; omega
    · obtain rfl := HB.out fun j hj => hall j hj (by omega)
      clear hall
      go_wp2_with fail
      go_ret2
      exact ⟨rfl, rfl⟩
set_option maxHeartbeats 1000000 in
theorem refAt_any (s : ByteArray) (fs : List GenL.Fd) (FA : Option Addr) (fc : Nat) (w : World) (hf : Flds w FA fs) (hm : fs.length ≤ 9223372036854775807) :
    Calls Tryz.prog 59 #[.slice FA fs.length fc, .string s] w fun e w' => e = .returned (.int .i64 (atF fs s : Int)) ∧ Below w.heap.size w w' := by
  obtain ⟨R, hR⟩ : ∃ R : Int, (atF fs s : Int) = R := ⟨_, rfl⟩
  have hgood : ∀ k (hk : k < fs.length), (∀ j (hj : j < fs.length), j < k → fs[j].nm ≠ s) → fs[k].nm = s → R = (k : Int) := fun k hk h he => by
    rw [← hR, atF_eq fs s k hk h he]
  have hbad : (∀ j (hj : j < fs.length), fs[j].nm ≠ s) → R = (fs.length : Int) := fun h => by
    rw [← hR, atF_none h]
  rw [hR]
  have HG := Lib.hid hgood
  have HB := Lib.hid hbad
  have HF := Lib.hid hf
  clear hgood hbad hR hf
  go_enter Tryz.func59, Tryz.ntmps59
  go_wp2_with fail
  go_loopw [5, 6, 9] (fun _ _ i wr => ∃ (k : Nat), i = .int .i64 k ∧ k ≤ fs.length ∧ (∀ j (hj : j < fs.length), j < k → fs[j].nm ≠ s) ∧ Below w.heap.size w wr) (fun _ _ i _ => fs.length - (intOf i).toNat)
  case atStart => exact ⟨0, rfl, Nat.zero_le _, fun j hj hjk => absurd hjk (by omega), Below.refl _ _⟩
  case round =>
    obtain ⟨k, rfl, hk, hall, hb⟩ := hrel
    by_cases hlt : k < fs.length
    · obtain ⟨a, rfl, hat⟩ := HF.out k hlt
      obtain ⟨q0, q1, q2, q3, q4, q5, q6, q7, q8⟩ := hat.of_block (hb.block _ hat.lt)
      have hg := HG.out k hlt hall
      have hnext : fs[k].nm ≠ s → ∀ j (hj : j < fs.length), j < k + 1 → fs[j].nm ≠ s := fun e j hj hjk => by
        rcases Nat.lt_or_ge j k with h | h
        · exact hall j hj h
        · obtain rfl : j = k := by omega
          exact e
      obtain ⟨f, hfk⟩ : ∃ f, fs[k] = f := ⟨_, rfl⟩
      rw [hfk] at q0 q1 q2 q3 q4 q5 q6 q7 q8 hg hnext
      have HG2 := Lib.hid hg
      have HN := Lib.hid hnext
      have HBl := Lib.hid hb
      clear hg hnext hall hfk hat hb
      by_cases he : f.nm = s
      · obtain rfl := HG2.out he
        have t1 : (f.nm.toList == s.toList) = true := eq_t he
        clear he
        go_wp2_with fail
        go_ret
        exact ⟨rfl, b_more HBl.out _⟩
      · have t1 : (f.nm.toList == s.toList) = false := eq_f he
        have HN := Lib.hid (HN.out he)
        clear he
        go_wp2_with fail
        go_roundw
        case rel => exact ⟨k + 1, by go_num, by omega, HN.out, b_more HBl.out _⟩
        case measure => simp [intOf]; omega
    · obtain rfl := HB.out fun j hj => hall j hj (by omega)
      have HBl := Lib.hid hb
      clear hall hb
      go_wp2_with fail
      go_ret
      exact ⟨rfl, HBl.out⟩
/-! ### a value is told -/
/-- P9.4. -/
def toldE (fs : List GenL.Fd) (s : ByteArray) (k n : Int) (t : ByteArray) : Int :=
  if h : atF fs s < fs.length then (if fs[atF fs s].kind = 1 then (if knownB k n t.data.toList = true ∧ k = fs[atF fs s].ty then 0 else 9) else 2) else 5
end Go.Proofs.YtdlfhldboagbeaaGreatDoor.FldP
