/- The reference's levels as maps from names to ranks. -/
import Derived.Test.YthgcmficmodhiaaGreatDoorRkRef
import Derived.Test.YthgcmficmodhiaaGreatDoorCyc
import Derived.Test.YthgcmficmodhiaaGreatDoorSMap
namespace Go.Proofs.YthgcmficmodhiaaGreatDoor.RkV
open Go.RowKit
open ExM NmM Kit RkM RkA RkB RkC RkD RkO RkL CycO SMp
set_option linter.unusedVariables false

/-- The place of a name. -/
def plc (nm : Nat → ByteArray) (n : Nat) (s : ByteArray) : Nat := (List.range n).findIdx fun i => decide (nm i = s)
theorem plc_at {nm : Nat → ByteArray} {n : Nat} (hinj : ∀ i j, i < n → j < n → nm i = nm j → i = j) {i : Nat} (hi : i < n) : plc nm n (nm i) = i := by
  unfold plc
  rw [List.findIdx_eq (by simpa using hi)]
  refine ⟨by simp, fun j hj => ?_⟩
  simp only [List.getElem_range, decide_eq_false_iff_not]
  intro e
  have := hinj j i (by omega) hi e
  omega
theorem plc_nm {nm : Nat → ByteArray} {n : Nat} {s : ByteArray} (h : plc nm n s < n) : nm (plc nm n s) = s := by
  have := List.findIdx_getElem (xs := List.range n) (p := fun i => decide (nm i = s)) (w := by rw [List.length_range]; exact h)
  simp only [List.getElem_range] at this
  exact of_decide_eq_true this
def rkMp (nm : Nat → ByteArray) (n : Nat) (r : List Int) (L : Nat) (s : ByteArray) : Option Value := if plc nm n s < n ∧ doneB r L (plc nm n s) = true then some (.int .i64 (rk r (plc nm n s))) else none
def rdMp (nm : Nat → ByteArray) (n : Nat) (r : List Int) (L i : Nat) (s : ByteArray) : Option Value := if plc nm n s < i ∧ rk r (plc nm n s) = (L : Int) then some (.int .i64 (L : Int)) else none
theorem rkMp_zero (nm : Nat → ByteArray) (n : Nat) (r : List Int) (s : ByteArray) : none = rkMp nm n r 0 s := by
  unfold rkMp doneB
  rw [if_neg]
  rintro ⟨_, h⟩
  have := of_decide_eq_true h
  omega
theorem rdMp_zero (nm : Nat → ByteArray) (n : Nat) (r : List Int) (L : Nat) (s : ByteArray) : none = rdMp nm n r L 0 s := by
  unfold rdMp
  rw [if_neg]
  rintro ⟨h, _⟩
  omega
theorem rkMp_nm {nm : Nat → ByteArray} {n : Nat} (hinj : ∀ i j, i < n → j < n → nm i = nm j → i = j) (r : List Int) (L : Nat) {i : Nat} (hi : i < n) : rkMp nm n r L (nm i) = if doneB r L i = true then some (.int .i64 (rk r i)) else none := by
  unfold rkMp
  rw [plc_at hinj hi]
  by_cases h : doneB r L i = true
  · rw [if_pos h, if_pos ⟨hi, h⟩]
  · rw [if_neg h, if_neg (fun g => h g.2)]
theorem rkMp_some {nm : Nat → ByteArray} {n : Nat} (hinj : ∀ i j, i < n → j < n → nm i = nm j → i = j) (r : List Int) (L : Nat) {i : Nat} (hi : i < n) : (rkMp nm n r L (nm i)).isSome = doneB r L i := by
  rw [rkMp_nm hinj r L hi]
  cases doneB r L i <;> rfl
theorem rdMp_put {nm : Nat → ByteArray} {n : Nat} (hinj : ∀ i j, i < n → j < n → nm i = nm j → i = j) (r : List Int) (L : Nat) {i : Nat} (hi : i < n) (h : rk r i = (L : Int)) (t : ByteArray) : (if t = nm i then some (.int .i64 (L : Int)) else rdMp nm n r L i t) = rdMp nm n r L (i + 1) t := by
  unfold rdMp
  by_cases e : t = nm i
  · rw [if_pos e, e, plc_at hinj hi, if_pos ⟨by omega, h⟩]
  · rw [if_neg e]
    by_cases hp : plc nm n t < i ∧ rk r (plc nm n t) = (L : Int)
    · rw [if_pos hp, if_pos ⟨by omega, hp.2⟩]
    · rw [if_neg hp, if_neg]
      rintro ⟨h1, h2⟩
      by_cases h3 : plc nm n t = i
      · exact e (by rw [← h3]; exact (plc_nm (by omega)).symm)
      · exact hp ⟨by omega, h2⟩
theorem rdMp_skip (nm : Nat → ByteArray) (n : Nat) (r : List Int) (L : Nat) {i : Nat} (h : rk r i ≠ (L : Int)) (t : ByteArray) : rdMp nm n r L i t = rdMp nm n r L (i + 1) t := by
  unfold rdMp
  by_cases hp : plc nm n t < i ∧ rk r (plc nm n t) = (L : Int)
  · rw [if_pos hp, if_pos ⟨by omega, hp.2⟩]
  · rw [if_neg hp, if_neg]
    rintro ⟨h1, h2⟩
    by_cases h3 : plc nm n t = i
    · exact h (by rw [← h3]; exact h2)
    · exact hp ⟨by omega, h2⟩
/-- What the map of ranks holds while the ready ones are laid into it. -/
def mrg (nm : Nat → ByteArray) (n : Nat) (r : List Int) (L : Nat) (left : ByteArray → Bool) (s : ByteArray) : Option Value := if ((rdMp nm n r L n s).isSome && !left s) = true then rdMp nm n r L n s else rkMp nm n r L s
theorem mrg_start (nm : Nat → ByteArray) (n : Nat) (r : List Int) (L : Nat) (s : ByteArray) : rkMp nm n r L s = mrg nm n r L (fun s => (rdMp nm n r L n s).isSome) s := by
  unfold mrg
  rw [if_neg]
  show ¬ ((rdMp nm n r L n s).isSome && !(rdMp nm n r L n s).isSome) = true
  generalize (rdMp nm n r L n s).isSome = b
  cases b <;> decide
theorem mrg_step (nm : Nat → ByteArray) (n : Nat) (r : List Int) (L : Nat) (left : ByteArray → Bool) (s : ByteArray) (v : Value) (hs : rdMp nm n r L n s = some v) (t : ByteArray) : (if t = s then some v else mrg nm n r L left t) = mrg nm n r L (fun t => left t && !decide (t = s)) t := by
  unfold mrg
  by_cases e : t = s
  · subst e
    rw [if_pos rfl, if_pos (by rw [hs]; simp), hs]
  · rw [if_neg e]
    simp [e]
theorem mrg_end (nm : Nat → ByteArray) (n : Nat) (r : List Int) (L : Nat) (left : ByteArray → Bool) (hl : ∀ s, left s = false) (s : ByteArray) : mrg nm n r L left s = rkMp nm n r (L + 1) s := by
  unfold mrg
  rw [hl s]
  unfold rdMp rkMp doneB
  by_cases hp : plc nm n s < n ∧ rk r (plc nm n s) = (L : Int)
  · rw [if_pos hp]
    rw [if_pos (by rfl), if_pos ⟨hp.1, decide_eq_true (by omega)⟩, hp.2]
  · rw [if_neg hp]
    simp only [Option.isSome_none, Bool.false_and, Bool.false_eq_true, if_false]
    by_cases h : plc nm n s < n ∧ decide (0 ≤ rk r (plc nm n s) ∧ rk r (plc nm n s) < (L : Int)) = true
    · rw [if_pos h, if_pos ⟨h.1, decide_eq_true (by have := of_decide_eq_true h.2; omega)⟩]
    · rw [if_neg h, if_neg]
      rintro ⟨h1, h2⟩
      have h3 := of_decide_eq_true h2
      refine h ⟨h1, decide_eq_true ⟨h3.1, ?_⟩⟩
      have : rk r (plc nm n s) ≠ (L : Int) := fun e => hp ⟨h1, e⟩
      omega
theorem getD_off (v z : Value) : (some v).getD z = v := rfl
/-- All of the first q are done. -/
def allQ (r : List Int) (L : Nat) (N : List Nat) (q : Nat) : Bool := (N.take q).all (doneB r L)
theorem allQ_zero (r : List Int) (L : Nat) (N : List Nat) : allQ r L N 0 = true := by unfold allQ; simp
theorem allQ_succ (r : List Int) (L : Nat) (N : List Nat) (q : Nat) (h : q < N.length) : allQ r L N (q + 1) = (allQ r L N q && doneB r L N[q]) := by
  unfold allQ
  rw [List.take_succ_eq_append_getElem h, List.all_append]; simp
theorem allQ_last (r : List Int) (L : Nat) (N : List Nat) : allQ r L N N.length = N.all (doneB r L) := by unfold allQ; rw [List.take_length]
end Go.Proofs.YthgcmficmodhiaaGreatDoor.RkV
