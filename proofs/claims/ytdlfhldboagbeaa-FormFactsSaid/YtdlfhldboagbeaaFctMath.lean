/- Facts of a form: which may be told; the map from names to the first field. -/
import Derived.Test.YtdlfhldboagbeaaFctBase
import Derived.Test.YtdlfhldboagbeaaFld
namespace Go.Proofs.Ytdlfhldboagbeaa.FcM
open Go.RowKit
open ValM LexM NumM ExM TyM EvM Kit ExL RawV Within RawL GenL FldP EvF
set_option linter.unusedVariables false

/-- The first number that is not 0. -/
def firstI (P : Nat → Int) : Nat → Int
  | 0 => 0
  | n + 1 => if firstI P n = 0 then P n else firstI P n
theorem firstI_zero {P : Nat → Int} {n : Nat} (h : ∀ j, j < n → P j = 0) : firstI P n = 0 := by
  induction n with
  | zero => rfl
  | succ n ih => unfold firstI; rw [ih fun j hj => h j (by omega), if_pos rfl]; exact h n (by omega)
theorem firstI_hit {P : Nat → Int} {n k : Nat} (hk : k < n) (h : ∀ j, j < k → P j = 0) (h0 : P k ≠ 0) : firstI P n = P k := by
  induction n with
  | zero => omega
  | succ n ih =>
    unfold firstI
    by_cases e : k = n
    · subst e; rw [firstI_zero h, if_pos rfl]
    · rw [ih (by omega), if_neg h0]
def keyZ (f : Fc) : Bool := decide (f.kk = 0) && decide (f.kn = 0) && decide (f.ks = ⟨#[]⟩)
/-- Has one of the first k the name? -/
def metB (L : List Fc) (k : Nat) (s : ByteArray) : Bool := (L.take k).any fun f => decide (f.nm = s)
theorem metB_zero (L : List Fc) (s : ByteArray) : metB L 0 s = false := by unfold metB; simp
theorem metB_succ (L : List Fc) (k : Nat) (h : k < L.length) (s : ByteArray) : metB L (k + 1) s = (metB L k s || decide (L[k].nm = s)) := by
  unfold metB
  rw [List.take_succ_eq_append_getElem h, List.any_append]; simp
/-- P12.5, one fact. -/
def factE (F : List GenL.Fd) (L : List Fc) (i : Nat) : Int :=
  if h : i < L.length then (if toldE F L[i].nm L[i].v.k L[i].v.n L[i].v.s = 0 then (if keyZ L[i] = true then (if metB L i L[i].nm = true then 6 else 0) else 3) else toldE F L[i].nm L[i].v.k L[i].v.n L[i].v.s) else 0
def factsE (F : List GenL.Fd) (L : List Fc) : Int := firstI (factE F L) L.length
theorem facts_stop {F : List GenL.Fd} {L : List Fc} {k : Nat} (hk : k < L.length) (h : ∀ j, j < k → factE F L j = 0) (h0 : factE F L k ≠ 0) : factsE F L = factE F L k := firstI_hit hk h h0
theorem facts_all {F : List GenL.Fd} {L : List Fc} (h : ∀ j, j < L.length → factE F L j = 0) : factsE F L = 0 := firstI_zero h
/-- The names that were told. -/
def toldM (L : List Fc) (k : Nat) (s : ByteArray) : Option Value := if metB L k s = true then some (.bool true) else none
theorem toldM_zero (L : List Fc) (s : ByteArray) : toldM L 0 s = none := by unfold toldM; rw [metB_zero, if_neg (by decide)]
theorem toldM_put {L : List Fc} {k : Nat} (h : k < L.length) (t : ByteArray) : (if t = L[k].nm then some (.bool true) else toldM L k t) = toldM L (k + 1) t := by
  unfold toldM
  rw [metB_succ L k h]
  by_cases e : t = L[k].nm
  · rw [if_pos e, if_pos (by simp [e])]
  · rw [if_neg e]
    have : decide (L[k].nm = t) = false := decide_eq_false fun h => e h.symm
    rw [this, Bool.or_false]
theorem toldM_get (L : List Fc) (k : Nat) (s : ByteArray) : (toldM L k s).getD (.bool false) = .bool (metB L k s) := by
  unfold toldM
  cases metB L k s
  · rw [if_neg (by decide)]; rfl
  · rw [if_pos rfl]; rfl
/-! ### the map -/
def cutV (A : Option Addr) (c k : Nat) : Value := .slice (A.map fun a => a.add (k * 9)) 1 (c - k)
def byM (F : List GenL.Fd) (A : Option Addr) (c k : Nat) (s : ByteArray) : Option Value := if atF F s < k then some (cutV A c (atF F s)) else none
theorem byM_zero (F : List GenL.Fd) (A : Option Addr) (c : Nat) (s : ByteArray) : byM F A c 0 s = none := by unfold byM; rw [if_neg (Nat.not_lt_zero _)]
theorem at_ge {F : List GenL.Fd} {k : Nat} (hk : k < F.length) (h : ¬ atF F F[k].nm < k) : atF F F[k].nm = k := by
  rcases Nat.lt_or_ge k (atF F F[k].nm) with h1 | h1
  · exfalso
    by_cases h2 : atF F F[k].nm < F.length
    · exact (atF_at h2).2 k hk h1 rfl
    · have := atF_le F F[k].nm
      have e : atF F F[k].nm = F.length := by omega
      -- some field has the name
      have key : ∀ (l : List GenL.Fd) (s : ByteArray) (j : Nat) (hj : j < l.length), l[j].nm = s → atF l s < l.length := fun l => by
        induction l with
        | nil => intro s j hj; exact absurd hj (by simp)
        | cons f l ih =>
          intro s j hj he
          unfold atF
          by_cases e2 : f.nm = s
          · rw [if_pos e2]; simp
          · rw [if_neg e2]
            match j, hj, he with
            | 0, _, he => exact absurd he e2
            | j + 1, hj, he => have := ih s j (by simpa using hj) he; simp; omega
      have := key F F[k].nm k hk rfl
      omega
  · omega
theorem byM_put {F : List GenL.Fd} (A : Option Addr) (c : Nat) {k : Nat} (hk : k < F.length) (h : ¬ atF F F[k].nm < k) (t : ByteArray) : (if t = F[k].nm then some (cutV A c k) else byM F A c k t) = byM F A c (k + 1) t := by
  unfold byM
  by_cases e : t = F[k].nm
  · rw [if_pos e, e, at_ge hk h, if_pos (Nat.lt_succ_self _)]
  · rw [if_neg e]
    by_cases h2 : atF F t < k
    · rw [if_pos h2, if_pos (by omega)]
    · rw [if_neg h2, if_neg]
      intro h3
      have h4 : atF F t = k := by omega
      have := (atF_at (fs := F) (s := t) (by omega)).1
      simp only [h4] at this
      exact e this.symm
theorem byM_skip {F : List GenL.Fd} (A : Option Addr) (c : Nat) {k : Nat} (hk : k < F.length) (h : atF F F[k].nm < k) (t : ByteArray) : byM F A c k t = byM F A c (k + 1) t := by
  unfold byM
  by_cases h2 : atF F t < k
  · rw [if_pos h2, if_pos (by omega)]
  · rw [if_neg h2, if_neg]
    intro h3
    have h4 : atF F t = k := by omega
    have := (atF_at (fs := F) (s := t) (by omega)).1
    simp only [h4] at this
    rw [this, h4] at h
    omega
/-- A field alone, and the list that it stands in, say the same. -/
theorem told_one {F : List GenL.Fd} {s : ByteArray} (k n : Int) (t : ByteArray) (h : atF F s < F.length) : toldE [F[atF F s]] s k n t = toldE F s k n t := by
  have e : atF [F[atF F s]] s = 0 := by unfold atF; rw [if_pos (atF_at h).1]
  unfold toldE
  rw [dif_pos h, dif_pos (show atF [F[atF F s]] s < [F[atF F s]].length from (by rw [e]; exact Nat.zero_lt_one : atF [F[atF F s]] s < 1))]
  simp only [e, List.getElem_cons_zero]
theorem told_no {F : List GenL.Fd} {s : ByteArray} (k n : Int) (t : ByteArray) (h : ¬ atF F s < F.length) : toldE [] s k n t = toldE F s k n t := by
  unfold toldE
  rw [dif_neg h, dif_neg (by simp)]
end Go.Proofs.Ytdlfhldboagbeaa.FcM
