/- Plain mathematics of chapter 7: the value of a formula. No program is named here. -/
import Derived.Test.YtehkebncdahmcaaGreatDoorTyMath
import Derived.Test.YtehkebncdahmcaaGreatDoorNmMath
import Derived.Test.YtehkebncdahmcaaGreatDoorStrMath
namespace Go.Proofs.YtehkebncdahmcaaGreatDoor.EvM
open Go.Lib
open NumM ValM ExM NmM TyM StrM

abbrev e0 : ByteArray := ⟨#[]⟩
/-- A value. -/
structure Vl where
  k : Int
  n : Int
  s : ByteArray
theorem Vl.eta (v : Vl) : (⟨v.k, v.n, v.s⟩ : Vl) = v := rfl
/-- It is one that may be. -/
def Vl.ok (v : Vl) : Prop := valE v.k v.n v.s.data.toList = 0
def flt (e : Int) : Vl := ⟨5, e, e0⟩
def bitI (b : Bool) : Int := if b then 1 else 0
def tru (b : Bool) : Vl := ⟨2, bitI b, e0⟩
def zeroV : Vl := ⟨0, 0, e0⟩
theorem e0_list : e0.data.toList = [] := rfl
theorem e0_of {s : ByteArray} (h : s.data.toList = []) : s = e0 := by
  have : s.size = 0 := by rw [← len_size, h]; rfl
  exact ByteArray.size_eq_zero_iff.1 this

/-- What a value that may be looks like. -/
theorem ok_cases {v : Vl} (h : v.ok) : (v.k = 1 ∧ okN v.n = true ∧ v.s = e0) ∨ (v.k = 2 ∧ (v.n = 0 ∨ v.n = 1) ∧ v.s = e0) ∨ (v.k = 3 ∧ v.n = 0 ∧ v.s.size ≤ 40 ∧ cleanL v.s.data.toList = true) ∨ (v.k = 4 ∧ v.n = 0 ∧ v.s = e0) ∨ (v.k = 5 ∧ 1 ≤ v.n ∧ v.n ≤ 15 ∧ v.s = e0) := by
  unfold Vl.ok valE at h
  by_cases g : numE v.k v.n = 0
  · rw [if_pos g] at h
    have hs : v.k ≠ 3 → v.s = e0 := fun hk => by
      rw [strE_other hk] at h
      by_cases e : v.s.data.toList = []
      · exact e0_of e
      · rw [if_neg e] at h; omega
    unfold numE at g
    by_cases k1 : v.k = 1
    · rw [if_pos k1] at g
      by_cases g2 : okN v.n = true
      · exact .inl ⟨k1, g2, hs (by omega)⟩
      · rw [if_neg g2] at g; omega
    rw [if_neg k1] at g
    by_cases k2 : v.k = 2
    · rw [if_pos k2] at g
      by_cases g2 : 0 ≤ v.n ∧ v.n ≤ 1
      · exact .inr (.inl ⟨k2, by omega, hs (by omega)⟩)
      · rw [if_neg g2] at g; omega
    rw [if_neg k2] at g
    by_cases k3 : v.k = 3 ∨ v.k = 4
    · rw [if_pos k3] at g
      by_cases g2 : v.n = 0
      · rcases k3 with k3 | k3
        · rw [k3] at h
          unfold strE at h
          rw [if_pos rfl] at h
          by_cases h4 : 40 < v.s.data.toList.length
          · rw [if_pos h4] at h; omega
          · rw [if_neg h4] at h
            by_cases h5 : cleanL v.s.data.toList = true
            · exact .inr (.inr (.inl ⟨k3, g2, by rw [len_size] at h4; omega, h5⟩))
            · rw [if_neg h5] at h; omega
        · exact .inr (.inr (.inr (.inl ⟨k3, g2, hs (by omega)⟩)))
      · rw [if_neg g2] at g; omega
    rw [if_neg k3] at g
    by_cases k5 : v.k = 5
    · rw [if_pos k5] at g
      by_cases g2 : 1 ≤ v.n ∧ v.n ≤ 15
      · exact .inr (.inr (.inr (.inr ⟨k5, g2.1, g2.2, hs (by omega)⟩)))
      · rw [if_neg g2] at g; omega
    · rw [if_neg k5] at g; omega
  · rw [if_neg g] at h; omega
theorem ok_kind {v : Vl} (h : v.ok) : 1 ≤ v.k ∧ v.k ≤ 5 := by
  rcases ok_cases h with h | h | h | h | h <;> omega
theorem ok_int {n : Int} (h : okN n = true) : (⟨1, n, e0⟩ : Vl).ok := by
  unfold Vl.ok valE; rw [show numE 1 n = 0 by unfold numE; rw [if_pos rfl, if_pos h]]; rfl
theorem ok_flt {e : Int} (h1 : 1 ≤ e) (h2 : e ≤ 15) : (flt e).ok := by
  unfold Vl.ok valE flt; rw [show numE 5 e = 0 by unfold numE; rw [if_neg (by decide), if_neg (by decide), if_neg (by decide), if_pos rfl, if_pos ⟨h1, h2⟩]]; rfl
theorem ok_tru (b : Bool) : (tru b).ok := by cases b <;> rfl
theorem ok_text {s : ByteArray} (h1 : s.size ≤ 40) (h2 : cleanL s.data.toList = true) : (⟨3, 0, s⟩ : Vl).ok := by
  unfold Vl.ok valE; rw [show numE 3 0 = 0 by rfl]; exact strE_clean (by rw [len_size]; exact h1) h2
theorem ok_known {v : Vl} (h : v.ok) (h1 : v.k ≠ 4) (h2 : v.k ≠ 5) : knownB v.k v.n v.s.data.toList = true := by
  have hk := ok_kind h
  unfold knownB isT
  unfold Vl.ok at h
  rw [h]
  have : v.k = 1 ∨ v.k = 2 ∨ v.k = 3 := by omega
  rcases this with h | h | h <;> rw [h] <;> rfl

/-- The value of the first fact with a name. -/
def factV : List (ByteArray × Vl) → ByteArray → Vl
  | [], _ => flt 5
  | f :: l, s => if f.1 = s then f.2 else factV l s
theorem factV_skip (fs : List (ByteArray × Vl)) (s : ByteArray) (k : Nat) (h : ∀ j (hj : j < fs.length), j < k → fs[j].1 ≠ s) : factV fs s = factV (fs.drop k) s := by
  induction k generalizing fs with
  | zero => rw [List.drop_zero]
  | succ k ih =>
    match fs, h with
    | [], _ => rfl
    | f :: l, h =>
      rw [factV, if_neg (show ¬ f.1 = s from h 0 (by simp) (by omega)), List.drop_succ_cons]
      exact ih l fun j hj hjk => h (j + 1) (by simpa using hj) (by omega)
theorem factV_hit (fs : List (ByteArray × Vl)) (s : ByteArray) (k : Nat) (hk : k < fs.length) (h : ∀ j (hj : j < fs.length), j < k → fs[j].1 ≠ s) (he : fs[k].1 = s) : factV fs s = fs[k].2 := by
  rw [factV_skip fs s k h, List.drop_eq_getElem_cons hk, factV, if_pos he]
theorem factV_none (fs : List (ByteArray × Vl)) (s : ByteArray) (h : ∀ j (hj : j < fs.length), fs[j].1 ≠ s) : factV fs s = flt 5 := by
  rw [factV_skip fs s fs.length (fun j hj _ => h j hj), List.drop_length]; rfl
theorem factV_ok {fs : List (ByteArray × Vl)} (h : ∀ f ∈ fs, f.2.ok) (s : ByteArray) : (factV fs s).ok := by
  induction fs with
  | nil => exact ok_flt (by decide) (by decide)
  | cons f l ih =>
    rw [factV]
    by_cases e : f.1 = s
    · rw [if_pos e]; exact h f (by simp)
    · rw [if_neg e]; exact ih fun g hg => h g (by simp [hg])

/-! ### Operators -/
def condV (v : Vl) : Vl := if v.k = 1 ∨ v.k = 3 then flt 9 else v
/-- Number and error of an arithmetic operator. -/
def arN (op a b : Int) : Int × Int :=
  if op = 8 then (binV a b (a + b), binE a b (a + b)) else if op = 5 then (binV a b (a * b), binE a b (a * b)) else if op = 6 then (quoV a b (a.fdiv b), quoE a b (a.fdiv b))
  else if op = 7 then (quoV a b (a.fmod b), quoE a b (a.fmod b)) else (binV a b (a - b), binE a b (a - b))
def arR (op : Int) (a b : Vl) : Vl × Int := if a.k = 1 ∧ b.k = 1 then (if (arN op a.n b.n).2 = 0 then (⟨1, (arN op a.n b.n).1, e0⟩, 0) else (zeroV, (arN op a.n b.n).2)) else (zeroV, 9)
def notR (v : Vl) : Vl × Int := if v.k = 2 then (tru (decide (v.n = 0) && decide (v.s = e0)), 0) else (zeroV, 9)
def joinR (a b : Vl) : Vl × Int := if a.k = 3 ∧ b.k = 3 then (if 40 < a.s.size + b.s.size then (zeroV, 1) else (⟨3, 0, a.s ++ b.s⟩, 0)) else (zeroV, 9)
def lenR (v : Vl) : Vl × Int := if v.k = 3 then (⟨1, (v.s.size : Int), e0⟩, 0) else (zeroV, 9)
def ordVl (a b : Vl) : Int := if a.k = 3 then compareBytes a.s.data.toList b.s.data.toList else compareInt a.n b.n
def cmpB (op o : Int) : Bool := if op = 11 then decide (o < 0) else if op = 12 then decide (o ≤ 0) else if op = 13 then (o == 0) else (o != 0)
def cmpR (op : Int) (a b : Vl) : Vl × Int := if a.k = b.k then (tru (cmpB op (ordVl a b)), 0) else (zeroV, 9)
def compR (op : Int) (a b : Vl) : Vl × Int :=
  if op = 3 then arR 9 ⟨1, 0, e0⟩ b else if op = 4 then notR b else if op = 10 then joinR a b else if op = 18 then lenR b else if 5 ≤ op ∧ op ≤ 9 then arR op a b else cmpR op a b
def resV (r : Vl × Int) : Vl := if r.2 = 0 then r.1 else flt r.2
/-- The first value of a kind. -/
def firstK (k : Int) : List Vl → Option Vl
  | [] => none
  | v :: l => if v.k = k then some v else firstK k l
def opV (op : Int) (vs : List Vl) : Vl :=
  match firstK 5 vs with
  | some v => v
  | none => match firstK 4 vs with
    | some v => v
    | none => resV (compR op (vs.getD 0 zeroV) (vs.getD (vs.length - 1) zeroV))
def choV (vs : List Vl) : Vl := if (condV (vs.getD 0 zeroV)).k = 2 then (if (vs.getD 0 zeroV).n = 1 then vs.getD 1 zeroV else vs.getD 2 zeroV) else condV (vs.getD 0 zeroV)
def conV (b : Bool) (vs : List Vl) : Vl := if (vs.getD 0 zeroV).k = 2 ∧ (vs.getD 0 zeroV).n = bitI b then condV (vs.getD 1 zeroV) else condV (vs.getD 0 zeroV)
def evN (fs : List (ByteArray × Vl)) (d : Nd) (vs : List Vl) : Vl :=
  if d.op = 1 then ⟨d.k, d.n, d.s⟩ else if d.op = 2 then factV fs d.nm else if d.op = 17 then choV vs else if d.op = 15 then conV true vs else if d.op = 16 then conV false vs else opV d.op vs
mutual
def Ex.ev (fs : List (ByteArray × Vl)) : Ex → Vl | .mk d l => evN fs d (evL fs l)
def evL (fs : List (ByteArray × Vl)) : List Ex → List Vl | [] => [] | x :: l => Ex.ev fs x :: evL fs l
end
theorem ev_mk (fs : List (ByteArray × Vl)) (d : Nd) (l : List Ex) : Ex.ev fs (.mk d l) = evN fs d (evL fs l) := by simp [Ex.ev]
theorem evL_nil (fs : List (ByteArray × Vl)) : evL fs [] = [] := by simp [evL]
theorem evL_cons (fs : List (ByteArray × Vl)) (x : Ex) (l : List Ex) : evL fs (x :: l) = Ex.ev fs x :: evL fs l := by simp [evL]
theorem evL_map (fs : List (ByteArray × Vl)) (l : List Ex) : evL fs l = l.map (Ex.ev fs) := by
  induction l with
  | nil => rw [evL_nil]; rfl
  | cons x l ih => rw [evL_cons, ih]; rfl
theorem evL_len (fs : List (ByteArray × Vl)) (l : List Ex) : (evL fs l).length = l.length := by rw [evL_map, List.length_map]
theorem evL_at (fs : List (ByteArray × Vl)) (l : List Ex) (i : Nat) (h : i < l.length) : (evL fs l).getD i zeroV = Ex.ev fs l[i] := by
  rw [evL_map, List.getD_eq_getElem?_getD, List.getElem?_map, List.getElem?_eq_getElem h]; rfl
theorem evL_get (fs : List (ByteArray × Vl)) (l : List Ex) (i : Nat) (h : i < l.length) (g : i < (evL fs l).length) : (evL fs l)[i] = Ex.ev fs l[i] := by
  simp only [evL_map, List.getElem_map]

theorem firstK_some {k : Int} {l : List Vl} {v : Vl} (h : firstK k l = some v) : v ∈ l ∧ v.k = k := by
  induction l with
  | nil => cases h
  | cons x l ih =>
    rw [firstK] at h
    by_cases e : x.k = k
    · rw [if_pos e] at h; injection h with h; subst h; exact ⟨by simp, e⟩
    · rw [if_neg e] at h; obtain ⟨h1, h2⟩ := ih h; exact ⟨by simp [h1], h2⟩
theorem firstK_none {k : Int} {l : List Vl} : firstK k l = none ↔ ∀ v ∈ l, v.k ≠ k := by
  induction l with
  | nil => simp [firstK]
  | cons x l ih =>
    rw [firstK]
    by_cases e : x.k = k
    · rw [if_pos e]; simp [e]
    · rw [if_neg e, ih]; simp [e]
theorem firstK_skip (k : Int) (l : List Vl) (j : Nat) (h : ∀ i (hi : i < l.length), i < j → l[i].k ≠ k) : firstK k l = firstK k (l.drop j) := by
  induction j generalizing l with
  | zero => rw [List.drop_zero]
  | succ j ih =>
    match l, h with
    | [], _ => rfl
    | v :: l, h =>
      rw [firstK, if_neg (show ¬ v.k = k from h 0 (by simp) (by omega)), List.drop_succ_cons]
      exact ih l fun i hi hij => h (i + 1) (by simpa using hi) (by omega)
theorem firstK_hit (k : Int) (l : List Vl) (j : Nat) (hj : j < l.length) (h : ∀ i (hi : i < l.length), i < j → l[i].k ≠ k) (he : l[j].k = k) : firstK k l = some l[j] := by
  rw [firstK_skip k l j h, List.drop_eq_getElem_cons hj, firstK, if_pos he]

/-! ### The values that come are such that may be -/
theorem bin_ok (a b c : Int) : (binE a b c = 0 → okN (binV a b c) = true) ∧ (binE a b c = 0 ∨ binE a b c = 7) := by
  unfold binE binV
  by_cases h : okN a = true ∧ okN b = true ∧ okN c = true
  · rw [if_pos h, if_pos h]; exact ⟨fun _ => h.2.2, .inl rfl⟩
  · rw [if_neg h, if_neg h]; exact ⟨fun h => absurd h (by decide), .inr rfl⟩
theorem quo_ok (a b c : Int) : (quoE a b c = 0 → okN (quoV a b c) = true) ∧ (quoE a b c = 0 ∨ quoE a b c = 7 ∨ quoE a b c = 8) := by
  unfold quoE quoV
  by_cases h : okN a = true
  · rw [if_pos h]
    by_cases g : b = 0
    · rw [if_pos g, if_pos g]; exact ⟨fun h => absurd h (by decide), .inr (.inr rfl)⟩
    · rw [if_neg g, if_neg g]
      exact ⟨(bin_ok a b c).1, (bin_ok a b c).2.imp_right .inl⟩
  · rw [if_neg h]; exact ⟨fun h => absurd h (by decide), .inr (.inl rfl)⟩
theorem arN_ok (op a b : Int) : ((arN op a b).2 = 0 → okN (arN op a b).1 = true) ∧ ((arN op a b).2 = 0 ∨ (arN op a b).2 = 7 ∨ (arN op a b).2 = 8) := by
  unfold arN
  have hb := fun c => bin_ok a b c
  have hq := fun c => quo_ok a b c
  split
  · exact ⟨(hb _).1, (hb _).2.imp_right .inl⟩
  split
  · exact ⟨(hb _).1, (hb _).2.imp_right .inl⟩
  split
  · exact ⟨(hq _).1, (hq _).2⟩
  split
  · exact ⟨(hq _).1, (hq _).2⟩
  · exact ⟨(hb _).1, (hb _).2.imp_right .inl⟩
/-- A result: a value of a type, or one of four errors. -/
def Res (t : Int) (r : Vl × Int) : Prop := (r.2 = 0 ∧ r.1.ok ∧ r.1.k = t) ∨ r.2 = 1 ∨ r.2 = 7 ∨ r.2 = 8 ∨ r.2 = 9
theorem arR_res (op : Int) (a b : Vl) : Res 1 (arR op a b) ∧ (a.k = 1 → b.k = 1 → (arR op a b).2 ≠ 9) := by
  unfold arR
  obtain ⟨h1, h2⟩ := arN_ok op a.n b.n
  by_cases h : a.k = 1 ∧ b.k = 1
  · rw [if_pos h]
    by_cases g : (arN op a.n b.n).2 = 0
    · rw [if_pos g]; exact ⟨.inl ⟨rfl, ok_int (h1 g), rfl⟩, fun _ _ => (by decide : (0 : Int) ≠ 9)⟩
    · rw [if_neg g]
      exact ⟨by rcases h2 with h2 | h2 | h2
                · exact absurd h2 g
                · exact .inr (.inr (.inl h2))
                · exact .inr (.inr (.inr (.inl h2))), fun _ _ => by show (arN op a.n b.n).2 ≠ 9; omega⟩
  · rw [if_neg h]; exact ⟨.inr (.inr (.inr (.inr rfl))), fun h1 h2 => absurd ⟨h1, h2⟩ h⟩
theorem notR_res (v : Vl) : Res 2 (notR v) ∧ (v.k = 2 → (notR v).2 = 0) := by
  unfold notR
  by_cases h : v.k = 2
  · rw [if_pos h]; exact ⟨.inl ⟨rfl, ok_tru _, rfl⟩, fun _ => rfl⟩
  · rw [if_neg h]; exact ⟨.inr (.inr (.inr (.inr rfl))), fun g => absurd g h⟩
theorem cleanL_app (a b : List UInt8) : cleanL (a ++ b) = (cleanL a && cleanL b) := by unfold cleanL; rw [List.all_append]
theorem app_list (a b : ByteArray) : (a ++ b).data.toList = a.data.toList ++ b.data.toList := by
  rw [ByteArray.data_append, Array.toList_append]
theorem joinR_res {a b : Vl} (ha : a.ok) (hb : b.ok) : Res 3 (joinR a b) ∧ (a.k = 3 → b.k = 3 → (joinR a b).2 ≠ 9) := by
  unfold joinR
  by_cases h : a.k = 3 ∧ b.k = 3
  · rw [if_pos h]
    by_cases g : 40 < a.s.size + b.s.size
    · rw [if_pos g]; exact ⟨.inr (.inl rfl), fun _ _ => by decide⟩
    · rw [if_neg g]
      refine ⟨.inl ⟨rfl, ok_text ?_ ?_, rfl⟩, fun _ _ => (by decide : (0 : Int) ≠ 9)⟩
      · rw [ByteArray.size_append]; omega
      · have hA : cleanL a.s.data.toList = true := by
          rcases ok_cases ha with g | g | g | g | g
          · omega
          · omega
          · exact g.2.2.2
          · omega
          · omega
        have hB : cleanL b.s.data.toList = true := by
          rcases ok_cases hb with g | g | g | g | g
          · omega
          · omega
          · exact g.2.2.2
          · omega
          · omega
        rw [app_list, cleanL_app, hA, hB]; rfl
  · rw [if_neg h]; exact ⟨.inr (.inr (.inr (.inr rfl))), fun h1 h2 => absurd ⟨h1, h2⟩ h⟩
theorem lenR_res {v : Vl} (hv : v.ok) : Res 1 (lenR v) ∧ (v.k = 3 → (lenR v).2 = 0) := by
  unfold lenR
  by_cases h : v.k = 3
  · rw [if_pos h]
    refine ⟨.inl ⟨rfl, ok_int ?_, rfl⟩, fun _ => rfl⟩
    rcases ok_cases hv with g | g | g | g | g
    · omega
    · omega
    · exact okN_iff.2 (by omega)
    · omega
    · omega
  · rw [if_neg h]; exact ⟨.inr (.inr (.inr (.inr rfl))), fun g => absurd g h⟩
theorem cmpR_res (op : Int) (a b : Vl) : Res 2 (cmpR op a b) ∧ (a.k = b.k → (cmpR op a b).2 = 0) := by
  unfold cmpR
  by_cases h : a.k = b.k
  · rw [if_pos h]; exact ⟨.inl ⟨rfl, ok_tru _, rfl⟩, fun _ => rfl⟩
  · rw [if_neg h]; exact ⟨.inr (.inr (.inr (.inr rfl))), fun g => absurd g h⟩
theorem compR_ok (op : Int) {a b : Vl} (ha : a.ok) (hb : b.ok) : (resV (compR op a b)).ok := by
  have key : ∀ t r, Res t r → (resV r).ok := fun t r h => by
    unfold resV
    rcases h with ⟨h1, h2, _⟩ | h | h | h | h
    · rw [if_pos h1]; exact h2
    all_goals (rw [if_neg (by omega), h]; exact ok_flt (by decide) (by decide))
  unfold compR
  split
  · exact key _ _ (arR_res _ _ _).1
  split
  · exact key _ _ (notR_res _).1
  split
  · exact key _ _ (joinR_res ha hb).1
  split
  · exact key _ _ (lenR_res hb).1
  split
  · exact key _ _ (arR_res _ _ _).1
  · exact key _ _ (cmpR_res _ _ _).1
theorem cond_ok {v : Vl} (h : v.ok) : (condV v).ok := by
  unfold condV; split
  · exact ok_flt (by decide) (by decide)
  · exact h
theorem getD_ok {vs : List Vl} (h : ∀ v ∈ vs, v.ok) (i : Nat) (hi : i < vs.length) : (vs.getD i zeroV).ok := by
  rw [List.getD_eq_getElem?_getD, List.getElem?_eq_getElem hi]; exact h _ (List.getElem_mem hi)
theorem opV_ok (op : Int) {vs : List Vl} (h : ∀ v ∈ vs, v.ok) (h1 : 1 ≤ vs.length) : (opV op vs).ok := by
  unfold opV
  split
  · rename_i v hv; exact h v (firstK_some hv).1
  split
  · rename_i v hv; exact h v (firstK_some hv).1
  · exact compR_ok op (getD_ok h 0 (by omega)) (getD_ok h (vs.length - 1) (by omega))
theorem choV_ok {vs : List Vl} (h : ∀ v ∈ vs, v.ok) (h1 : vs.length = 3) : (choV vs).ok := by
  unfold choV
  split
  · split
    · exact getD_ok h 1 (by omega)
    · exact getD_ok h 2 (by omega)
  · exact cond_ok (getD_ok h 0 (by omega))
theorem conV_ok (b : Bool) {vs : List Vl} (h : ∀ v ∈ vs, v.ok) (h1 : vs.length = 2) : (conV b vs).ok := by
  unfold conV
  split
  · exact cond_ok (getD_ok h 1 (by omega))
  · exact cond_ok (getD_ok h 0 (by omega))
theorem arity_cases (op : Int) : (op = 17 → arity op = 3) ∧ (op = 15 ∨ op = 16 → arity op = 2) ∧ (op ≠ 1 → op ≠ 2 → 1 ≤ arity op ∧ arity op ≤ 3) ∧ (op ≠ 1 → op ≠ 2 → op ≠ 17 → arity op ≤ 2) ∧ ((op = 3 ∨ op = 4 ∨ op = 18) → arity op = 1) ∧ (5 ≤ op → op ≤ 14 → arity op = 2) := by
  unfold arity
  refine ⟨?_, ?_, ?_, ?_, ?_, ?_⟩ <;> intros <;> (repeat' split) <;> omega
theorem okN_const {d : Nd} {l : List Ex} (h : (Ex.mk d l).okN) (h1 : d.op = 1) : knownB d.k d.n d.s.data.toList = true := by
  have := ((okN_mk d l).1 h).1
  unfold nodeE at this
  rw [if_neg (by omega)] at this
  by_cases h2 : l.length = arity d.op ∧ vOk d = true ∧ nmOk d = true
  · have h3 := h2.2.1
    unfold vOk at h3
    rw [if_pos h1, Bool.and_eq_true] at h3
    exact h3.1
  · rw [if_neg h2] at this; exact absurd this (by decide)
theorem known_ok {k n : Int} {s : ByteArray} (h : knownB k n s.data.toList = true) : (⟨k, n, s⟩ : Vl).ok := by
  unfold knownB at h
  rw [Bool.and_eq_true, decide_eq_true_eq] at h
  exact h.2
theorem known_kind {k n : Int} {l : List UInt8} (h : knownB k n l = true) : k = 1 ∨ k = 2 ∨ k = 3 := by
  unfold knownB isT at h
  simp only [Bool.and_eq_true, Bool.or_eq_true, decide_eq_true_eq] at h
  omega
/-- What is evaluated is a value that may be. -/
theorem ev_ok {fs : List (ByteArray × Vl)} (hf : ∀ f ∈ fs, f.2.ok) : ∀ x : Ex, x.okN → (Ex.ev fs x).ok := by
  refine Ex.ind fun d l ih => ?_
  intro h
  obtain ⟨o1, o2, o3⟩ := okN_op h
  have hl := ((okN_mk d l).1 h).2
  have hv : ∀ v ∈ evL fs l, v.ok := fun v hv => by
    rw [evL_map] at hv
    obtain ⟨x, hx, rfl⟩ := List.mem_map.1 hv
    exact ih x hx (hl x hx)
  have hn := evL_len fs l
  obtain ⟨a1, a2, a3, _⟩ := arity_cases d.op
  rw [ev_mk]
  unfold evN
  split
  · rename_i g; exact known_ok (okN_const h g)
  split
  · exact factV_ok hf _
  split
  · exact choV_ok hv (by rw [hn, o3]; exact a1 (by assumption))
  split
  · exact conV_ok _ hv (by rw [hn, o3]; exact a2 (.inl (by assumption)))
  split
  · exact conV_ok _ hv (by rw [hn, o3]; exact a2 (.inr (by assumption)))
  · exact opV_ok _ hv (by rw [hn, o3]; exact (a3 (by assumption) (by assumption)).1)

/-- P7.1 whole. -/
def badF : List (ByteArray × Vl) → Int
  | [] => 0
  | f :: l => if valE f.2.k f.2.n f.2.s.data.toList = 0 then badF l else valE f.2.k f.2.n f.2.s.data.toList
def ofE (fs : List (ByteArray × Vl)) (x : Ex) : Int := if x.checkE = 0 then badF fs else x.checkE
def ofV (fs : List (ByteArray × Vl)) (x : Ex) : Vl := if ofE fs x = 0 then Ex.ev fs x else zeroV
theorem badF_zero (fs : List (ByteArray × Vl)) : badF fs = 0 ↔ ∀ f ∈ fs, f.2.ok := by
  induction fs with
  | nil => simp [badF]
  | cons f l ih =>
    rw [badF]
    by_cases h : valE f.2.k f.2.n f.2.s.data.toList = 0
    · rw [if_pos h, ih]; simp [Vl.ok, h]
    · rw [if_neg h]; simp [Vl.ok, h]
theorem badF_skip (fs : List (ByteArray × Vl)) (k : Nat) (h : ∀ j (hj : j < fs.length), j < k → fs[j].2.ok) : badF fs = badF (fs.drop k) := by
  induction k generalizing fs with
  | zero => rw [List.drop_zero]
  | succ k ih =>
    match fs, h with
    | [], _ => rfl
    | f :: l, h =>
      rw [badF, if_pos (show valE f.2.k f.2.n f.2.s.data.toList = 0 from h 0 (by simp) (by omega)), List.drop_succ_cons]
      exact ih l fun j hj hjk => h (j + 1) (by simpa using hj) (by omega)
theorem badF_hit (fs : List (ByteArray × Vl)) (k : Nat) (hk : k < fs.length) (h : ∀ j (hj : j < fs.length), j < k → fs[j].2.ok) (he : ¬ fs[k].2.ok) : badF fs = valE fs[k].2.k fs[k].2.n fs[k].2.s.data.toList := by
  rw [badF_skip fs k h, List.drop_eq_getElem_cons hk, badF, if_neg (show ¬ valE fs[k].2.k fs[k].2.n fs[k].2.s.data.toList = 0 from he)]
theorem ofE_ok {fs : List (ByteArray × Vl)} {x : Ex} (h1 : x.checkE = 0) (h2 : ∀ f ∈ fs, f.2.ok) : ofE fs x = 0 ∧ ofV fs x = Ex.ev fs x := by
  have : ofE fs x = 0 := by unfold ofE; rw [if_pos h1]; exact (badF_zero fs).2 h2
  exact ⟨this, by unfold ofV; rw [if_pos this]⟩
end Go.Proofs.YtehkebncdahmcaaGreatDoor.EvM
