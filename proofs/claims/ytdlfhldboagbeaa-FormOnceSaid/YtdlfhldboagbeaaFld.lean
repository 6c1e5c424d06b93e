/- Package field, and the reference's: the place of a field; whether a field may be told a value. -/
import Derived.Test.YtdlfhldboagbeaaGenLeaf
import Derived.Test.YtdlfhldboagbeaaValue
import Derived.RegionTactic
import Derived.BigQuiet
import Derived.Deep.QuietTactic
import Derived.Deep.RegionLaw
namespace Go.Proofs.Ytdlfhldboagbeaa.FldP
open Go.RowKit
open ValM LexM NumM ExM Kit ExL RawV Within RawL GenL
set_option linter.unusedVariables false

/-- The place of a field, or as many as there are. -/
def atF : List GenL.Fd → ByteArray → Nat
  | [], _ => 0
  | f :: l, s => if f.nm = s then 0 else atF l s + 1
theorem atF_le : ∀ (fs : List GenL.Fd) (s : ByteArray), atF fs s ≤ fs.length
  | [], _ => Nat.le_refl _
  | f :: l, s => by
    unfold atF
    split
    · exact Nat.zero_le _
    · exact Nat.succ_le_succ (atF_le l s)
theorem atF_eq : ∀ (fs : List GenL.Fd) (s : ByteArray) (k : Nat) (hk : k < fs.length), (∀ j (hj : j < fs.length), j < k → fs[j].nm ≠ s) → fs[k].nm = s → atF fs s = k
  | f :: l, s, 0, hk, h, he => by unfold atF; rw [if_pos (show f.nm = s from he)]
  | f :: l, s, k + 1, hk, h, he => by
    unfold atF
    rw [if_neg (show ¬ f.nm = s from h 0 (by simp) (by omega)), atF_eq l s k (by simpa using hk) (fun j hj hjk => h (j + 1) (by simpa using hj) (by omega)) he]
theorem atF_none {fs : List GenL.Fd} {s : ByteArray} (h : ∀ j (hj : j < fs.length), fs[j].nm ≠ s) : atF fs s = fs.length := by
  induction fs with
  | nil => rfl
  | cons f l ih =>
    unfold atF
    rw [if_neg (show ¬ f.nm = s from h 0 (by simp)), ih fun j hj => h (j + 1) (by simpa using hj)]; rfl
theorem atF_at {fs : List GenL.Fd} {s : ByteArray} (h : atF fs s < fs.length) : fs[atF fs s].nm = s ∧ ∀ j (hj : j < fs.length), j < atF fs s → fs[j].nm ≠ s := by
  by_cases hex : ∃ j, ∃ hj : j < fs.length, fs[j].nm = s
  · obtain ⟨k, hk, hmin⟩ : ∃ k, (∃ hk : k < fs.length, fs[k].nm = s) ∧ ∀ j, j < k → ¬ ∃ hj : j < fs.length, fs[j].nm = s := by
      obtain ⟨j, hj⟩ := hex
      exact Nat.strongRecOn (motive := fun j => (∃ hj : j < fs.length, fs[j].nm = s) → ∃ k, (∃ hk : k < fs.length, fs[k].nm = s) ∧ ∀ j, j < k → ¬ ∃ hj : j < fs.length, fs[j].nm = s) j (fun m ih hm => by
        by_cases h : ∃ i, i < m ∧ ∃ hi : i < fs.length, fs[i].nm = s
        · obtain ⟨i, hi, hh⟩ := h
          exact ih i hi hh
        · exact ⟨m, hm, fun j hj hh => h ⟨j, hj, hh⟩⟩) hj
    obtain ⟨hk, he⟩ := hk
    have e := atF_eq fs s k hk (fun j hj hjk hh => hmin j hjk ⟨hj, hh⟩) he
    refine ⟨?_, fun j hj hjk hh => hmin j (by omega) ⟨hj, hh⟩⟩
    simp only [e]; exact he
  · have := atF_none (fs := fs) (s := s) fun j hj hh => hex ⟨j, hj, hh⟩
    omega
theorem atF_take {fs : List GenL.Fd} {s : ByteArray} {k : Nat} (hk : k ≤ fs.length) : atF (fs.take k) s < k ↔ atF fs s < k := by
  have hl : (fs.take k).length = k := by simp; omega
  constructor
  · intro h
    obtain ⟨h1, h2⟩ := atF_at (fs := fs.take k) (s := s) (by omega)
    have e := atF_eq fs s (atF (fs.take k) s) (by omega) (fun j hj hjk => by have := h2 j (by omega) hjk; simpa using this) (by simpa using h1)
    omega
  · intro h
    obtain ⟨h1, h2⟩ := atF_at (fs := fs) (s := s) (by omega)
    have e := atF_eq (fs.take k) s (atF fs s) (by omega) (fun j hj hjk => by have := h2 j (by omega) hjk; simpa using this) (by simpa using h1)
    omega
theorem Flds.take {w : World} {A : Option Addr} {fs : List GenL.Fd} (h : Flds w A fs) (k : Nat) : Flds w A (fs.take k) := fun i hi => by
  obtain ⟨a, e, hf⟩ := h i (by simp at hi; omega)
  exact ⟨a, e, by simpa using hf⟩
theorem eq_t {a b : ByteArray} (h : a = b) : (a.toList == b.toList) = true := by rw [h]; simp
theorem eq_f {a b : ByteArray} (h : ¬ a = b) : (a.toList == b.toList) = false := beq_eq_false_iff_ne.2 fun e => h (by
  rw [ByteArray.toList_eq, ByteArray.toList_eq] at e
  exact ByteArray.ext (Array.ext' e))

set_option maxHeartbeats 1000000 in
theorem find_any (s : ByteArray) (fs : List GenL.Fd) (FA : Option Addr) (fc : Nat) (w : World) (hf : Flds w FA fs) (hm : fs.length ≤ 9223372036854775807) :
    Calls Try.prog 19 #[.slice FA fs.length fc, .string s] w fun e w' => e = .returned (.tuple #[.int .i64 (if atF fs s < fs.length then (atF fs s : Int) else 0), .int .i64 (if atF fs s < fs.length then 0 else 5)]) ∧ w = w' := by
  obtain ⟨R, hR⟩ : ∃ R : Int × Int, ((if atF fs s < fs.length then (atF fs s : Int) else 0), (if atF fs s < fs.length then (0 : Int) else 5)) = R := ⟨_, rfl⟩
  have hgood : ∀ k (hk : k < fs.length), (∀ j (hj : j < fs.length), j < k → fs[j].nm ≠ s) → fs[k].nm = s → R = ((k : Int), 0) := fun k hk h he => by
    rw [← hR, atF_eq fs s k hk h he, if_pos hk, if_pos hk]
  have hbad : (∀ j (hj : j < fs.length), fs[j].nm ≠ s) → R = (0, 5) := fun h => by
    rw [← hR, atF_none h, if_neg (Nat.lt_irrefl _), if_neg (Nat.lt_irrefl _)]
  rw [show (if atF fs s < fs.length then (atF fs s : Int) else 0) = R.1 from congrArg Prod.fst hR, show (if atF fs s < fs.length then (0 : Int) else 5) = R.2 from congrArg Prod.snd hR]
  have HG := Lib.hid hgood
  have HB := Lib.hid hbad
  have HF := Lib.hid hf
  clear hgood hbad hR hf
  go_enter Try.func19, Try.ntmps19
  go_wp2_with fail
  go_loopw [6, 9] (fun _ i wr => ∃ (k : Nat), i = .int .i64 k ∧ k ≤ fs.length ∧ (∀ j (hj : j < fs.length), j < k → fs[j].nm ≠ s) ∧ wr = w) (fun _ i _ => fs.length - (intOf i).toNat)
  case atStart => exact ⟨0, rfl, Nat.zero_le _, fun j hj hjk => absurd hjk (by omega), rfl⟩
  case round =>
    obtain ⟨k, rfl, hk, hall, rfl⟩ := hrel
    by_cases hlt : k < fs.length
    · obtain ⟨a, rfl, h0, h1, h2, h3⟩ := HF.out k hlt
      have hg := HG.out k hlt hall
      have hnext : fs[k].nm ≠ s → ∀ j (hj : j < fs.length), j < k + 1 → fs[j].nm ≠ s := fun e j hj hjk => by
        rcases Nat.lt_or_ge j k with h | h
        · exact hall j hj h
        · obtain rfl : j = k := by omega
          exact e
      obtain ⟨nm, hnm⟩ : ∃ a, fs[k].nm = a := ⟨_, rfl⟩
      rw [hnm] at hg hnext h0
      have HG2 := Lib.hid hg
      have HN := Lib.hid hnext
      clear hg hnext hall hnm h2 h3 h1
      by_cases he : nm = s
      · obtain rfl := HG2.out he
        have t1 : (nm.toList == s.toList) = true := eq_t he
        go_wp2_with fail
        go_ret2
        exact ⟨rfl, rfl⟩
      · have t1 : (nm.toList == s.toList) = false := eq_f he
        go_wp2_with fail
        go_roundw
        case rel => exact ⟨k + 1, by go_num, by omega, HN.out he, by first | rfl | trivial⟩
        case measure => simp [intOf]; omega
    · obtain rfl := HB.out fun j hj => hall j hj (by omega)
      clear hall
      go_wp2_with fail
      go_ret2
      exact ⟨rfl, rfl⟩
set_option maxHeartbeats 1000000 in
theorem refAt_any (s : ByteArray) (fs : List GenL.Fd) (FA : Option Addr) (fc : Nat) (w : World) (hf : Flds w FA fs) (hm : fs.length ≤ 9223372036854775807) :
    Calls Try.prog 21 #[.slice FA fs.length fc, .string s] w fun e w' => e = .returned (.int .i64 (atF fs s : Int)) ∧ Below w.heap.size w w' := by
  obtain ⟨R, hR⟩ : ∃ R : Int, (atF fs s : Int) = R := ⟨_, rfl⟩
  have hgood : ∀ k (hk : k < fs.length), (∀ j (hj : j < fs.length), j < k → fs[j].nm ≠ s) → fs[k].nm = s → R = (k : Int) := fun k hk h he => by
    rw [← hR, atF_eq fs s k hk h he]
  have hbad : (∀ j (hj : j < fs.length), fs[j].nm ≠ s) → R = (fs.length : Int) := fun h => by
    rw [← hR, atF_none h]
  rw [hR]
  have HG := Lib.hid hgood
  have HB := Lib.hid hbad
  have HF := Lib.hid hf
  clear hgood hbad hR hf
  go_enter Try.func21, Try.ntmps21
  go_wp2_with fail
  go_loopw [5, 6, 9] (fun _ _ i wr => ∃ (k : Nat), i = .int .i64 k ∧ k ≤ fs.length ∧ (∀ j (hj : j < fs.length), j < k → fs[j].nm ≠ s) ∧ Below w.heap.size w wr) (fun _ _ i _ => fs.length - (intOf i).toNat)
  case atStart => exact ⟨0, rfl, Nat.zero_le _, fun j hj hjk => absurd hjk (by omega), Below.refl _ _⟩
  case round =>
    obtain ⟨k, rfl, hk, hall, hb⟩ := hrel
    by_cases hlt : k < fs.length
    · obtain ⟨a, rfl, hat⟩ := HF.out k hlt
      obtain ⟨q0, q1, q2, q3, q4, q5, q6, q7, q8⟩ := hat.of_block (hb.block _ hat.lt)
      have hg := HG.out k hlt hall
      have hnext : fs[k].nm ≠ s → ∀ j (hj : j < fs.length), j < k + 1 → fs[j].nm ≠ s := fun e j hj hjk => by
        rcases Nat.lt_or_ge j k with h | h
        · exact hall j hj h
        · obtain rfl : j = k := by omega
          exact e
      obtain ⟨f, hfk⟩ : ∃ f, fs[k] = f := ⟨_, rfl⟩
      rw [hfk] at q0 q1 q2 q3 q4 q5 q6 q7 q8 hg hnext
      have HG2 := Lib.hid hg
      have HN := Lib.hid hnext
      have HBl := Lib.hid hb
      clear hg hnext hall hfk hat hb
      by_cases he : f.nm = s
      · obtain rfl := HG2.out he
        have t1 : (f.nm.toList == s.toList) = true := eq_t he
        clear he
        go_wp2_with fail
        go_ret
        exact ⟨rfl, b_more HBl.out _⟩
      · have t1 : (f.nm.toList == s.toList) = false := eq_f he
        have HN := Lib.hid (HN.out he)
        clear he
        go_wp2_with fail
        go_roundw
        case rel => exact ⟨k + 1, by go_num, by omega, HN.out, b_more HBl.out _⟩
        case measure => simp [intOf]; omega
    · obtain rfl := HB.out fun j hj => hall j hj (by omega)
      have HBl := Lib.hid hb
      clear hall hb
      go_wp2_with fail
      go_ret
      exact ⟨rfl, HBl.out⟩
/-! ### a value is told -/
/-- P9.4. -/
def toldE (fs : List GenL.Fd) (s : ByteArray) (k n : Int) (t : ByteArray) : Int :=
  if h : atF fs s < fs.length then (if fs[atF fs s].kind = 1 then (if knownB k n t.data.toList = true ∧ k = fs[atF fs s].ty then 0 else 9) else 2) else 5
set_option maxHeartbeats 2000000 in
theorem told_any (s : ByteArray) (k n : Int) (t : ByteArray) (fs : List GenL.Fd) (FA : Option Addr) (fc : Nat) (w : World) (hf : Flds w FA fs) (hm : fs.length ≤ 9223372036854775807) :
    Calls Try.prog 12 #[.slice FA fs.length fc, .string s, .agg #[.int .i64 k, .int .i64 n, .string t]] w fun e w' => e = .returned (.int .i64 (toldE fs s k n t)) ∧ Below w.heap.size w w' := by
  have hb0 := b_new w (.cells #[.int .i64 k, .int .i64 n, .string t] 35)
  have hfi := find_any s fs FA fc (w.alloc (.cells #[.int .i64 k, .int .i64 n, .string t] 35)) (hf.below hb0) hm
  have hkn := fun W => Val.known_any k n t W
  obtain ⟨R, hR⟩ : ∃ R, toldE fs s k n t = R := ⟨_, rfl⟩
  rw [hR]
  unfold toldE at hR
  generalize hj : atF fs s = j at hfi hR
  by_cases hlt : j < fs.length
  · rw [if_pos hlt, if_pos hlt] at hfi
    rw [dif_pos hlt] at hR
    obtain ⟨a, rfl, hat⟩ := hf j hlt
    obtain ⟨q0, q1, q2, q3, q4, q5, q6, q7, q8⟩ := hat.of_block (hb0.block _ hat.lt)
    obtain ⟨f, hfk⟩ : ∃ f, fs[j] = f := ⟨_, rfl⟩
    rw [hfk] at q0 q1 q2 hR
    obtain ⟨kb, hkb⟩ : ∃ b, knownB k n t.data.toList = b := ⟨_, rfl⟩
    rw [hkb] at hkn hR
    have hab : a.block < w.heap.size := by have := hat.lt; rw [block_of_add] at this; exact this
    have HFi := Lib.hid hfi
    have HKn := Lib.hid hkn
    have HB0 := Lib.hid hb0
    obtain ⟨W, hW⟩ : ∃ W, w.alloc (.cells #[.int .i64 k, .int .i64 n, .string t] 35) = W := ⟨_, rfl⟩
    have hBx : W.heap[w.heap.size]? = some (.cells #[.int .i64 k, .int .i64 n, .string t] 35 (0, 0)) := by rw [← hW]; exact World.alloc_heap_new w _
    have hcell : ∀ V, Below W.heap.size W V → V.cell? ⟨w.heap.size, 0, none⟩ = some (.int .i64 k) ∧ V.cell? ⟨w.heap.size, 1, none⟩ = some (.int .i64 n) ∧ V.cell? ⟨w.heap.size, 2, none⟩ = some (.string t) ∧ V.cell? ⟨(a.add (j * 9)).block, (a.add (j * 9)).off + 1, none⟩ = some (.int .i64 f.kind) ∧ V.cell? ⟨(a.add (j * 9)).block, (a.add (j * 9)).off + 2, none⟩ = some (.int .i64 f.ty) := fun V hV => by
      have e1 : V.heap[w.heap.size]? = _ := (hV.block _ (Array.getElem?_eq_some_iff.1 hBx).1).trans hBx
      have e2 : V.heap[(a.add (j * 9)).block]? = W.heap[(a.add (j * 9)).block]? := hV.block _ (by rw [← hW, World.size_alloc, block_of_add]; omega)
      rw [← hW] at e2
      exact ⟨by simp [World.cell?, e1], by simp [World.cell?, e1], by simp [World.cell?, e1], (World.cell?_of_block (a := ⟨(a.add (j * 9)).block, (a.add (j * 9)).off + 1, none⟩) e2).trans q1, (World.cell?_of_block (a := ⟨(a.add (j * 9)).block, (a.add (j * 9)).off + 2, none⟩) e2).trans q2⟩
    have HCell := Lib.hid hcell
    obtain ⟨k0, k1, k2, k3, k4⟩ := hcell W (Below.refl _ _)
    rw [hW] at HFi HB0 q1
    have HW := Lib.hid hW
    clear hfi hkn hat hfk hf hj q0 q1 q2 q3 q4 q5 q6 q7 q8 hkb hcell hBx hW hb0
    by_cases e1 : f.kind = 1
    · rw [if_pos e1] at hR
      have t1 : (f.kind != 1) = false := by rw [e1]; rfl
      clear e1
      have hres : (kb = false ∧ R = 9) ∨ (kb = true ∧ (k != f.ty) = true ∧ R = 9) ∨ (kb = true ∧ (k != f.ty) = false ∧ R = 0) := by
        cases kb
        · exact .inl ⟨rfl, by rw [← hR, if_neg (by simp)]⟩
        · by_cases e2 : k = f.ty
          · exact .inr (.inr ⟨rfl, by rw [e2]; simp, by rw [← hR, if_pos ⟨rfl, e2⟩]⟩)
          · exact .inr (.inl ⟨rfl, by simpa using e2, by rw [← hR, if_neg (fun h => e2 h.2)]⟩)
      clear hR
      rcases hres with ⟨rfl, rfl⟩ | ⟨rfl, t2, rfl⟩ | ⟨rfl, t2, rfl⟩
      all_goals
        go_enter Try.func12, Try.ntmps12
        go_wp2_with fail
        rw [HW.out]
        refine HFi.out.mono ?_; rintro e w1 ⟨rfl, rfl⟩
        go_wp2_with fail
        first | (go_region_law (go_simp; go_at_call 20; (with_reducible refine (HKn.out _).mono ?_); rintro e w5 ⟨rfl, hb5⟩; have hb6 : Below W.heap.size W w5 := (by first | exact hb5 | exact b_undrew hb5); obtain ⟨k0, k1, k2, k3, k4⟩ := HCell.out w5 hb6; have HB5 := Lib.hid hb6; clear hb5 hb6)) | (fail)
        all_goals
          go_wp2_with fail
          go_ret
          first | exact ⟨rfl, b_trans HB0.out HB5.out⟩ | exact ⟨rfl, b_trans HB0.out (b_drew HB5.out)⟩ | exact ⟨rfl, b_trans HB0.out (b_drew (b_drew HB5.out))⟩
    · rw [if_neg e1] at hR
      subst hR
      have t1 : (f.kind != 1) = true := by simpa using e1
      clear e1
      go_enter Try.func12, Try.ntmps12
      go_wp2_with fail
      rw [HW.out]
      refine HFi.out.mono ?_; rintro e w1 ⟨rfl, rfl⟩
      go_wp2_with fail
      go_ret
      exact ⟨rfl, HB0.out⟩
  · rw [if_neg hlt, if_neg hlt] at hfi
    rw [dif_neg hlt] at hR
    subst hR
    have HFi := Lib.hid hfi
    clear hfi hkn hf hj
    go_enter Try.func12, Try.ntmps12
    go_wp2_with fail
    refine HFi.out.mono ?_; rintro e w1 ⟨rfl, rfl⟩
    go_wp2_with fail
    go_ret
    exact ⟨rfl, hb0⟩
set_option maxHeartbeats 2000000 in
theorem refTold_any (s : ByteArray) (k n : Int) (t : ByteArray) (fs : List GenL.Fd) (FA : Option Addr) (fc : Nat) (w : World) (hf : Flds w FA fs) (hm : fs.length ≤ 9223372036854775807) :
    Calls Try.prog 13 #[.slice FA fs.length fc, .string s, .agg #[.int .i64 k, .int .i64 n, .string t]] w fun e w' => e = .returned (.int .i64 (toldE fs s k n t)) ∧ Below w.heap.size w w' := by
  have hb0 := b_new w (.cells #[.int .i64 k, .int .i64 n, .string t] 35)
  have hfi := refAt_any s fs FA fc (w.alloc (.cells #[.int .i64 k, .int .i64 n, .string t] 35)) (hf.below hb0) hm
  have hkn := fun W => ValRef.known_any k n t W
  obtain ⟨R, hR⟩ : ∃ R, toldE fs s k n t = R := ⟨_, rfl⟩
  rw [hR]
  unfold toldE at hR
  have hle := atF_le fs s
  generalize hj : atF fs s = j at hfi hR hle
  obtain ⟨W, hW⟩ : ∃ W, w.alloc (.cells #[.int .i64 k, .int .i64 n, .string t] 35) = W := ⟨_, rfl⟩
  by_cases hlt : j < fs.length
  · rw [dif_pos hlt] at hR
    have t0 : ((j : Int) == (fs.length : Int)) = false := beq_eq_false_iff_ne.2 (by omega)
    obtain ⟨a, rfl, hat⟩ := hf j hlt
    obtain ⟨q0, q1, q2, q3, q4, q5, q6, q7, q8⟩ := hat.of_block (hb0.block _ hat.lt)
    obtain ⟨f, hfk⟩ : ∃ f, fs[j] = f := ⟨_, rfl⟩
    rw [hfk] at q0 q1 q2 hR
    obtain ⟨kb, hkb⟩ : ∃ b, knownB k n t.data.toList = b := ⟨_, rfl⟩
    rw [hkb] at hkn hR
    have hBx : W.heap[w.heap.size]? = some (.cells #[.int .i64 k, .int .i64 n, .string t] 35 (0, 0)) := by rw [← hW]; exact World.alloc_heap_new w _
    have hcell : ∀ V, Below W.heap.size W V → V.cell? ⟨w.heap.size, 0, none⟩ = some (.int .i64 k) ∧ V.cell? ⟨w.heap.size, 1, none⟩ = some (.int .i64 n) ∧ V.cell? ⟨w.heap.size, 2, none⟩ = some (.string t) ∧ V.cell? ⟨(a.add (j * 9)).block, (a.add (j * 9)).off + 1, none⟩ = some (.int .i64 f.kind) ∧ V.cell? ⟨(a.add (j * 9)).block, (a.add (j * 9)).off + 2, none⟩ = some (.int .i64 f.ty) := fun V hV => by
      have e1 : V.heap[w.heap.size]? = _ := (hV.block _ (Array.getElem?_eq_some_iff.1 hBx).1).trans hBx
      have e2 : V.heap[(a.add (j * 9)).block]? = W.heap[(a.add (j * 9)).block]? := hV.block _ (by have := hat.lt; rw [← hW, World.size_alloc]; omega)
      rw [← hW] at e2
      exact ⟨by simp [World.cell?, e1], by simp [World.cell?, e1], by simp [World.cell?, e1], (World.cell?_of_block (a := ⟨(a.add (j * 9)).block, (a.add (j * 9)).off + 1, none⟩) e2).trans q1, (World.cell?_of_block (a := ⟨(a.add (j * 9)).block, (a.add (j * 9)).off + 2, none⟩) e2).trans q2⟩
    rw [hW] at hfi hb0
    have HFi := Lib.hid hfi
    have HKn := Lib.hid hkn
    have HB0 := Lib.hid hb0
    have HW := Lib.hid hW
    have HCell := Lib.hid hcell
    clear hfi hkn hat hfk hf hj q0 q1 q2 q3 q4 q5 q6 q7 q8 hkb hcell hBx hW hb0
    go_enter Try.func13, Try.ntmps13
    go_wp2_with fail
    rw [HW.out]
    refine HFi.out.mono ?_; rintro e w1 ⟨rfl, hb1⟩
    obtain ⟨k0, k1, k2, k3, k4⟩ := HCell.out w1 hb1
    have HB1 := Lib.hid (b_trans HB0.out hb1)
    clear hb1
    by_cases e1 : f.kind = 1
    · rw [if_pos e1] at hR
      have t1 : (f.kind != 1) = false := by rw [e1]; rfl
      have HE1 := Lib.hid e1
      clear e1
      by_cases e2 : k = f.ty
      · have t2 : (k != f.ty) = false := by rw [e2]; simp
        have hR2 : R = if kb = true then 0 else 9 := by
          rw [← hR]; cases kb <;> simp [e2]
        have HR := Lib.hid hR2
        clear hR hR2 e2
        cases kb
        all_goals
          go_wp2_with fail
          first | (go_region_law (go_simp; go_at_call 22; (with_reducible refine (HKn.out _).mono ?_); rintro e w5 ⟨rfl, hb5⟩; have HB5 := Lib.hid hb5; clear hb5)) | (fail)
          all_goals
            go_wp2_with fail
            go_ret
            rw [HR.out]
            first | exact ⟨rfl, b_trans HB1.out (b_undrew HB5.out)⟩ | exact ⟨rfl, b_trans HB1.out HB5.out⟩
      · have t2 : (k != f.ty) = true := by simpa using e2
        have hR2 : R = 9 := by rw [← hR, if_neg (fun h => e2 h.2)]
        have HR := Lib.hid hR2
        clear hR hR2 e2
        go_wp2_with fail
        first | (go_quiet (fail)) | (fail)
        all_goals
          go_wp2_with fail
          go_ret
          rw [HR.out]
          exact ⟨rfl, by have := HB1.out; repeat (first | exact this | refine b_drewN ?_ _ | refine b_drew ?_)⟩
    · rw [if_neg e1] at hR
      subst hR
      have t1 : (f.kind != 1) = true := by simpa using e1
      clear e1
      go_wp2_with fail
      go_ret
      exact ⟨rfl, HB1.out⟩
  · rw [dif_neg hlt] at hR
    subst hR
    have t0 : ((j : Int) == (fs.length : Int)) = true := by simp; omega
    rw [hW] at hfi hb0
    have HFi := Lib.hid hfi
    have HB0 := Lib.hid hb0
    have HW := Lib.hid hW
    clear hfi hkn hf hj hb0 hW
    go_enter Try.func13, Try.ntmps13
    go_wp2_with fail
    rw [HW.out]
    refine HFi.out.mono ?_; rintro e w1 ⟨rfl, hb1⟩
    have HB1 := Lib.hid (b_trans HB0.out hb1)
    clear hb1
    go_wp2_with fail
    go_ret
    exact ⟨rfl, HB1.out⟩
end Go.Proofs.Ytdlfhldboagbeaa.FldP
