/- Contracts of package value (chapter 2): Check, Known, Zero, Compare. Contracts of the reference of chapter 2: ValueFault, Known, ValueOrder. -/
import Derived.Test.YtdlfhldboagbeaaGreatDoorChecked
import Derived.Test.YtdlfhldboagbeaaGreatDoorNum
import Derived.Test.YtdlfhldboagbeaaGreatDoorBase
import Derived.WalkKit
import Derived.WalkSpells
import Derived.ProofKit
import Derived.Lib.Hide
import Derived.WalkLawsBesides
import Derived.Outline
import Derived.Test.YtdlfhldboagbeaaGreatDoorKit
import Derived.Deep.QuietTactic
import Derived.BigQuiet
namespace Go.Proofs.YtdlfhldboagbeaaGreatDoor.Val
open Go.RowKit
open NumM ValM
set_option linter.unusedVariables false

theorem within_in (n a b : Int) (w : World) (h1 : a ≤ n) (h2 : n ≤ b) :
    Calls Tryz.prog 161 #[.int .i64 n, .int .i64 a, .int .i64 b] w fun e w' => e = .returned (.int .i64 0) ∧ w = w' := by
  go_enter Tryz.func161, Tryz.ntmps161
  go_wp2
  go_ret
  exact ⟨rfl, rfl⟩
theorem within_out (n a b : Int) (w : World) (h : n < a ∨ (a ≤ n ∧ b < n)) :
    Calls Tryz.prog 161 #[.int .i64 n, .int .i64 a, .int .i64 b] w fun e w' => e = .returned (.int .i64 4) ∧ w = w' := by
  rcases h with h | ⟨h, h'⟩
  all_goals
    go_enter Tryz.func161, Tryz.ntmps161
    go_wp2
    go_ret
    exact ⟨rfl, rfl⟩
theorem within_any (n a b : Int) (w : World) :
    Calls Tryz.prog 161 #[.int .i64 n, .int .i64 a, .int .i64 b] w fun e w' => e = .returned (.int .i64 (if a ≤ n ∧ n ≤ b then 0 else 4)) ∧ w = w' := by
  by_cases h : a ≤ n ∧ n ≤ b
  · rw [if_pos h]; exact within_in n a b w h.1 h.2
  · rw [if_neg h]; exact within_out n a b w (by omega)

theorem isType_any (k : Int) (w : World) :
    Calls Tryz.prog 110 #[.int .i64 k] w fun e w' => e = .returned (.bool (isT k)) ∧ w = w' := by
  by_cases h1 : k = 1
  · subst h1
    go_enter Tryz.func110, Tryz.ntmps110
    go_wp2
    go_ret
    exact ⟨rfl, rfl⟩
  · by_cases h2 : k = 2
    · subst h2
      go_enter Tryz.func110, Tryz.ntmps110
      go_wp2
      go_ret
      exact ⟨rfl, rfl⟩
    · by_cases h3 : k = 3
      · subst h3
        go_enter Tryz.func110, Tryz.ntmps110
        go_wp2
        go_ret
        exact ⟨rfl, rfl⟩
      · have e : isT k = false := by simp [isT, h1, h2, h3]
        rw [e]
        have e1 : (k == 1) = false := beq_eq_false_iff_ne.2 h1
        have e2 : (k == 2) = false := beq_eq_false_iff_ne.2 h2
        have e3 : (k == 3) = false := beq_eq_false_iff_ne.2 h3
        clear h1 h2 h3 e
        go_enter Tryz.func110, Tryz.ntmps110
        go_wp2
        go_ret
        exact ⟨rfl, rfl⟩

/-! ### checkNumber -/
theorem number_any (k n : Int) (s : ByteArray) (w : World) :
    Calls Tryz.prog 157 #[.agg #[.int .i64 k, .int .i64 n, .string s]] w fun e w' => e = .returned (.int .i64 (numE k n)) ∧ Below w.heap.size w w' := by
  by_cases h1 : k = 1
  · subst h1
    obtain ⟨q, hq⟩ : ∃ q : Int, numE 1 n = q := ⟨_, rfl⟩
    have hc : ∀ W : World, Calls Tryz.prog 160 #[.int .i64 n] W fun e w' => e = .returned (.int .i64 q) ∧ W = w' := fun W => by rw [← hq]; exact Num.check_any n W
    rw [hq]
    have HC := Lib.hid hc
    clear hc hq
    go_enter Tryz.func157, Tryz.ntmps157
    go_wp2_with fail
    refine (HC.out _).mono ?_; rintro e w1 ⟨rfl, rfl⟩
    go_wp2_with fail
    go_ret
    exact ⟨rfl, (Below.refl _ _).alloc (Nat.le_refl _) _⟩
  · by_cases h2 : k = 2
    · subst h2
      obtain ⟨q, hq⟩ : ∃ q : Int, numE 2 n = q := ⟨_, rfl⟩
      have hc : ∀ W : World, Calls Tryz.prog 161 #[.int .i64 n, .int .i64 0, .int .i64 1] W fun e w' => e = .returned (.int .i64 q) ∧ W = w' := fun W => by rw [← hq]; exact within_any n 0 1 W
      rw [hq]
      have HC := Lib.hid hc
      clear hc hq
      go_enter Tryz.func157, Tryz.ntmps157
      go_wp2_with fail
      refine (HC.out _).mono ?_; rintro e w1 ⟨rfl, rfl⟩
      go_wp2_with fail
      go_ret
      exact ⟨rfl, (Below.refl _ _).alloc (Nat.le_refl _) _⟩
    · by_cases h3 : k = 3 ∨ k = 4
      · obtain ⟨q, hq⟩ : ∃ q : Int, numE k n = q := ⟨_, rfl⟩
        have hc : ∀ W : World, Calls Tryz.prog 161 #[.int .i64 n, .int .i64 0, .int .i64 0] W fun e w' => e = .returned (.int .i64 q) ∧ W = w' := fun W => by
          have e : numE k n = if 0 ≤ n ∧ n ≤ 0 then 0 else 4 := by
            unfold numE; rw [if_neg h1, if_neg h2, if_pos h3]
            by_cases hn : n = 0
            · rw [if_pos hn, if_pos (by omega)]
            · rw [if_neg hn, if_neg (by omega)]
          rw [← hq, e]; exact within_any n 0 0 W
        rw [hq]
        have HC := Lib.hid hc
        clear hc hq h1 h2
        rcases h3 with rfl | rfl
        all_goals
          go_enter Tryz.func157, Tryz.ntmps157
          go_wp2_with fail
          refine (HC.out _).mono ?_; rintro e w1 ⟨rfl, rfl⟩
          go_wp2_with fail
          go_ret
          exact ⟨rfl, (Below.refl _ _).alloc (Nat.le_refl _) _⟩
      · by_cases h5 : k = 5
        · subst h5
          obtain ⟨q, hq⟩ : ∃ q : Int, numE 5 n = q := ⟨_, rfl⟩
          have hc : ∀ W : World, Calls Tryz.prog 161 #[.int .i64 n, .int .i64 1, .int .i64 15] W fun e w' => e = .returned (.int .i64 q) ∧ W = w' := fun W => by rw [← hq]; exact within_any n 1 15 W
          rw [hq]
          have HC := Lib.hid hc
          clear hc hq h1 h2 h3
          go_enter Tryz.func157, Tryz.ntmps157
          go_wp2_with fail
          refine (HC.out _).mono ?_; rintro e w1 ⟨rfl, rfl⟩
          go_wp2_with fail
          go_ret
          exact ⟨rfl, (Below.refl _ _).alloc (Nat.le_refl _) _⟩
        · have e : numE k n = 2 := by unfold numE; rw [if_neg h1, if_neg h2, if_neg h3, if_neg h5]
          rw [e]
          have e1 : (k == 1) = false := beq_eq_false_iff_ne.2 h1
          have e2 : (k == 2) = false := beq_eq_false_iff_ne.2 h2
          have e3 : (k == 3) = false := beq_eq_false_iff_ne.2 (fun g => h3 (.inl g))
          have e4 : (k == 4) = false := beq_eq_false_iff_ne.2 (fun g => h3 (.inr g))
          have e5 : (k == 5) = false := beq_eq_false_iff_ne.2 h5
          clear h1 h2 h3 h5 e
          go_enter Tryz.func157, Tryz.ntmps157
          go_wp2_with fail
          go_ret
          exact ⟨rfl, (Below.refl _ _).alloc (Nat.le_refl _) _⟩

/-! ### checkString -/
theorem empty_b (s : ByteArray) (h : 0 < s.size) : (!s.toList.isEmpty) = true ∧ s.toList.isEmpty = false := by
  have := not_nil s h
  have h2 : s.data.toList.isEmpty = false := List.isEmpty_eq_false_iff.2 this
  rw [ByteArray.toList_eq, h2]
  exact ⟨rfl, rfl⟩

theorem string_other (k n : Int) (s : ByteArray) (w : World) (hk : k ≠ 3) :
    Calls Tryz.prog 158 #[.agg #[.int .i64 k, .int .i64 n, .string s]] w fun e w' => e = .returned (.int .i64 (strE k s.data.toList)) ∧ Below w.heap.size w w' := by
  have e3 : (k != 3) = true := bne_iff_ne.2 hk
  rw [strE_other hk]
  by_cases h0 : s.size = 0
  · have hs0 : s = ByteArray.empty := ByteArray.size_eq_zero_iff.1 h0
    subst hs0
    clear hk h0
    go_enter Tryz.func158, Tryz.ntmps158
    go_wp2
    go_loop [3] (fun i => i = .int .i64 0) (fun _ => 0)
    case atStart => rfl
    case round =>
      subst hrel
      go_wp2
      go_ret
      exact ⟨rfl, (Below.refl _ _).alloc (Nat.le_refl _) _⟩
  · have hn := not_nil s (by omega)
    obtain ⟨hne, hne'⟩ := empty_b s (by omega)
    rw [if_neg hn]
    clear hn hk h0
    go_enter Tryz.func158, Tryz.ntmps158
    go_wp2
    go_ret
    exact ⟨rfl, (Below.refl _ _).alloc (Nat.le_refl _) _⟩

theorem string_long (n : Int) (s : ByteArray) (w : World) (hs : 40 < s.size) :
    Calls Tryz.prog 158 #[.agg #[.int .i64 3, .int .i64 n, .string s]] w fun e w' => e = .returned (.int .i64 1) ∧ Below w.heap.size w w' := by
  go_enter Tryz.func158, Tryz.ntmps158
  go_wp2
  go_ret
  exact ⟨rfl, (Below.refl _ _).alloc (Nat.le_refl _) _⟩

theorem string_short (n : Int) (s : ByteArray) (w : World) (hs : s.size ≤ 40) :
    Calls Tryz.prog 158 #[.agg #[.int .i64 3, .int .i64 n, .string s]] w fun e w' => e = .returned (.int .i64 (strE 3 s.data.toList)) ∧ Below w.heap.size w w' := by
  go_enter Tryz.func158, Tryz.ntmps158
  go_wp2
  go_loop [3] (fun i => ∃ k : Nat, k ≤ s.size ∧ i = .int .i64 k ∧ cleanL (s.data.toList.take k) = true) (fun i => s.size - (intOf i).toNat)
  case atStart => exact ⟨0, Nat.zero_le _, rfl, rfl⟩
  case round =>
    obtain ⟨k, hk, rfl, hcl⟩ := hrel
    have HC := Lib.hid hcl
    clear hcl
    by_cases hlt : k < s.size
    · by_cases h1 : s[k].toNat < 32
      · have h1' : ((s[k].toNat : Int) < 32) := by omega
        go_wp2
        go_ret
        exact ⟨Num.ret_int (strE_foul hs (cleanL_bad s k hlt (.inl h1))).symm, (Below.refl _ _).alloc (Nat.le_refl _) _⟩
      · by_cases h2 : 126 < s[k].toNat
        · go_wp2
          go_ret
          exact ⟨Num.ret_int (strE_foul hs (cleanL_bad s k hlt (.inr h2))).symm, (Below.refl _ _).alloc (Nat.le_refl _) _⟩
        · go_wp2
          go_round
          case rel => exact ⟨k + 1, by omega, by go_num, cleanL_step s k hlt HC.out (by omega) (by omega)⟩
          case measure => simp [intOf]; omega
    · go_wp2
      go_ret
      exact ⟨Num.ret_int (strE_clean hs (cleanL_all s k (by omega) HC.out)).symm, (Below.refl _ _).alloc (Nat.le_refl _) _⟩

theorem string_any (k n : Int) (s : ByteArray) (w : World) :
    Calls Tryz.prog 158 #[.agg #[.int .i64 k, .int .i64 n, .string s]] w fun e w' => e = .returned (.int .i64 (strE k s.data.toList)) ∧ Below w.heap.size w w' := by
  by_cases hk : k = 3
  · subst hk
    by_cases hs : 40 < s.size
    · rw [strE_long (by rw [len_size]; exact hs)]
      exact string_long n s w hs
    · exact string_short n s w (by omega)
  · exact string_other k n s w hk

/-! ### Check, Known, Zero -/
theorem check_any (k n : Int) (s : ByteArray) (w : World) :
    Calls Tryz.prog 149 #[.agg #[.int .i64 k, .int .i64 n, .string s]] w fun e w' => e = .returned (.int .i64 (valE k n s.data.toList)) ∧ Below w.heap.size w w' := by
  obtain ⟨q, hq⟩ : ∃ q : Int, numE k n = q := ⟨_, rfl⟩
  obtain ⟨r, hr⟩ : ∃ r : Int, strE k s.data.toList = r := ⟨_, rfl⟩
  have hc : ∀ W : World, Calls Tryz.prog 157 #[.agg #[.int .i64 k, .int .i64 n, .string s]] W fun e w' => e = .returned (.int .i64 q) ∧ Below W.heap.size W w' := fun W => by rw [← hq]; exact number_any k n s W
  have hd : ∀ W : World, Calls Tryz.prog 158 #[.agg #[.int .i64 k, .int .i64 n, .string s]] W fun e w' => e = .returned (.int .i64 r) ∧ Below W.heap.size W w' := fun W => by rw [← hr]; exact string_any k n s W
  have HC := Lib.hid hc
  have HD := Lib.hid hd
  by_cases h0 : q = 0
  · have e : valE k n s.data.toList = r := by unfold valE; rw [hq, h0, if_pos rfl, hr]
    rw [e]
    subst h0
    clear hc hd hq hr e
    go_enter Tryz.func149, Tryz.ntmps149
    go_wp2_with fail
    refine (HC.out _).mono ?_; rintro e w1 ⟨rfl, hb1⟩
    have hz := hb1.size
    have hc1 := hb1.cell (p := ⟨w.heap.size, 0, none⟩) (by simp)
    have hc2 := hb1.cell (p := ⟨w.heap.size, 1, none⟩) (by simp)
    have hc3 := hb1.cell (p := ⟨w.heap.size, 2, none⟩) (by simp)
    go_wp2_with fail
    refine (HD.out _).mono ?_; rintro e w2 ⟨rfl, hb2⟩
    go_wp2_with fail
    go_ret
    exact ⟨rfl, ((Below.refl _ _).alloc (Nat.le_refl _) _).trans ((hb1.trans (hb2.mono hb1.size)).mono (by simp))⟩
  · have e : valE k n s.data.toList = q := by unfold valE; rw [hq, if_neg h0]
    rw [e]
    have hq0 : (q != 0) = true := bne_iff_ne.2 h0
    clear hc hd hq hr e h0
    go_enter Tryz.func149, Tryz.ntmps149
    go_wp2_with fail
    refine (HC.out _).mono ?_; rintro e w1 ⟨rfl, hb1⟩
    go_wp2_with fail
    go_ret
    exact ⟨rfl, ((Below.refl _ _).alloc (Nat.le_refl _) _).trans (hb1.mono (by simp))⟩

theorem known_any (k n : Int) (s : ByteArray) (w : World) :
    Calls Tryz.prog 136 #[.agg #[.int .i64 k, .int .i64 n, .string s]] w fun e w' => e = .returned (.bool (knownB k n s.data.toList)) ∧ Below w.heap.size w w' := by
  obtain ⟨q, hq⟩ : ∃ q : Int, valE k n s.data.toList = q := ⟨_, rfl⟩
  obtain ⟨b, hb⟩ : ∃ b : Bool, isT k = b := ⟨_, rfl⟩
  have hc : ∀ W : World, Calls Tryz.prog 149 #[.agg #[.int .i64 k, .int .i64 n, .string s]] W fun e w' => e = .returned (.int .i64 q) ∧ Below W.heap.size W w' := fun W => by rw [← hq]; exact check_any k n s W
  have hd : ∀ W : World, Calls Tryz.prog 110 #[.int .i64 k] W fun e w' => e = .returned (.bool b) ∧ W = w' := fun W => by rw [← hb]; exact isType_any k W
  have HC := Lib.hid hc
  have HD := Lib.hid hd
  have hkn : knownB k n s.data.toList = (b && decide (q = 0)) := by unfold knownB; rw [hb, hq]
  rw [hkn]
  clear hc hd hq hb hkn
  cases b
  · go_enter Tryz.func136, Tryz.ntmps136
    go_wp2_with fail
    refine (HD.out _).mono ?_; rintro e w1 ⟨rfl, rfl⟩
    go_wp2_with fail
    go_ret
    exact ⟨rfl, (Below.refl _ _).alloc (Nat.le_refl _) _⟩
  · by_cases h0 : q = 0
    · subst h0
      go_enter Tryz.func136, Tryz.ntmps136
      go_wp2_with fail
      refine (HD.out _).mono ?_; rintro e w1 ⟨rfl, rfl⟩
      go_wp2_with fail
      refine (HC.out _).mono ?_; rintro e w2 ⟨rfl, hb1⟩
      go_wp2_with fail
      go_ret
      exact ⟨rfl, ((Below.refl _ _).alloc (Nat.le_refl _) _).trans (hb1.mono (by simp))⟩
    · have hq0 : (q == 0) = false := beq_eq_false_iff_ne.2 h0
      have hq1 : decide (q = 0) = false := decide_eq_false h0
      rw [hq1]
      clear hq1 h0
      go_enter Tryz.func136, Tryz.ntmps136
      go_wp2_with fail
      refine (HD.out _).mono ?_; rintro e w1 ⟨rfl, rfl⟩
      go_wp2_with fail
      refine (HC.out _).mono ?_; rintro e w2 ⟨rfl, hb1⟩
      go_wp2_with fail
      go_ret
      exact ⟨rfl, ((Below.refl _ _).alloc (Nat.le_refl _) _).trans (hb1.mono (by simp))⟩

theorem zero_in (k : Int) (w : World) (hk : isT k = true) :
    Calls Tryz.prog 97 #[.int .i64 k] w fun e w' => e = .returned (.tuple #[.agg #[.int .i64 k, .int .i64 0, .string ⟨#[]⟩], .int .i64 0]) ∧ Below w.heap.size w w' := by
  have hd : ∀ W : World, Calls Tryz.prog 110 #[.int .i64 k] W fun e w' => e = .returned (.bool true) ∧ W = w' := fun W => by rw [← hk]; exact isType_any k W
  have HD := Lib.hid hd
  clear hd hk
  go_enter Tryz.func97, Tryz.ntmps97
  go_wp2_with fail
  refine (HD.out _).mono ?_; rintro e w1 ⟨rfl, rfl⟩
  go_wp2_with fail
  refine bodyPost_ret (v := .tuple #[.agg #[.int .i64 k, .int .i64 0, .string ⟨#[]⟩], .int .i64 0]) (by simp [results, Tryz.results97, go_sem]) rfl ⟨rfl, (Below.refl _ _).alloc (Nat.le_refl _) _⟩

theorem zero_out (k : Int) (w : World) (hk : isT k = false) :
    Calls Tryz.prog 97 #[.int .i64 k] w fun e w' => e = .returned (.tuple #[.agg #[.int .i64 0, .int .i64 0, .string ⟨#[]⟩], .int .i64 2]) ∧ Below w.heap.size w w' := by
  have hd : ∀ W : World, Calls Tryz.prog 110 #[.int .i64 k] W fun e w' => e = .returned (.bool false) ∧ W = w' := fun W => by rw [← hk]; exact isType_any k W
  have HD := Lib.hid hd
  clear hd hk
  go_enter Tryz.func97, Tryz.ntmps97
  go_wp2_with fail
  refine (HD.out _).mono ?_; rintro e w1 ⟨rfl, rfl⟩
  go_wp2_with fail
  refine bodyPost_ret (v := .tuple #[.agg #[.int .i64 0, .int .i64 0, .string ⟨#[]⟩], .int .i64 2]) (by simp [results, Tryz.results97, go_sem]) rfl ⟨rfl, (Below.refl _ _).alloc (Nat.le_refl _) _⟩
end Go.Proofs.YtdlfhldboagbeaaGreatDoor.Val
namespace Go.Proofs.YtdlfhldboagbeaaGreatDoor.ValRef
open Go.RowKit
open NumM ValM Kit
set_option linter.unusedVariables false

/-! ### ValueFault, by the kind -/
theorem fault_num (k n : Int) (s : ByteArray) (w : World) (h : numE k n ≠ 0) :
    Calls Tryz.prog 148 #[.agg #[.int .i64 k, .int .i64 n, .string s]] w fun e w' => e = .returned (.int .i64 (numE k n)) ∧ Below w.heap.size w w' := by
  by_cases h1 : k = 1
  · subst h1
    have h7 : okN n = false := by
      by_cases g : okN n = true
      · exact absurd (by unfold numE; rw [if_pos rfl, if_pos g]) h
      · simpa using g
    have e7 : numE 1 n = 7 := by unfold numE; rw [if_pos rfl, if_neg (by simp [h7])]
    rw [e7]
    have hc : ∀ W : World, Calls Tryz.prog 156 #[.int .i64 n] W fun e w' => e = .returned (.int .i64 7) ∧ W = w' := fun W => by
      have := NumRef.fault_any n W
      rw [h7] at this; exact this
    have HC := Lib.hid hc
    clear hc h h7 e7
    go_enter Tryz.func148, Tryz.ntmps148
    go_wp2_with fail
    refine (HC.out _).mono ?_; rintro e w1 ⟨rfl, rfl⟩
    go_wp2_with fail
    go_ret
    exact ⟨rfl, b_new _ _⟩
  · by_cases h2 : k = 2
    · subst h2
      have h7 : n < 0 ∨ (0 ≤ n ∧ 1 < n) := by
        by_cases g : 0 ≤ n ∧ n ≤ 1
        · exact absurd (by unfold numE; rw [if_neg (by decide), if_pos rfl, if_pos g]) h
        · omega
      have e7 : numE 2 n = 4 := by unfold numE; rw [if_neg (by decide), if_pos rfl, if_neg (by omega)]
      rw [e7]
      clear h e7 h1
      rcases h7 with g | ⟨g', g⟩
      all_goals
        go_enter Tryz.func148, Tryz.ntmps148
        go_wp2_with fail
        go_ret
        exact ⟨rfl, b_new _ _⟩
    · by_cases h3 : k = 3 ∨ k = 4
      · have h7 : n < 0 ∨ (0 ≤ n ∧ 0 < n) := by
          by_cases g : n = 0
          · exact absurd (by unfold numE; rw [if_neg h1, if_neg h2, if_pos h3, if_pos g]) h
          · omega
        have e7 : numE k n = 4 := by unfold numE; rw [if_neg h1, if_neg h2, if_pos h3, if_neg (by omega)]
        rw [e7]
        clear h e7 h1 h2
        rcases h3 with rfl | rfl
        all_goals
          rcases h7 with g | ⟨g', g⟩
          all_goals
            go_enter Tryz.func148, Tryz.ntmps148
            go_wp2_with fail
            go_ret
            exact ⟨rfl, b_new _ _⟩
      · by_cases h5 : k = 5
        · subst h5
          have h7 : n < 1 ∨ (1 ≤ n ∧ 15 < n) := by
            by_cases g : 1 ≤ n ∧ n ≤ 15
            · exact absurd (by unfold numE; rw [if_neg h1, if_neg h2, if_neg h3, if_pos rfl, if_pos g]) h
            · omega
          have e7 : numE 5 n = 4 := by unfold numE; rw [if_neg h1, if_neg h2, if_neg h3, if_pos rfl, if_neg (by omega)]
          rw [e7]
          clear h e7 h1 h2 h3
          rcases h7 with g | ⟨g', g⟩
          all_goals
            go_enter Tryz.func148, Tryz.ntmps148
            go_wp2_with fail
            go_ret
            exact ⟨rfl, b_new _ _⟩
        · have e7 : numE k n = 2 := by unfold numE; rw [if_neg h1, if_neg h2, if_neg h3, if_neg h5]
          rw [e7]
          have e1 : (k == 1) = false := beq_eq_false_iff_ne.2 h1
          have e2 : (k == 2) = false := beq_eq_false_iff_ne.2 h2
          have e3 : (k == 3) = false := beq_eq_false_iff_ne.2 (fun g => h3 (.inl g))
          have e4 : (k == 4) = false := beq_eq_false_iff_ne.2 (fun g => h3 (.inr g))
          have e5 : (k == 5) = false := beq_eq_false_iff_ne.2 h5
          clear h1 h2 h3 h5 h e7
          go_enter Tryz.func148, Tryz.ntmps148
          go_wp2_with fail
          go_ret
          exact ⟨rfl, b_new _ _⟩

theorem fault_int_in (n : Int) (s : ByteArray) (w : World) (h : okN n = true) :
    Calls Tryz.prog 148 #[.agg #[.int .i64 1, .int .i64 n, .string s]] w fun e w' => e = .returned (.int .i64 (strE 1 s.data.toList)) ∧ Below w.heap.size w w' := by
  have hc : ∀ W : World, Calls Tryz.prog 156 #[.int .i64 n] W fun e w' => e = .returned (.int .i64 0) ∧ W = w' := fun W => by
    have := NumRef.fault_any n W
    rw [h] at this; exact this
  have HC := Lib.hid hc
  clear hc h
  rw [strE_other (by decide)]
  by_cases h0 : s.size = 0
  · have hs0 : s = ⟨#[]⟩ := ByteArray.size_eq_zero_iff.1 h0
    subst hs0
    clear h0
    go_enter Tryz.func148, Tryz.ntmps148
    go_wp2_with fail
    refine (HC.out _).mono ?_; rintro e w1 ⟨rfl, rfl⟩
    go_wp2_with fail
    go_quiet (fail)
    go_wp2
    go_ret
    exact ⟨rfl, b_drewN (b_new _ _) _⟩
  · have hn := not_nil s (by omega)
    obtain ⟨hne, hne'⟩ := Val.empty_b s (by omega)
    rw [if_neg hn]
    clear hn h0
    go_enter Tryz.func148, Tryz.ntmps148
    go_wp2_with fail
    refine (HC.out _).mono ?_; rintro e w1 ⟨rfl, rfl⟩
    go_wp2_with fail
    go_quiet (fail)
    go_wp2
    go_ret
    exact ⟨rfl, b_drewN (b_new _ _) _⟩

theorem fault_plain (k n : Int) (s : ByteArray) (w : World) (hk : (k = 2 ∧ 0 ≤ n ∧ n ≤ 1) ∨ (k = 4 ∧ n = 0) ∨ (k = 5 ∧ 1 ≤ n ∧ n ≤ 15)) :
    Calls Tryz.prog 148 #[.agg #[.int .i64 k, .int .i64 n, .string s]] w fun e w' => e = .returned (.int .i64 (strE k s.data.toList)) ∧ Below w.heap.size w w' := by
  rw [strE_other (by omega)]
  by_cases h0 : s.size = 0
  · have hs0 : s = ⟨#[]⟩ := ByteArray.size_eq_zero_iff.1 h0
    subst hs0
    clear h0
    rcases hk with ⟨rfl, g1, g2⟩ | ⟨rfl, rfl⟩ | ⟨rfl, g1, g2⟩
    all_goals
      go_enter Tryz.func148, Tryz.ntmps148
      go_wp2_with fail
      go_ret
      exact ⟨rfl, b_new _ _⟩
  · have hn := not_nil s (by omega)
    obtain ⟨hne, hne'⟩ := Val.empty_b s (by omega)
    rw [if_neg hn]
    clear hn h0
    rcases hk with ⟨rfl, g1, g2⟩ | ⟨rfl, rfl⟩ | ⟨rfl, g1, g2⟩
    all_goals
      go_enter Tryz.func148, Tryz.ntmps148
      go_wp2_with fail
      go_ret
      exact ⟨rfl, b_new _ _⟩

theorem fault_text_long (s : ByteArray) (w : World) (hs : 40 < s.size) :
    Calls Tryz.prog 148 #[.agg #[.int .i64 3, .int .i64 0, .string s]] w fun e w' => e = .returned (.int .i64 1) ∧ Below w.heap.size w w' := by
  go_enter Tryz.func148, Tryz.ntmps148
  go_wp2_with fail
  go_ret
  exact ⟨rfl, b_new _ _⟩

theorem fault_text (s : ByteArray) (w : World) (hs : s.size ≤ 40) :
    Calls Tryz.prog 148 #[.agg #[.int .i64 3, .int .i64 0, .string s]] w fun e w' => e = .returned (.int .i64 (strE 3 s.data.toList)) ∧ Below w.heap.size w w' := by
  go_enter Tryz.func148, Tryz.ntmps148
  go_wp2
  go_loop [5] (fun i => ∃ k : Nat, k ≤ s.size ∧ i = .int .i64 k ∧ cleanL (s.data.toList.take k) = true) (fun i => s.size - (intOf i).toNat)
  case atStart => exact ⟨0, Nat.zero_le _, rfl, rfl⟩
  case round =>
    obtain ⟨k, hk, rfl, hcl⟩ := hrel
    have HC := Lib.hid hcl
    clear hcl
    by_cases hlt : k < s.size
    · by_cases h1 : s[k].toNat < 32
      · have h1' : ((s[k].toNat : Int) < 32) := by omega
        go_wp2
        go_ret
        exact ⟨ret_int (strE_foul hs (cleanL_bad s k hlt (.inl h1))).symm, b_new _ _⟩
      · by_cases h2 : 126 < s[k].toNat
        · go_wp2
          go_ret
          exact ⟨ret_int (strE_foul hs (cleanL_bad s k hlt (.inr h2))).symm, b_new _ _⟩
        · go_wp2
          go_round
          case rel => exact ⟨k + 1, by omega, by go_num, cleanL_step s k hlt HC.out (by omega) (by omega)⟩
          case measure => simp [intOf]; omega
    · go_wp2
      go_ret
      exact ⟨ret_int (strE_clean hs (cleanL_all s k (by omega) HC.out)).symm, b_new _ _⟩

theorem fault_any (k n : Int) (s : ByteArray) (w : World) :
    Calls Tryz.prog 148 #[.agg #[.int .i64 k, .int .i64 n, .string s]] w fun e w' => e = .returned (.int .i64 (valE k n s.data.toList)) ∧ Below w.heap.size w w' := by
  by_cases h : numE k n = 0
  · have e : valE k n s.data.toList = strE k s.data.toList := by unfold valE; rw [if_pos h]
    rw [e]
    unfold numE at h
    by_cases h1 : k = 1
    · subst h1
      rw [if_pos rfl] at h
      exact fault_int_in n s w (by by_cases g : okN n = true; exact g; rw [if_neg g] at h; omega)
    · rw [if_neg h1] at h
      by_cases h2 : k = 2
      · rw [if_pos h2] at h
        refine fault_plain k n s w (.inl ⟨h2, ?_⟩)
        by_cases g : 0 ≤ n ∧ n ≤ 1
        · exact g
        · rw [if_neg g] at h; omega
      · rw [if_neg h2] at h
        by_cases h3 : k = 3 ∨ k = 4
        · rw [if_pos h3] at h
          have hn : n = 0 := by
            by_cases g : n = 0
            · exact g
            · rw [if_neg g] at h; omega
          subst hn
          rcases h3 with rfl | rfl
          · by_cases hs : 40 < s.size
            · rw [strE_long (by rw [len_size]; exact hs)]
              exact fault_text_long s w hs
            · exact fault_text s w (by omega)
          · exact fault_plain 4 0 s w (.inr (.inl ⟨rfl, rfl⟩))
        · rw [if_neg h3] at h
          by_cases h5 : k = 5
          · rw [if_pos h5] at h
            refine fault_plain k n s w (.inr (.inr ⟨h5, ?_⟩))
            by_cases g : 1 ≤ n ∧ n ≤ 15
            · exact g
            · rw [if_neg g] at h; omega
          · rw [if_neg h5] at h; omega
  · have e : valE k n s.data.toList = numE k n := by unfold valE; rw [if_neg h]
    rw [e]
    exact fault_num k n s w h

theorem known_any (k n : Int) (s : ByteArray) (w : World) :
    Calls Tryz.prog 135 #[.agg #[.int .i64 k, .int .i64 n, .string s]] w fun e w' => e = .returned (.bool (knownB k n s.data.toList)) ∧ Below w.heap.size w w' := by
  obtain ⟨q, hq⟩ : ∃ q : Int, valE k n s.data.toList = q := ⟨_, rfl⟩
  have hc : ∀ W : World, Calls Tryz.prog 148 #[.agg #[.int .i64 k, .int .i64 n, .string s]] W fun e w' => e = .returned (.int .i64 q) ∧ Below W.heap.size W w' := fun W => by rw [← hq]; exact fault_any k n s W
  have HC := Lib.hid hc
  clear hc
  by_cases h0 : q = 0
  · have hk : 1 ≤ k := by
      subst h0
      by_cases g : 1 ≤ k
      · exact g
      · exfalso
        have : numE k n = 2 := by unfold numE; rw [if_neg (by omega), if_neg (by omega), if_neg (by omega), if_neg (by omega)]
        unfold valE at hq; rw [this] at hq; simp at hq
    have e : knownB k n s.data.toList = decide (k < 4) := by
      unfold knownB isT
      rw [hq, h0]
      simp only [decide_true, Bool.and_true]
      rw [Bool.eq_iff_iff]; simp only [Bool.or_eq_true, decide_eq_true_eq]; omega
    rw [e]
    subst h0
    clear hq e hk
    by_cases g : k < 4
    all_goals
      go_enter Tryz.func135, Tryz.ntmps135
      go_wp2_with fail
      refine (HC.out _).mono ?_; rintro e w1 ⟨rfl, hb1⟩
      have hz := hb1.size
      have hc1 := hb1.cell (p := ⟨w.heap.size, 0, none⟩) (by simp)
      go_wp2_with fail
      go_ret
      exact ⟨ret_bool (by simp [g]), b_then hb1⟩
  · have e : knownB k n s.data.toList = false := by unfold knownB; rw [hq, decide_eq_false h0]; simp
    rw [e]
    have hq0 : (q == 0) = false := beq_eq_false_iff_ne.2 h0
    clear hq e h0
    go_enter Tryz.func135, Tryz.ntmps135
    go_wp2_with fail
    refine (HC.out _).mono ?_; rintro e w1 ⟨rfl, hb1⟩
    go_wp2_with fail
    go_ret
    exact ⟨rfl, b_then hb1⟩
end Go.Proofs.YtdlfhldboagbeaaGreatDoor.ValRef
