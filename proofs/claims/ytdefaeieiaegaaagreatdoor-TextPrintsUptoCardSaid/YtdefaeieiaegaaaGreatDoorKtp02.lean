/- Value LexBytes: what these laws name of them. -/
import Derived.Test.YtdefaeieiaegaaaGreatDoorChecked
import Derived.WalkKit
import Derived.WalkSpells
import Derived.ProofKit
import Derived.Lib.Hide
import Derived.WalkLawsBesides
import Derived.Outline
import Derived.Deep.QuietTactic
import Derived.BigQuiet
import Derived.WalkSmall
import GoSem.Claim
import Derived.Lib.Bytealg
import Derived.Lib.Small
import Derived.Lib.AtoiAll
import Derived.Below
import Derived.Deep.Draws
import Derived.Test.YtdefaeieiaegaaaGreatDoorKtp01
namespace Go.Proofs.YtdefaeieiaegaaaGreatDoor.Val
open Go.RowKit
open NumM ValM
set_option linter.unusedVariables false
theorem within_in (n a b : Int) (w : World) (h1 : a ≤ n) (h2 : n ≤ b) :
    Calls Tryz.prog 203 #[.int .i64 n, .int .i64 a, .int .i64 b] w fun e w' => e = .returned (.int .i64 0) ∧ w = w' := by
  go_enter Tryz.func203, Tryz.ntmps203
  go_wp2
  go_ret
  exact ⟨rfl, rfl⟩
theorem within_out (n a b : Int) (w : World) (h : n < a ∨ (a ≤ n ∧ b < n)) :
    Calls Tryz.prog 203 #[.int .i64 n, .int .i64 a, .int .i64 b] w fun e w' => e = .returned (.int .i64 4) ∧ w = w' := by
  rcases h with h | ⟨h, h'⟩
  all_goals
    go_enter Tryz.func203, Tryz.ntmps203
    go_wp2
    go_ret
    exact ⟨rfl, rfl⟩
theorem within_any (n a b : Int) (w : World) :
    Calls Tryz.prog 203 #[.int .i64 n, .int .i64 a, .int .i64 b] w fun e w' => e = .returned (.int .i64 (if a ≤ n ∧ n ≤ b then 0 else 4)) ∧ w = w' := by
  by_cases h : a ≤ n ∧ n ≤ b
  · rw [if_pos h]; exact within_in n a b w h.1 h.2
  · rw [if_neg h]; exact within_out n a b w (by omega)
theorem isType_any (k : Int) (w : World) :
    Calls Tryz.prog 201 #[.int .i64 k] w fun e w' => e = .returned (.bool (isT k)) ∧ w = w' := by
  by_cases h1 : k = 1
  · subst h1
    go_enter Tryz.func201, Tryz.ntmps201
    go_wp2
    go_ret
    exact ⟨rfl, rfl⟩
  · by_cases h2 : k = 2
    · subst h2
      go_enter Tryz.func201, Tryz.ntmps201
      go_wp2
      go_ret
      exact ⟨rfl, rfl⟩
    · by_cases h3 : k = 3
      · subst h3
        go_enter Tryz.func201, Tryz.ntmps201
        go_wp2
        go_ret
        exact ⟨rfl, rfl⟩
      · have e : isT k = false := by simp [isT, h1, h2, h3]
        rw [e]
        have e1 : (k == 1) = false := beq_eq_false_iff_ne.2 h1
        have e2 : (k == 2) = false := beq_eq_false_iff_ne.2 h2
        have e3 : (k == 3) = false := beq_eq_false_iff_ne.2 h3
        clear h1 h2 h3 e
        go_enter Tryz.func201, Tryz.ntmps201
        go_wp2
        go_ret
        exact ⟨rfl, rfl⟩
theorem number_any (k n : Int) (s : ByteArray) (w : World) :
    Calls Tryz.prog 172 #[.agg #[.int .i64 k, .int .i64 n, .string s]] w fun e w' => e = .returned (.int .i64 (numE k n)) ∧ Below w.heap.size w w' := by
  by_cases h1 : k = 1
  · subst h1
    obtain ⟨q, hq⟩ : ∃ q : Int, numE 1 n = q := ⟨_, rfl⟩
    have hc : ∀ W : World, Calls Tryz.prog 202 #[.int .i64 n] W fun e w' => e = .returned (.int .i64 q) ∧ W = w' := fun W => by rw [← hq]; exact Num.check_any n W
    rw [hq]
    have HC := Lib.hid hc
    clear hc hq
    go_enter Tryz.func172, Tryz.ntmps172
    go_wp2_with fail
    refine (HC.out _).mono ?_; rintro e w1 ⟨rfl, rfl⟩
    go_wp2_with fail
    go_ret
    exact ⟨rfl, (Below.refl _ _).alloc (Nat.le_refl _) _⟩
  · by_cases h2 : k = 2
    · subst h2
      obtain ⟨q, hq⟩ : ∃ q : Int, numE 2 n = q := ⟨_, rfl⟩
      have hc : ∀ W : World, Calls Tryz.prog 203 #[.int .i64 n, .int .i64 0, .int .i64 1] W fun e w' => e = .returned (.int .i64 q) ∧ W = w' := fun W => by rw [← hq]; exact within_any n 0 1 W
      rw [hq]
      have HC := Lib.hid hc
      clear hc hq
      go_enter Tryz.func172, Tryz.ntmps172
      go_wp2_with fail
      refine (HC.out _).mono ?_; rintro e w1 ⟨rfl, rfl⟩
      go_wp2_with fail
      go_ret
      exact ⟨rfl, (Below.refl _ _).alloc (Nat.le_refl _) _⟩
    · by_cases h3 : k = 3 ∨ k = 4
      · obtain ⟨q, hq⟩ : ∃ q : Int, numE k n = q := ⟨_, rfl⟩
        have hc : ∀ W : World, Calls Tryz.prog 203 #[.int .i64 n, .int .i64 0, .int .i64 0] W fun e w' => e = .returned (.int .i64 q) ∧ W = w' := fun W => by
          have e : numE k n = if 0 ≤ n ∧ n ≤ 0 then 0 else 4 := by
            unfold numE; rw [if_neg h1, if_neg h2, if_pos h3]
            by_cases hn : n = 0
            · rw [if_pos hn, if_pos (by omega)]
            · rw [if_neg hn, if_neg (by omega)]
          rw [← hq, e]; exact within_any n 0 0 W
        rw [hq]
        have HC := Lib.hid hc
        clear hc hq h1 h2
        rcases h3 with rfl | rfl
        all_goals
          go_enter Tryz.func172, Tryz.ntmps172
          go_wp2_with fail
          refine (HC.out _).mono ?_; rintro e w1 ⟨rfl, rfl⟩
          go_wp2_with fail
          go_ret
          exact ⟨rfl, (Below.refl _ _).alloc (Nat.le_refl _) _⟩
      · by_cases h5 : k = 5
        · subst h5
          obtain ⟨q, hq⟩ : ∃ q : Int, numE 5 n = q := ⟨_, rfl⟩
          have hc : ∀ W : World, Calls Tryz.prog 203 #[.int .i64 n, .int .i64 1, .int .i64 15] W fun e w' => e = .returned (.int .i64 q) ∧ W = w' := fun W => by rw [← hq]; exact within_any n 1 15 W
          rw [hq]
          have HC := Lib.hid hc
          clear hc hq h1 h2 h3
          go_enter Tryz.func172, Tryz.ntmps172
          go_wp2_with fail
          refine (HC.out _).mono ?_; rintro e w1 ⟨rfl, rfl⟩
          go_wp2_with fail
          go_ret
          exact ⟨rfl, (Below.refl _ _).alloc (Nat.le_refl _) _⟩
        · have e : numE k n = 2 := by unfold numE; rw [if_neg h1, if_neg h2, if_neg h3, if_neg h5]
          rw [e]
          have e1 : (k == 1) = false := beq_eq_false_iff_ne.2 h1
          have e2 : (k == 2) = false := beq_eq_false_iff_ne.2 h2
          have e3 : (k == 3) = false := beq_eq_false_iff_ne.2 (fun g => h3 (.inl g))
          have e4 : (k == 4) = false := beq_eq_false_iff_ne.2 (fun g => h3 (.inr g))
          have e5 : (k == 5) = false := beq_eq_false_iff_ne.2 h5
          clear h1 h2 h3 h5 e
          go_enter Tryz.func172, Tryz.ntmps172
          go_wp2_with fail
          go_ret
          exact ⟨rfl, (Below.refl _ _).alloc (Nat.le_refl _) _⟩
theorem empty_b (s : ByteArray) (h : 0 < s.size) : (!s.toList.isEmpty) = true ∧ s.toList.isEmpty = false := by
  have := not_nil s h
  have h2 : s.data.toList.isEmpty = false := List.isEmpty_eq_false_iff.2 this
  rw [ByteArray.toList_eq, h2]
  exact ⟨rfl, rfl⟩
theorem string_other (k n : Int) (s : ByteArray) (w : World) (hk : k ≠ 3) :
    Calls Tryz.prog 173 #[.agg #[.int .i64 k, .int .i64 n, .string s]] w fun e w' => e = .returned (.int .i64 (strE k s.data.toList)) ∧ Below w.heap.size w w' := by
  have e3 : (k != 3) = true := bne_iff_ne.2 hk
  rw [strE_other hk]
  by_cases h0 : s.size = 0
  · have hs0 : s = ByteArray.empty := ByteArray.size_eq_zero_iff.1 h0
    subst hs0
    clear hk h0
    go_enter Tryz.func173, Tryz.ntmps173
    go_wp2
    go_loop [3] (fun i => i = .int .i64 0) (fun _ => 0)
    case atStart => rfl
    case round =>
      subst hrel
      go_wp2
      go_ret
      exact ⟨rfl, (Below.refl _ _).alloc (Nat.le_refl _) _⟩
  · have hn := not_nil s (by omega)
    obtain ⟨hne, hne'⟩ := empty_b s (by omega)
    rw [if_neg hn]
    clear hn hk h0
    go_enter Tryz.func173, Tryz.ntmps173
    go_wp2
    go_ret
    exact ⟨rfl, (Below.refl _ _).alloc (Nat.le_refl _) _⟩
theorem string_long (n : Int) (s : ByteArray) (w : World) (hs : 40 < s.size) :
    Calls Tryz.prog 173 #[.agg #[.int .i64 3, .int .i64 n, .string s]] w fun e w' => e = .returned (.int .i64 1) ∧ Below w.heap.size w w' := by
  go_enter Tryz.func173, Tryz.ntmps173
  go_wp2
  go_ret
  exact ⟨rfl, (Below.refl _ _).alloc (Nat.le_refl _) _⟩
theorem string_short (n : Int) (s : ByteArray) (w : World) (hs : s.size ≤ 40) :
    Calls Tryz.prog 173 #[.agg #[.int .i64 3, .int .i64 n, .string s]] w fun e w' => e = .returned (.int .i64 (strE 3 s.data.toList)) ∧ Below w.heap.size w w' := by
  go_enter Tryz.func173, Tryz.ntmps173
  go_wp2
  go_loop [3] (fun i => ∃ k : Nat, k ≤ s.size ∧ i = .int .i64 k ∧ cleanL (s.data.toList.take k) = true) (fun i => s.size - (intOf i).toNat)
  case atStart => exact ⟨0, Nat.zero_le _, rfl, rfl⟩
  case round =>
    obtain ⟨k, hk, rfl, hcl⟩ := hrel
    have HC := Lib.hid hcl
    clear hcl
    by_cases hlt : k < s.size
    · by_cases h1 : s[k].toNat < 32
      · have h1' : ((s[k].toNat : Int) < 32) := by omega
        go_wp2
        go_ret
        exact ⟨Num.ret_int (strE_foul hs (cleanL_bad s k hlt (.inl h1))).symm, (Below.refl _ _).alloc (Nat.le_refl _) _⟩
      · by_cases h2 : 126 < s[k].toNat
        · go_wp2
          go_ret
          exact ⟨Num.ret_int (strE_foul hs (cleanL_bad s k hlt (.inr h2))).symm, (Below.refl _ _).alloc (Nat.le_refl _) _⟩
        · go_wp2
          go_round
          case rel => exact ⟨k + 1, by omega, by go_num, cleanL_step s k hlt HC.out (by omega) (by omega)⟩
          case measure => simp [intOf]; omega
    · go_wp2
      go_ret
      exact ⟨Num.ret_int (strE_clean hs (cleanL_all s k (by omega) HC.out)).symm, (Below.refl _ _).alloc (Nat.le_refl _) _⟩
theorem string_any (k n : Int) (s : ByteArray) (w : World) :
    Calls Tryz.prog 173 #[.agg #[.int .i64 k, .int .i64 n, .string s]] w fun e w' => e = .returned (.int .i64 (strE k s.data.toList)) ∧ Below w.heap.size w w' := by
  by_cases hk : k = 3
  · subst hk
    by_cases hs : 40 < s.size
    · rw [strE_long (by rw [len_size]; exact hs)]
      exact string_long n s w hs
    · exact string_short n s w (by omega)
  · exact string_other k n s w hk
theorem check_any (k n : Int) (s : ByteArray) (w : World) :
    Calls Tryz.prog 130 #[.agg #[.int .i64 k, .int .i64 n, .string s]] w fun e w' => e = .returned (.int .i64 (valE k n s.data.toList)) ∧ Below w.heap.size w w' := by
  obtain ⟨q, hq⟩ : ∃ q : Int, numE k n = q := ⟨_, rfl⟩
  obtain ⟨r, hr⟩ : ∃ r : Int, strE k s.data.toList = r := ⟨_, rfl⟩
  have hc : ∀ W : World, Calls Tryz.prog 172 #[.agg #[.int .i64 k, .int .i64 n, .string s]] W fun e w' => e = .returned (.int .i64 q) ∧ Below W.heap.size W w' := fun W => by rw [← hq]; exact number_any k n s W
  have hd : ∀ W : World, Calls Tryz.prog 173 #[.agg #[.int .i64 k, .int .i64 n, .string s]] W fun e w' => e = .returned (.int .i64 r) ∧ Below W.heap.size W w' := fun W => by rw [← hr]; exact string_any k n s W
  have HC := Lib.hid hc
  have HD := Lib.hid hd
  by_cases h0 : q = 0
  · have e : valE k n s.data.toList = r := by unfold valE; rw [hq, h0, if_pos rfl, hr]
    rw [e]
    subst h0
    clear hc hd hq hr e
    go_enter Tryz.func130, Tryz.ntmps130
    go_wp2_with fail
    refine (HC.out _).mono ?_; rintro e w1 ⟨rfl, hb1⟩
    have hz := hb1.size
    have hc1 := hb1.cell (p := ⟨w.heap.size, 0, none⟩) (by simp)
    have hc2 := hb1.cell (p := ⟨w.heap.size, 1, none⟩) (by simp)
    have hc3 := hb1.cell (p := ⟨w.heap.size, 2, none⟩) (by simp)
    go_wp2_with fail
    refine (HD.out _).mono ?_; rintro e w2 ⟨rfl, hb2⟩
    go_wp2_with fail
    go_ret
    exact ⟨rfl, ((Below.refl _ _).alloc (Nat.le_refl _) _).trans ((hb1.trans (hb2.mono hb1.size)).mono (by simp))⟩
  · have e : valE k n s.data.toList = q := by unfold valE; rw [hq, if_neg h0]
    rw [e]
    have hq0 : (q != 0) = true := bne_iff_ne.2 h0
    clear hc hd hq hr e h0
    go_enter Tryz.func130, Tryz.ntmps130
    go_wp2_with fail
    refine (HC.out _).mono ?_; rintro e w1 ⟨rfl, hb1⟩
    go_wp2_with fail
    go_ret
    exact ⟨rfl, ((Below.refl _ _).alloc (Nat.le_refl _) _).trans (hb1.mono (by simp))⟩
theorem known_any (k n : Int) (s : ByteArray) (w : World) :
    Calls Tryz.prog 171 #[.agg #[.int .i64 k, .int .i64 n, .string s]] w fun e w' => e = .returned (.bool (knownB k n s.data.toList)) ∧ Below w.heap.size w w' := by
  obtain ⟨q, hq⟩ : ∃ q : Int, valE k n s.data.toList = q := ⟨_, rfl⟩
  obtain ⟨b, hb⟩ : ∃ b : Bool, isT k = b := ⟨_, rfl⟩
  have hc : ∀ W : World, Calls Tryz.prog 130 #[.agg #[.int .i64 k, .int .i64 n, .string s]] W fun e w' => e = .returned (.int .i64 q) ∧ Below W.heap.size W w' := fun W => by rw [← hq]; exact check_any k n s W
  have hd : ∀ W : World, Calls Tryz.prog 201 #[.int .i64 k] W fun e w' => e = .returned (.bool b) ∧ W = w' := fun W => by rw [← hb]; exact isType_any k W
  have HC := Lib.hid hc
  have HD := Lib.hid hd
  have hkn : knownB k n s.data.toList = (b && decide (q = 0)) := by unfold knownB; rw [hb, hq]
  rw [hkn]
  clear hc hd hq hb hkn
  cases b
  · go_enter Tryz.func171, Tryz.ntmps171
    go_wp2_with fail
    refine (HD.out _).mono ?_; rintro e w1 ⟨rfl, rfl⟩
    go_wp2_with fail
    go_ret
    exact ⟨rfl, (Below.refl _ _).alloc (Nat.le_refl _) _⟩
  · by_cases h0 : q = 0
    · subst h0
      go_enter Tryz.func171, Tryz.ntmps171
      go_wp2_with fail
      refine (HD.out _).mono ?_; rintro e w1 ⟨rfl, rfl⟩
      go_wp2_with fail
      refine (HC.out _).mono ?_; rintro e w2 ⟨rfl, hb1⟩
      go_wp2_with fail
      go_ret
      exact ⟨rfl, ((Below.refl _ _).alloc (Nat.le_refl _) _).trans (hb1.mono (by simp))⟩
    · have hq0 : (q == 0) = false := beq_eq_false_iff_ne.2 h0
      have hq1 : decide (q = 0) = false := decide_eq_false h0
      rw [hq1]
      clear hq1 h0
      go_enter Tryz.func171, Tryz.ntmps171
      go_wp2_with fail
      refine (HD.out _).mono ?_; rintro e w1 ⟨rfl, rfl⟩
      go_wp2_with fail
      refine (HC.out _).mono ?_; rintro e w2 ⟨rfl, hb1⟩
      go_wp2_with fail
      go_ret
      exact ⟨rfl, ((Below.refl _ _).alloc (Nat.le_refl _) _).trans (hb1.mono (by simp))⟩
theorem zero_in (k : Int) (w : World) (hk : isT k = true) :
    Calls Tryz.prog 177 #[.int .i64 k] w fun e w' => e = .returned (.tuple #[.agg #[.int .i64 k, .int .i64 0, .string ⟨#[]⟩], .int .i64 0]) ∧ Below w.heap.size w w' := by
  have hd : ∀ W : World, Calls Tryz.prog 201 #[.int .i64 k] W fun e w' => e = .returned (.bool true) ∧ W = w' := fun W => by rw [← hk]; exact isType_any k W
  have HD := Lib.hid hd
  clear hd hk
  go_enter Tryz.func177, Tryz.ntmps177
  go_wp2_with fail
  refine (HD.out _).mono ?_; rintro e w1 ⟨rfl, rfl⟩
  go_wp2_with fail
  refine bodyPost_ret (v := .tuple #[.agg #[.int .i64 k, .int .i64 0, .string ⟨#[]⟩], .int .i64 0]) (by simp [results, Tryz.results177, go_sem]) rfl ⟨rfl, (Below.refl _ _).alloc (Nat.le_refl _) _⟩
theorem zero_out (k : Int) (w : World) (hk : isT k = false) :
    Calls Tryz.prog 177 #[.int .i64 k] w fun e w' => e = .returned (.tuple #[.agg #[.int .i64 0, .int .i64 0, .string ⟨#[]⟩], .int .i64 2]) ∧ Below w.heap.size w w' := by
  have hd : ∀ W : World, Calls Tryz.prog 201 #[.int .i64 k] W fun e w' => e = .returned (.bool false) ∧ W = w' := fun W => by rw [← hk]; exact isType_any k W
  have HD := Lib.hid hd
  clear hd hk
  go_enter Tryz.func177, Tryz.ntmps177
  go_wp2_with fail
  refine (HD.out _).mono ?_; rintro e w1 ⟨rfl, rfl⟩
  go_wp2_with fail
  refine bodyPost_ret (v := .tuple #[.agg #[.int .i64 0, .int .i64 0, .string ⟨#[]⟩], .int .i64 2]) (by simp [results, Tryz.results177, go_sem]) rfl ⟨rfl, (Below.refl _ _).alloc (Nat.le_refl _) _⟩
end Go.Proofs.YtdefaeieiaegaaaGreatDoor.Val
namespace Go.Proofs.YtdefaeieiaegaaaGreatDoor.ValRef
open Go.RowKit
open NumM ValM Kit
set_option linter.unusedVariables false
theorem fault_num (k n : Int) (s : ByteArray) (w : World) (h : numE k n ≠ 0) :
    Calls Tryz.prog 104 #[.agg #[.int .i64 k, .int .i64 n, .string s]] w fun e w' => e = .returned (.int .i64 (numE k n)) ∧ Below w.heap.size w w' := by
  by_cases h1 : k = 1
  · subst h1
    have h7 : okN n = false := by
      by_cases g : okN n = true
      · exact absurd (by unfold numE; rw [if_pos rfl, if_pos g]) h
      · simpa using g
    have e7 : numE 1 n = 7 := by unfold numE; rw [if_pos rfl, if_neg (by simp [h7])]
    rw [e7]
    have hc : ∀ W : World, Calls Tryz.prog 154 #[.int .i64 n] W fun e w' => e = .returned (.int .i64 7) ∧ W = w' := fun W => by
      have := NumRef.fault_any n W
      rw [h7] at this; exact this
    have HC := Lib.hid hc
    clear hc h h7 e7
    go_enter Tryz.func104, Tryz.ntmps104
    go_wp2_with fail
    refine (HC.out _).mono ?_; rintro e w1 ⟨rfl, rfl⟩
    go_wp2_with fail
    go_ret
    exact ⟨rfl, b_new _ _⟩
  · by_cases h2 : k = 2
    · subst h2
      have h7 : n < 0 ∨ (0 ≤ n ∧ 1 < n) := by
        by_cases g : 0 ≤ n ∧ n ≤ 1
        · exact absurd (by unfold numE; rw [if_neg (by decide), if_pos rfl, if_pos g]) h
        · omega
      have e7 : numE 2 n = 4 := by unfold numE; rw [if_neg (by decide), if_pos rfl, if_neg (by omega)]
      rw [e7]
      clear h e7 h1
      rcases h7 with g | ⟨g', g⟩
      all_goals
        go_enter Tryz.func104, Tryz.ntmps104
        go_wp2_with fail
        go_ret
        exact ⟨rfl, b_new _ _⟩
    · by_cases h3 : k = 3 ∨ k = 4
      · have h7 : n < 0 ∨ (0 ≤ n ∧ 0 < n) := by
          by_cases g : n = 0
          · exact absurd (by unfold numE; rw [if_neg h1, if_neg h2, if_pos h3, if_pos g]) h
          · omega
        have e7 : numE k n = 4 := by unfold numE; rw [if_neg h1, if_neg h2, if_pos h3, if_neg (by omega)]
        rw [e7]
        clear h e7 h1 h2
        rcases h3 with rfl | rfl
        all_goals
          rcases h7 with g | ⟨g', g⟩
          all_goals
            go_enter Tryz.func104, Tryz.ntmps104
            go_wp2_with fail
            go_ret
            exact ⟨rfl, b_new _ _⟩
      · by_cases h5 : k = 5
        · subst h5
          have h7 : n < 1 ∨ (1 ≤ n ∧ 15 < n) := by
            by_cases g : 1 ≤ n ∧ n ≤ 15
            · exact absurd (by unfold numE; rw [if_neg h1, if_neg h2, if_neg h3, if_pos rfl, if_pos g]) h
            · omega
          have e7 : numE 5 n = 4 := by unfold numE; rw [if_neg h1, if_neg h2, if_neg h3, if_pos rfl, if_neg (by omega)]
          rw [e7]
          clear h e7 h1 h2 h3
          rcases h7 with g | ⟨g', g⟩
          all_goals
            go_enter Tryz.func104, Tryz.ntmps104
            go_wp2_with fail
            go_ret
            exact ⟨rfl, b_new _ _⟩
        · have e7 : numE k n = 2 := by unfold numE; rw [if_neg h1, if_neg h2, if_neg h3, if_neg h5]
          rw [e7]
          have e1 : (k == 1) = false := beq_eq_false_iff_ne.2 h1
          have e2 : (k == 2) = false := beq_eq_false_iff_ne.2 h2
          have e3 : (k == 3) = false := beq_eq_false_iff_ne.2 (fun g => h3 (.inl g))
          have e4 : (k == 4) = false := beq_eq_false_iff_ne.2 (fun g => h3 (.inr g))
          have e5 : (k == 5) = false := beq_eq_false_iff_ne.2 h5
          clear h1 h2 h3 h5 h e7
          go_enter Tryz.func104, Tryz.ntmps104
          go_wp2_with fail
          go_ret
          exact ⟨rfl, b_new _ _⟩
theorem fault_int_in (n : Int) (s : ByteArray) (w : World) (h : okN n = true) :
    Calls Tryz.prog 104 #[.agg #[.int .i64 1, .int .i64 n, .string s]] w fun e w' => e = .returned (.int .i64 (strE 1 s.data.toList)) ∧ Below w.heap.size w w' := by
  have hc : ∀ W : World, Calls Tryz.prog 154 #[.int .i64 n] W fun e w' => e = .returned (.int .i64 0) ∧ W = w' := fun W => by
    have := NumRef.fault_any n W
    rw [h] at this; exact this
  have HC := Lib.hid hc
  clear hc h
  rw [strE_other (by decide)]
  by_cases h0 : s.size = 0
  · have hs0 : s = ⟨#[]⟩ := ByteArray.size_eq_zero_iff.1 h0
    subst hs0
    clear h0
    go_enter Tryz.func104, Tryz.ntmps104
    go_wp2_with fail
    refine (HC.out _).mono ?_; rintro e w1 ⟨rfl, rfl⟩
    go_wp2_with fail
    go_quiet (fail)
    go_wp2
    go_ret
    exact ⟨rfl, b_drewN (b_new _ _) _⟩
  · have hn := not_nil s (by omega)
    obtain ⟨hne, hne'⟩ := Val.empty_b s (by omega)
    rw [if_neg hn]
    clear hn h0
    go_enter Tryz.func104, Tryz.ntmps104
    go_wp2_with fail
    refine (HC.out _).mono ?_; rintro e w1 ⟨rfl, rfl⟩
    go_wp2_with fail
    go_quiet (fail)
    go_wp2
    go_ret
    exact ⟨rfl, b_drewN (b_new _ _) _⟩
theorem fault_plain (k n : Int) (s : ByteArray) (w : World) (hk : (k = 2 ∧ 0 ≤ n ∧ n ≤ 1) ∨ (k = 4 ∧ n = 0) ∨ (k = 5 ∧ 1 ≤ n ∧ n ≤ 15)) :
    Calls Tryz.prog 104 #[.agg #[.int .i64 k, .int .i64 n, .string s]] w fun e w' => e = .returned (.int .i64 (strE k s.data.toList)) ∧ Below w.heap.size w w' := by
  rw [strE_other (by omega)]
  by_cases h0 : s.size = 0
  · have hs0 : s = ⟨#[]⟩ := ByteArray.size_eq_zero_iff.1 h0
    subst hs0
    clear h0
    rcases hk with ⟨rfl, g1, g2⟩ | ⟨rfl, rfl⟩ | ⟨rfl, g1, g2⟩
    all_goals
      go_enter Tryz.func104, Tryz.ntmps104
      go_wp2_with fail
      go_ret
      exact ⟨rfl, b_new _ _⟩
  · have hn := not_nil s (by omega)
    obtain ⟨hne, hne'⟩ := Val.empty_b s (by omega)
    rw [if_neg hn]
    clear hn h0
    rcases hk with ⟨rfl, g1, g2⟩ | ⟨rfl, rfl⟩ | ⟨rfl, g1, g2⟩
    all_goals
      go_enter Tryz.func104, Tryz.ntmps104
      go_wp2_with fail
      go_ret
      exact ⟨rfl, b_new _ _⟩
theorem fault_text_long (s : ByteArray) (w : World) (hs : 40 < s.size) :
    Calls Tryz.prog 104 #[.agg #[.int .i64 3, .int .i64 0, .string s]] w fun e w' => e = .returned (.int .i64 1) ∧ Below w.heap.size w w' := by
  go_enter Tryz.func104, Tryz.ntmps104
  go_wp2_with fail
  go_ret
  exact ⟨rfl, b_new _ _⟩
theorem fault_text (s : ByteArray) (w : World) (hs : s.size ≤ 40) :
    Calls Tryz.prog 104 #[.agg #[.int .i64 3, .int .i64 0, .string s]] w fun e w' => e = .returned (.int .i64 (strE 3 s.data.toList)) ∧ Below w.heap.size w w' := by
  go_enter Tryz.func104, Tryz.ntmps104
  go_wp2
  go_loop [5] (fun i => ∃ k : Nat, k ≤ s.size ∧ i = .int .i64 k ∧ cleanL (s.data.toList.take k) = true) (fun i => s.size - (intOf i).toNat)
  case atStart => exact ⟨0, Nat.zero_le _, rfl, rfl⟩
  case round =>
    obtain ⟨k, hk, rfl, hcl⟩ := hrel
    have HC := Lib.hid hcl
    clear hcl
    by_cases hlt : k < s.size
    · by_cases h1 : s[k].toNat < 32
      · have h1' : ((s[k].toNat : Int) < 32) := by omega
        go_wp2
        go_ret
        exact ⟨ret_int (strE_foul hs (cleanL_bad s k hlt (.inl h1))).symm, b_new _ _⟩
      · by_cases h2 : 126 < s[k].toNat
        · go_wp2
          go_ret
          exact ⟨ret_int (strE_foul hs (cleanL_bad s k hlt (.inr h2))).symm, b_new _ _⟩
        · go_wp2
          go_round
          case rel => exact ⟨k + 1, by omega, by go_num, cleanL_step s k hlt HC.out (by omega) (by omega)⟩
          case measure => simp [intOf]; omega
    · go_wp2
      go_ret
      exact ⟨ret_int (strE_clean hs (cleanL_all s k (by omega) HC.out)).symm, b_new _ _⟩
theorem fault_any (k n : Int) (s : ByteArray) (w : World) :
    Calls Tryz.prog 104 #[.agg #[.int .i64 k, .int .i64 n, .string s]] w fun e w' => e = .returned (.int .i64 (valE k n s.data.toList)) ∧ Below w.heap.size w w' := by
  by_cases h : numE k n = 0
  · have e : valE k n s.data.toList = strE k s.data.toList := by unfold valE; rw [if_pos h]
    rw [e]
    unfold numE at h
    by_cases h1 : k = 1
    · subst h1
      rw [if_pos rfl] at h
      exact fault_int_in n s w (by by_cases g : okN n = true; exact g; rw [if_neg g] at h; omega)
    · rw [if_neg h1] at h
      by_cases h2 : k = 2
      · rw [if_pos h2] at h
        refine fault_plain k n s w (.inl ⟨h2, ?_⟩)
        by_cases g : 0 ≤ n ∧ n ≤ 1
        · exact g
        · rw [if_neg g] at h; omega
      · rw [if_neg h2] at h
        by_cases h3 : k = 3 ∨ k = 4
        · rw [if_pos h3] at h
          have hn : n = 0 := by
            by_cases g : n = 0
            · exact g
            · rw [if_neg g] at h; omega
          subst hn
          rcases h3 with rfl | rfl
          · by_cases hs : 40 < s.size
            · rw [strE_long (by rw [len_size]; exact hs)]
              exact fault_text_long s w hs
            · exact fault_text s w (by omega)
          · exact fault_plain 4 0 s w (.inr (.inl ⟨rfl, rfl⟩))
        · rw [if_neg h3] at h
          by_cases h5 : k = 5
          · rw [if_pos h5] at h
            refine fault_plain k n s w (.inr (.inr ⟨h5, ?_⟩))
            by_cases g : 1 ≤ n ∧ n ≤ 15
            · exact g
            · rw [if_neg g] at h; omega
          · rw [if_neg h5] at h; omega
  · have e : valE k n s.data.toList = numE k n := by unfold valE; rw [if_neg h]
    rw [e]
    exact fault_num k n s w h
theorem known_any (k n : Int) (s : ByteArray) (w : World) :
    Calls Tryz.prog 199 #[.agg #[.int .i64 k, .int .i64 n, .string s]] w fun e w' => e = .returned (.bool (knownB k n s.data.toList)) ∧ Below w.heap.size w w' := by
  obtain ⟨q, hq⟩ : ∃ q : Int, valE k n s.data.toList = q := ⟨_, rfl⟩
  have hc : ∀ W : World, Calls Tryz.prog 104 #[.agg #[.int .i64 k, .int .i64 n, .string s]] W fun e w' => e = .returned (.int .i64 q) ∧ Below W.heap.size W w' := fun W => by rw [← hq]; exact fault_any k n s W
  have HC := Lib.hid hc
  clear hc
  by_cases h0 : q = 0
  · have hk : 1 ≤ k := by
      subst h0
      by_cases g : 1 ≤ k
      · exact g
      · exfalso
        have : numE k n = 2 := by unfold numE; rw [if_neg (by omega), if_neg (by omega), if_neg (by omega), if_neg (by omega)]
        unfold valE at hq; rw [this] at hq; simp at hq
    have e : knownB k n s.data.toList = decide (k < 4) := by
      unfold knownB isT
      rw [hq, h0]
      simp only [decide_true, Bool.and_true]
      rw [Bool.eq_iff_iff]; simp only [Bool.or_eq_true, decide_eq_true_eq]; omega
    rw [e]
    subst h0
    clear hq e hk
    by_cases g : k < 4
    all_goals
      go_enter Tryz.func199, Tryz.ntmps199
      go_wp2_with fail
      refine (HC.out _).mono ?_; rintro e w1 ⟨rfl, hb1⟩
      have hz := hb1.size
      have hc1 := hb1.cell (p := ⟨w.heap.size, 0, none⟩) (by simp)
      go_wp2_with fail
      go_ret
      exact ⟨ret_bool (by simp [g]), b_then hb1⟩
  · have e : knownB k n s.data.toList = false := by unfold knownB; rw [hq, decide_eq_false h0]; simp
    rw [e]
    have hq0 : (q == 0) = false := beq_eq_false_iff_ne.2 h0
    clear hq e h0
    go_enter Tryz.func199, Tryz.ntmps199
    go_wp2_with fail
    refine (HC.out _).mono ?_; rintro e w1 ⟨rfl, hb1⟩
    go_wp2_with fail
    go_ret
    exact ⟨rfl, b_then hb1⟩
end Go.Proofs.YtdefaeieiaegaaaGreatDoor.ValRef
namespace Go.Proofs.YtdefaeieiaegaaaGreatDoor.LexB
open Go.RowKit
open LexM
set_option linter.unusedVariables false
theorem low_t {c : UInt8} (h1 : (97 : Int) ≤ c.toNat) (h2 : (c.toNat : Int) ≤ 122) : lowB c = true := by unfold lowB; simp; omega
theorem low_f {c : UInt8} (h : (c.toNat : Int) < 97 ∨ (122 : Int) < c.toNat) : lowB c = false := by
  unfold lowB; rw [Bool.and_eq_false_iff]; simp; omega
theorem dig_t {c : UInt8} (h1 : (48 : Int) ≤ c.toNat) (h2 : (c.toNat : Int) ≤ 57) : digB c = true := by unfold digB; simp; omega
theorem dig_f {c : UInt8} (h : (c.toNat : Int) < 48 ∨ (57 : Int) < c.toNat) : digB c = false := by
  unfold digB; rw [Bool.and_eq_false_iff]; simp; omega
theorem isLetter_any (c : UInt8) (w : World) :
    Calls Tryz.prog 143 #[.int .u8 (c.toNat : Int)] w fun e w' => e = .returned (.bool (lowB c)) ∧ w = w' := by
  by_cases h1 : (97 : Int) ≤ c.toNat
  · by_cases h2 : (c.toNat : Int) ≤ 122
    · rw [low_t h1 h2]
      have d1 : decide ((97 : Int) ≤ c.toNat) = true := decide_eq_true h1
      have d2 : decide ((c.toNat : Int) ≤ 122) = true := decide_eq_true h2
      go_enter Tryz.func143, Tryz.ntmps143
      go_wp2
      go_ret
      exact ⟨rfl, rfl⟩
    · rw [low_f (.inr (by omega))]
      have d1 : decide ((97 : Int) ≤ c.toNat) = true := decide_eq_true h1
      have d2 : decide ((c.toNat : Int) ≤ 122) = false := decide_eq_false h2
      go_enter Tryz.func143, Tryz.ntmps143
      go_wp2
      go_ret
      exact ⟨rfl, rfl⟩
  · rw [low_f (.inl (by omega))]
    have d1 : decide ((97 : Int) ≤ c.toNat) = false := decide_eq_false h1
    go_enter Tryz.func143, Tryz.ntmps143
    go_wp2
    go_ret
    exact ⟨rfl, rfl⟩
theorem isDigit_any (c : UInt8) (w : World) :
    Calls Tryz.prog 183 #[.int .u8 (c.toNat : Int)] w fun e w' => e = .returned (.bool (digB c)) ∧ w = w' := by
  by_cases h1 : (48 : Int) ≤ c.toNat
  · by_cases h2 : (c.toNat : Int) ≤ 57
    · rw [dig_t h1 h2]
      have d1 : decide ((48 : Int) ≤ c.toNat) = true := decide_eq_true h1
      have d2 : decide ((c.toNat : Int) ≤ 57) = true := decide_eq_true h2
      go_enter Tryz.func183, Tryz.ntmps183
      go_wp2
      go_ret
      exact ⟨rfl, rfl⟩
    · rw [dig_f (.inr (by omega))]
      have d1 : decide ((48 : Int) ≤ c.toNat) = true := decide_eq_true h1
      have d2 : decide ((c.toNat : Int) ≤ 57) = false := decide_eq_false h2
      go_enter Tryz.func183, Tryz.ntmps183
      go_wp2
      go_ret
      exact ⟨rfl, rfl⟩
  · rw [dig_f (.inl (by omega))]
    have d1 : decide ((48 : Int) ≤ c.toNat) = false := decide_eq_false h1
    go_enter Tryz.func183, Tryz.ntmps183
    go_wp2
    go_ret
    exact ⟨rfl, rfl⟩
theorem small_any (c : UInt8) (w : World) :
    Calls Tryz.prog 114 #[.int .u8 (c.toNat : Int)] w fun e w' => e = .returned (.bool (lowB c)) ∧ w = w' := by
  by_cases h1 : (97 : Int) ≤ c.toNat
  · by_cases h2 : (c.toNat : Int) ≤ 122
    · rw [low_t h1 h2]
      have d1 : decide ((97 : Int) ≤ c.toNat) = true := decide_eq_true h1
      have d2 : decide ((c.toNat : Int) ≤ 122) = true := decide_eq_true h2
      go_enter Tryz.func114, Tryz.ntmps114
      go_wp2
      go_ret
      exact ⟨rfl, rfl⟩
    · rw [low_f (.inr (by omega))]
      have d1 : decide ((97 : Int) ≤ c.toNat) = true := decide_eq_true h1
      have d2 : decide ((c.toNat : Int) ≤ 122) = false := decide_eq_false h2
      go_enter Tryz.func114, Tryz.ntmps114
      go_wp2
      go_ret
      exact ⟨rfl, rfl⟩
  · rw [low_f (.inl (by omega))]
    have d1 : decide ((97 : Int) ≤ c.toNat) = false := decide_eq_false h1
    go_enter Tryz.func114, Tryz.ntmps114
    go_wp2
    go_ret
    exact ⟨rfl, rfl⟩
theorem figure_any (c : UInt8) (w : World) :
    Calls Tryz.prog 115 #[.int .u8 (c.toNat : Int)] w fun e w' => e = .returned (.bool (digB c)) ∧ w = w' := by
  by_cases h1 : (48 : Int) ≤ c.toNat
  · by_cases h2 : (c.toNat : Int) ≤ 57
    · rw [dig_t h1 h2]
      have d1 : decide ((48 : Int) ≤ c.toNat) = true := decide_eq_true h1
      have d2 : decide ((c.toNat : Int) ≤ 57) = true := decide_eq_true h2
      go_enter Tryz.func115, Tryz.ntmps115
      go_wp2
      go_ret
      exact ⟨rfl, rfl⟩
    · rw [dig_f (.inr (by omega))]
      have d1 : decide ((48 : Int) ≤ c.toNat) = true := decide_eq_true h1
      have d2 : decide ((c.toNat : Int) ≤ 57) = false := decide_eq_false h2
      go_enter Tryz.func115, Tryz.ntmps115
      go_wp2
      go_ret
      exact ⟨rfl, rfl⟩
  · rw [dig_f (.inl (by omega))]
    have d1 : decide ((48 : Int) ≤ c.toNat) = false := decide_eq_false h1
    go_enter Tryz.func115, Tryz.ntmps115
    go_wp2
    go_ret
    exact ⟨rfl, rfl⟩
theorem isAln_any (c : UInt8) (w : World) :
    Calls Tryz.prog 145 #[.int .u8 (c.toNat : Int)] w fun e w' => e = .returned (.bool (alnB c)) ∧ w = w' := by
  have c1 := fun W => isLetter_any c W
  have c2 := fun W => isDigit_any c W
  have e : alnB c = (lowB c || digB c) := rfl
  rw [e]
  clear e
  obtain ⟨a, ha⟩ : ∃ a, lowB c = a := ⟨_, rfl⟩
  obtain ⟨b, hb⟩ : ∃ b, digB c = b := ⟨_, rfl⟩
  rw [ha] at c1 ⊢
  rw [hb] at c2 ⊢
  have C1 := Lib.hid c1
  have C2 := Lib.hid c2
  clear c1 c2 ha hb
  cases a
  all_goals
    go_enter Tryz.func145, Tryz.ntmps145
    go_wp2_with (first | (go_at_call 143; (with_reducible refine (C1.out _).mono ?_); rintro e w1 ⟨rfl, rfl⟩) | (go_at_call 183; (with_reducible refine (C2.out _).mono ?_); rintro e w1 ⟨rfl, rfl⟩))
    go_ret
    exact ⟨by simp, rfl⟩
theorem take_snoc (s : ByteArray) (k : Nat) (h : k < s.size) : s.data.toList.take (k + 1) = s.data.toList.take k ++ [s[k]] := by
  rw [List.take_succ_eq_append_getElem (by simpa using h)]; rfl
theorem drop_cons (s : ByteArray) (k : Nat) (h : k < s.size) : s.data.toList.drop k = s[k] :: s.data.toList.drop (k + 1) := by
  rw [List.drop_eq_getElem_cons (by simpa using h)]; rfl
theorem len_size (s : ByteArray) : s.data.toList.length = s.size := rfl
/-- How far a string's beginning goes. -/
def tw (p : UInt8 → Bool) (s : ByteArray) : Nat := (s.data.toList.takeWhile p).length
theorem tw_stop (p : UInt8 → Bool) (s : ByteArray) (k : Nat) (hk : k ≤ s.size) (h : (s.data.toList.take k).all p = true) (h2 : ∀ g : k < s.size, p s[k] = false) : tw p s = k := by
  unfold tw
  have e : s.data.toList = s.data.toList.take k ++ s.data.toList.drop k := (List.take_append_drop k _).symm
  have e2 : (s.data.toList.drop k).takeWhile p = [] := by
    by_cases g : k < s.size
    · rw [drop_cons s k g, List.takeWhile_cons, h2 g]; rfl
    · rw [List.drop_eq_nil_of_le (by rw [len_size]; omega)]; rfl
  rw [e, List.takeWhile_append_of_pos (fun a ha => List.all_eq_true.1 h a ha), e2, List.append_nil, List.length_take, len_size]
  omega
theorem all_step (p : UInt8 → Bool) (s : ByteArray) (k : Nat) (hk : k < s.size) (h : (s.data.toList.take k).all p = true) (h2 : p s[k] = true) : (s.data.toList.take (k + 1)).all p = true := by
  rw [take_snoc s k hk, List.all_append, h]; simp [h2]
theorem leading_dig (s : ByteArray) (w : World) (hs : s.size ≤ 9223372036854775807) :
    Calls Tryz.prog 144 #[.string s, .func (.func 183) #[] #[]] w fun e w' => e = .returned (.string (s.extract 0 (tw digB s))) ∧ w = w' := by
  go_enter Tryz.func144, Tryz.ntmps144
  go_wp2_with fail
  go_loop [5] (fun i => ∃ k : Nat, k ≤ s.size ∧ i = .int .i64 k ∧ (s.data.toList.take k).all digB = true) (fun i => s.size - (intOf i).toNat)
  case atStart => exact ⟨0, Nat.zero_le _, rfl, rfl⟩
  case round =>
    obtain ⟨k, hk, rfl, ha⟩ := hrel
    by_cases hlt : k < s.size
    · have c1 := fun W => isDigit_any s[k] W
      obtain ⟨b, hb⟩ : ∃ b, digB s[k] = b := ⟨_, rfl⟩
      rw [hb] at c1
      have C1 := Lib.hid c1
      have HA := Lib.hid ha
      have HB := Lib.hid hb
      clear c1 ha hb
      cases b
      · go_wp2_with (first | (go_at_call 183; (with_reducible refine (C1.out _).mono ?_); rintro e w1 ⟨rfl, rfl⟩))
        go_ret
        exact ⟨by rw [tw_stop digB s k (by omega) HA.out (fun _ => HB.out)]; rfl, rfl⟩
      · go_wp2_with (first | (go_at_call 183; (with_reducible refine (C1.out _).mono ?_); rintro e w1 ⟨rfl, rfl⟩))
        go_round
        case rel => exact ⟨k + 1, by omega, by go_num, all_step digB s k hlt HA.out HB.out⟩
        case measure => simp [intOf]; omega
    · have HA := Lib.hid ha
      clear ha
      go_wp2_with fail
      go_ret
      exact ⟨by rw [tw_stop digB s k (by omega) HA.out (fun g => absurd g hlt)]; rfl, rfl⟩
theorem leading_aln (s : ByteArray) (w : World) (hs : s.size ≤ 9223372036854775807) :
    Calls Tryz.prog 144 #[.string s, .func (.func 145) #[] #[]] w fun e w' => e = .returned (.string (s.extract 0 (tw alnB s))) ∧ w = w' := by
  go_enter Tryz.func144, Tryz.ntmps144
  go_wp2_with fail
  go_loop [5] (fun i => ∃ k : Nat, k ≤ s.size ∧ i = .int .i64 k ∧ (s.data.toList.take k).all alnB = true) (fun i => s.size - (intOf i).toNat)
  case atStart => exact ⟨0, Nat.zero_le _, rfl, rfl⟩
  case round =>
    obtain ⟨k, hk, rfl, ha⟩ := hrel
    by_cases hlt : k < s.size
    · have c1 := fun W => isAln_any s[k] W
      obtain ⟨b, hb⟩ : ∃ b, alnB s[k] = b := ⟨_, rfl⟩
      rw [hb] at c1
      have C1 := Lib.hid c1
      have HA := Lib.hid ha
      have HB := Lib.hid hb
      clear c1 ha hb
      cases b
      · go_wp2_with (first | (go_at_call 145; (with_reducible refine (C1.out _).mono ?_); rintro e w1 ⟨rfl, rfl⟩))
        go_ret
        exact ⟨by rw [tw_stop alnB s k (by omega) HA.out (fun _ => HB.out)]; rfl, rfl⟩
      · go_wp2_with (first | (go_at_call 145; (with_reducible refine (C1.out _).mono ?_); rintro e w1 ⟨rfl, rfl⟩))
        go_round
        case rel => exact ⟨k + 1, by omega, by go_num, all_step alnB s k hlt HA.out HB.out⟩
        case measure => simp [intOf]; omega
    · have HA := Lib.hid ha
      clear ha
      go_wp2_with fail
      go_ret
      exact ⟨by rw [tw_stop alnB s k (by omega) HA.out (fun g => absurd g hlt)]; rfl, rfl⟩
theorem eqb_of (s : ByteArray) (l : List UInt8) : (s.toList == l) = decide (s.data.toList = l) := by
  rw [ByteArray.toList_eq, Bool.eq_iff_iff]; simp
theorem bytes_of {s : ByteArray} {l : List UInt8} (h : s.data.toList = l) : s = ⟨l.toArray⟩ := by
  obtain ⟨⟨x⟩⟩ := s; cases h; rfl
theorem key_any (s : ByteArray) (w : World) :
    Calls Tryz.prog 146 #[.string s] w fun e w' => e = .returned (.bool (keyB s.data.toList)) ∧ w = w' := by
  by_cases h0 : s.data.toList = [97, 110, 100]
  · rw [h0]
    obtain rfl := bytes_of h0
    have e : keyB [97, 110, 100] = true := by decide
    rw [e]
    go_enter Tryz.func146, Tryz.ntmps146
    go_wp2
    go_ret
    exact ⟨rfl, rfl⟩
  by_cases h1 : s.data.toList = [111, 114]
  · rw [h1]
    obtain rfl := bytes_of h1
    have e : keyB [111, 114] = true := by decide
    rw [e]
    go_enter Tryz.func146, Tryz.ntmps146
    go_wp2
    go_ret
    exact ⟨rfl, rfl⟩
  by_cases h2 : s.data.toList = [110, 111, 116]
  · rw [h2]
    obtain rfl := bytes_of h2
    have e : keyB [110, 111, 116] = true := by decide
    rw [e]
    go_enter Tryz.func146, Tryz.ntmps146
    go_wp2
    go_ret
    exact ⟨rfl, rfl⟩
  by_cases h3 : s.data.toList = [116, 114, 117, 101]
  · rw [h3]
    obtain rfl := bytes_of h3
    have e : keyB [116, 114, 117, 101] = true := by decide
    rw [e]
    go_enter Tryz.func146, Tryz.ntmps146
    go_wp2
    go_ret
    exact ⟨rfl, rfl⟩
  by_cases h4 : s.data.toList = [102, 97, 108, 115, 101]
  · rw [h4]
    obtain rfl := bytes_of h4
    have e : keyB [102, 97, 108, 115, 101] = true := by decide
    rw [e]
    go_enter Tryz.func146, Tryz.ntmps146
    go_wp2
    go_ret
    exact ⟨rfl, rfl⟩
  by_cases h5 : s.data.toList = [105, 102]
  · rw [h5]
    obtain rfl := bytes_of h5
    have e : keyB [105, 102] = true := by decide
    rw [e]
    go_enter Tryz.func146, Tryz.ntmps146
    go_wp2
    go_ret
    exact ⟨rfl, rfl⟩
  by_cases h6 : s.data.toList = [108, 101, 110]
  · rw [h6]
    obtain rfl := bytes_of h6
    have e : keyB [108, 101, 110] = true := by decide
    rw [e]
    go_enter Tryz.func146, Tryz.ntmps146
    go_wp2
    go_ret
    exact ⟨rfl, rfl⟩
  have e : keyB s.data.toList = false := by unfold keyB; simp [h0, h1, h2, h3, h4, h5, h6]
  rw [e]
  have t0 : (s.toList == [97, 110, 100]) = false := by rw [eqb_of]; exact decide_eq_false h0
  have t1 : (s.toList == [111, 114]) = false := by rw [eqb_of]; exact decide_eq_false h1
  have t2 : (s.toList == [110, 111, 116]) = false := by rw [eqb_of]; exact decide_eq_false h2
  have t3 : (s.toList == [116, 114, 117, 101]) = false := by rw [eqb_of]; exact decide_eq_false h3
  have t4 : (s.toList == [102, 97, 108, 115, 101]) = false := by rw [eqb_of]; exact decide_eq_false h4
  have t5 : (s.toList == [105, 102]) = false := by rw [eqb_of]; exact decide_eq_false h5
  have t6 : (s.toList == [108, 101, 110]) = false := by rw [eqb_of]; exact decide_eq_false h6
  clear e h0 h1 h2 h3 h4 h5 h6
  go_enter Tryz.func146, Tryz.ntmps146
  go_wp2
  go_ret
  exact ⟨rfl, rfl⟩
def words : Nat → List UInt8
  | 0 => [97, 110, 100]
  | 1 => [111, 114]
  | 2 => [110, 111, 116]
  | 3 => [116, 114, 117, 101]
  | 4 => [102, 97, 108, 115, 101]
  | 5 => [105, 102]
  | _ => [108, 101, 110]
theorem key_no {s : List UInt8} {k : Nat} (hk : 7 ≤ k) (h : ∀ i, i < k → s ≠ words i) : keyB s = false := by
  unfold keyB
  have h0 := h 0 (by omega); have h1 := h 1 (by omega); have h2 := h 2 (by omega); have h3 := h 3 (by omega); have h4 := h 4 (by omega); have h5 := h 5 (by omega); have h6 := h 6 (by omega)
  simp only [words] at h0 h1 h2 h3 h4 h5 h6
  simp [h0, h1, h2, h3, h4, h5, h6]
theorem key_yes {s : List UInt8} {k : Nat} (hk : k < 7) (h : s = words k) : keyB s = true := by
  subst h
  match k, hk with
  | 0, _ => rfl
  | 1, _ => rfl
  | 2, _ => rfl
  | 3, _ => rfl
  | 4, _ => rfl
  | 5, _ => rfl
  | 6, _ => rfl
set_option maxHeartbeats 1000000 in
theorem refKey_any (s : ByteArray) (w : World) :
    Calls Tryz.prog 116 #[.string s] w fun e w' => e = .returned (.bool (keyB s.data.toList)) ∧ Below w.heap.size w w' := by
  go_enter Tryz.func116, Tryz.ntmps116
  go_wp2
  go_loop [4, 7] (fun _ i => ∃ k : Nat, k ≤ 7 ∧ i = .int .i64 k ∧ ∀ j, j < k → s.data.toList ≠ words j) (fun _ i => 7 - (intOf i).toNat)
  case atStart => exact ⟨0, by omega, rfl, fun j hj => by omega⟩
  case round =>
    obtain ⟨k, hk, rfl, hno⟩ := hrel
    have HN := Lib.hid hno
    clear hno
    by_cases hlt : k < 7
    · have hc : (w.alloc (.cells #[.string ⟨#[97, 110, 100]⟩, .string ⟨#[111, 114]⟩, .string ⟨#[110, 111, 116]⟩, .string ⟨#[116, 114, 117, 101]⟩, .string ⟨#[102, 97, 108, 115, 101]⟩, .string ⟨#[105, 102]⟩, .string ⟨#[108, 101, 110]⟩] 9)).cell? ⟨w.heap.size, k, none⟩ = some (.string ⟨(words k).toArray⟩) := by
        match k, hlt with
        | 0, _ => simp [words]
        | 1, _ => simp [words]
        | 2, _ => simp [words]
        | 3, _ => simp [words]
        | 4, _ => simp [words]
        | 5, _ => simp [words]
        | 6, _ => simp [words]
      obtain ⟨b, hb⟩ : ∃ b, decide (s.data.toList = words k) = b := ⟨_, rfl⟩
      have t1 : (s.toList == words k) = b := by rw [eqb_of]; exact hb
      have t2 : (ByteArray.mk (words k).toArray).toList = words k := by rw [ByteArray.toList_eq]
      obtain ⟨u, hu⟩ : ∃ u : ByteArray, u = ⟨(words k).toArray⟩ := ⟨_, rfl⟩
      rw [← hu] at hc t2
      rw [← t2] at t1
      have HB := Lib.hid hb
      clear hb hu t2
      cases b
      · go_wp2
        go_round
        case rel => exact ⟨k + 1, by omega, by go_num, fun j hj => by
          by_cases e : j = k
          · subst e; exact of_decide_eq_false HB.out
          · exact HN.out j (by omega)⟩
        case measure => simp [intOf]; omega
      · go_wp2
        go_ret
        exact ⟨by rw [key_yes hlt (of_decide_eq_true HB.out)]; rfl, (Below.refl _ _).alloc (Nat.le_refl _) _⟩
    · go_wp2
      go_ret
      exact ⟨by rw [key_no (by omega) HN.out]; rfl, (Below.refl _ _).alloc (Nat.le_refl _) _⟩
def nameE (l : List UInt8) : Int := if l = [] ∨ 10 < l.length then 1 else if nameB l = true ∧ keyB l = false then 0 else 3
theorem nameB_iff (l : List UInt8) : nameB l = true ↔ 0 < l.length ∧ ∀ (i : Nat) (h : i < l.length), lowB l[i] = true ∨ (0 < i ∧ digB l[i] = true) := by
  cases l with
  | nil => simp [nameB]
  | cons c r =>
    unfold nameB
    simp only [Bool.and_eq_true, List.all_eq_true]
    constructor
    · rintro ⟨h1, h2⟩
      refine ⟨by simp, fun i h => ?_⟩
      cases i with
      | zero => exact .inl h1
      | succ i =>
        have := h2 (r[i]'(by simpa using h)) (List.getElem_mem _)
        unfold alnB at this
        rw [Bool.or_eq_true] at this
        rcases this with g | g
        · exact .inl g
        · exact .inr ⟨by omega, g⟩
    · rintro ⟨_, h⟩
      refine ⟨?_, fun x hx => ?_⟩
      · rcases h 0 (by simp) with g | g
        · exact g
        · omega
      · obtain ⟨i, hi, rfl⟩ := List.mem_iff_getElem.1 hx
        unfold alnB
        rw [Bool.or_eq_true]
        rcases h (i + 1) (by simpa using hi) with g | g
        · exact .inl g
        · exact .inr g.2
theorem empty_f (s : ByteArray) (h : 0 < s.size) : (!s.toList.isEmpty) = true ∧ s.toList.isEmpty = false ∧ s.data.toList ≠ [] := by
  have e : s.data.toList ≠ [] := fun e => by
    have : s.data.toList.length = 0 := by rw [e]; rfl
    rw [len_size] at this; omega
  rw [ByteArray.toList_eq]
  cases hd : s.data.toList with
  | nil => exact absurd hd e
  | cons a r => simp
theorem head_of (s : ByteArray) (h : 0 < s.size) : ∃ r, s.data.toList = s[0] :: r := ⟨_, by have := drop_cons s 0 h; rwa [List.drop_zero] at this⟩
theorem tw_eq (s : ByteArray) : (s.extract 0 (tw alnB s)).data.toList = s.data.toList.takeWhile alnB := by
  have e : (s.extract 0 (tw alnB s)).data.toList = s.data.toList.take (tw alnB s) := by simp [ByteArray.data_extract]
  rw [e]
  unfold tw
  exact LexM.take_tw alnB _
set_option maxHeartbeats 1000000 in
theorem name_any (s : ByteArray) (w : World) (hs : s.size ≤ 9223372036854775807) :
    Calls Tryz.prog 94 #[.string s] w fun e w' => e = .returned (.int .i64 (nameE s.data.toList)) ∧ w = w' := by
  by_cases h0 : s.size = 0
  · have e : s = ⟨#[]⟩ := bytes_of (List.eq_nil_of_length_eq_zero h0)
    subst e
    go_enter Tryz.func94, Tryz.ntmps94
    go_wp2
    go_ret
    exact ⟨rfl, rfl⟩
  · obtain ⟨n1, n2, n3⟩ := empty_f s (by omega)
    by_cases h10 : 10 < s.size
    · have e : nameE s.data.toList = 1 := by unfold nameE; rw [if_pos (.inr h10)]
      rw [e]
      clear e n3
      go_enter Tryz.func94, Tryz.ntmps94
      go_wp2
      go_ret
      exact ⟨rfl, rfl⟩
    · have e : nameE s.data.toList = if nameB s.data.toList = true ∧ keyB s.data.toList = false then 0 else 3 := by
        unfold nameE; rw [if_neg]; rintro (g | g)
        · exact n3 g
        · rw [len_size] at g; omega
      rw [e]
      have hp : 0 < s.size := by omega
      have hpi : (0 : Int) < s.size := by omega
      have c1 := fun W => isLetter_any s[0] W
      have c2 := fun W => leading_aln s W hs
      have c3 := fun W => key_any s W
      obtain ⟨b1, hb1⟩ : ∃ b, lowB s[0] = b := ⟨_, rfl⟩
      obtain ⟨b3, hb3⟩ : ∃ b, keyB s.data.toList = b := ⟨_, rfl⟩
      obtain ⟨t, ht⟩ : ∃ t, s.extract 0 (tw alnB s) = t := ⟨_, rfl⟩
      obtain ⟨b2, hb2⟩ : ∃ b, (t.toList != s.toList) = b := ⟨_, rfl⟩
      have f2 : nameB s.data.toList = (b1 && !b2) := by
        obtain ⟨r, hr⟩ := head_of s hp
        have g1 := tw_eq s
        rw [ht] at g1
        have g2 : (t.data.toList = s.data.toList) ↔ s.data.toList.all alnB = true := by rw [g1]; exact LexM.tw_id alnB _
        have g3 : b2 = !(s.data.toList.all alnB) := by
          rw [← hb2, ByteArray.toList_eq, ByteArray.toList_eq]; unfold bne; congr 1
          rw [Bool.eq_iff_iff, ← g2]; simp
        rw [g3, Bool.not_not, Bool.eq_iff_iff, hr]
        unfold nameB
        rw [← hb1]
        simp only [Bool.and_eq_true, List.all_cons]
        unfold alnB
        constructor
        · rintro ⟨x, y⟩; exact ⟨x, by rw [x]; rfl, y⟩
        · rintro ⟨x, _, y⟩; exact ⟨x, y⟩
      rw [hb1] at c1
      rw [hb3] at c3 ⊢
      rw [ht] at c2
      rw [f2]
      have k1 : (t.toList == s.toList) = !b2 := by rw [← hb2]; unfold bne; rw [Bool.not_not]
      have C1 := Lib.hid c1
      have C2 := Lib.hid c2
      have C3 := Lib.hid c3
      clear c1 c2 c3 hb1 hb3 ht f2 e n3
      cases b1 <;> cases b2 <;> cases b3
      all_goals
        go_enter Tryz.func94, Tryz.ntmps94
        go_wp2_with (first | (go_at_call 143; (with_reducible refine (C1.out _).mono ?_); rintro e w1 ⟨rfl, rfl⟩) | (go_at_call 144; (with_reducible refine (C2.out _).mono ?_); rintro e w1 ⟨rfl, rfl⟩) | (go_at_call 146; (with_reducible refine (C3.out _).mono ?_); rintro e w1 ⟨rfl, rfl⟩))
        go_ret
        exact ⟨rfl, rfl⟩
set_option maxHeartbeats 1000000 in
theorem refName_any (s : ByteArray) (w : World) (hs : s.size ≤ 9223372036854775807) :
    Calls Tryz.prog 69 #[.string s] w fun e w' => e = .returned (.int .i64 (nameE s.data.toList)) ∧ Below w.heap.size w w' := by
  by_cases h0 : s.size = 0
  · have e : s = ⟨#[]⟩ := bytes_of (List.eq_nil_of_length_eq_zero h0)
    subst e
    go_enter Tryz.func69, Tryz.ntmps69
    go_wp2
    go_ret
    exact ⟨rfl, Below.refl _ _⟩
  · obtain ⟨n1, n2, n3⟩ := empty_f s (by omega)
    by_cases h10 : 10 < s.size
    · have e : nameE s.data.toList = 1 := by unfold nameE; rw [if_pos (.inr h10)]
      rw [e]
      clear e n3
      go_enter Tryz.func69, Tryz.ntmps69
      go_wp2
      go_ret
      exact ⟨rfl, Below.refl _ _⟩
    · have e : nameE s.data.toList = if nameB s.data.toList = true ∧ keyB s.data.toList = false then 0 else 3 := by
        unfold nameE; rw [if_neg]; rintro (g | g)
        · exact n3 g
        · rw [len_size] at g; omega
      rw [e]
      have c3 := fun W => refKey_any s W
      obtain ⟨b3, hb3⟩ : ∃ b, keyB s.data.toList = b := ⟨_, rfl⟩
      rw [hb3] at c3 ⊢
      have hN : nameB s.data.toList = true ↔ 0 < s.size ∧ ∀ (i : Nat) (h : i < s.size), lowB s[i] = true ∨ (0 < i ∧ digB s[i] = true) := nameB_iff s.data.toList
      obtain ⟨q, hq⟩ : ∃ q : Int, (if nameB s.data.toList = true ∧ b3 = false then 0 else 3) = q := ⟨_, rfl⟩
      rw [hq]
      have C3 := Lib.hid c3
      have HN := Lib.hid hN
      have HQ := Lib.hid hq
      clear c3 hN hb3 e n3 hq
      go_enter Tryz.func69, Tryz.ntmps69
      go_wp2_with fail
      go_loop [3] (fun i => ∃ k : Nat, k ≤ s.size ∧ i = .int .i64 k ∧ ∀ (j : Nat) (h : j < s.size), j < k → lowB s[j] = true ∨ (0 < j ∧ digB s[j] = true)) (fun i => s.size - (intOf i).toNat)
      case atStart => exact ⟨0, Nat.zero_le _, rfl, fun j h hj => by omega⟩
      case round =>
        obtain ⟨k, hk, rfl, ha⟩ := hrel
        have HA := Lib.hid ha
        clear ha
        by_cases hlt : k < s.size
        · have c1 := fun W => small_any s[k] W
          have c2 := fun W => figure_any s[k] W
          obtain ⟨b1, hb1⟩ : ∃ b, lowB s[k] = b := ⟨_, rfl⟩
          obtain ⟨b2, hb2⟩ : ∃ b, digB s[k] = b := ⟨_, rfl⟩
          rw [hb1] at c1
          rw [hb2] at c2
          have C1 := Lib.hid c1
          have C2 := Lib.hid c2
          have H1 := Lib.hid hb1
          have H2 := Lib.hid hb2
          clear c1 c2 hb1 hb2
          have hgo : (b1 = true ∨ (0 < k ∧ b2 = true)) → ∀ (j : Nat) (h : j < s.size), j < k + 1 → lowB s[j] = true ∨ (0 < j ∧ digB s[j] = true) := fun g j h hj => by
            by_cases e : j = k
            · subst e; rw [H1.out, H2.out]; exact g
            · exact HA.out j h (by omega)
          have hno : ¬ (b1 = true ∨ (0 < k ∧ b2 = true)) → nameB s.data.toList = false := fun g => by
            rw [Bool.eq_false_iff]; intro g2
            have := (HN.out.1 g2).2 k hlt
            refine g ?_
            rw [← H1.out, ← H2.out]; exact this
          have HG := Lib.hid hgo
          have HO := Lib.hid hno
          clear hgo hno
          by_cases k0 : (k : Int) ≤ 0
          · have k1 : k = 0 := by omega
            have K1 := Lib.hid k1
            clear k1
            cases b1
            · have ho := HO.out (by rw [K1.out]; simp)
              have HO1 := Lib.hid ho
              clear ho
              go_wp2_with (first | (go_at_call 114; (with_reducible refine (C1.out _).mono ?_); rintro e w1 ⟨rfl, rfl⟩) | (go_at_call 115; (with_reducible refine (C2.out _).mono ?_); rintro e w1 ⟨rfl, rfl⟩))
              go_ret
              exact ⟨by rw [← HQ.out, HO1.out]; rfl, Below.refl _ _⟩
            · have hg := HG.out (.inl rfl)
              have HG1 := Lib.hid hg
              clear hg
              go_wp2_with (first | (go_at_call 114; (with_reducible refine (C1.out _).mono ?_); rintro e w1 ⟨rfl, rfl⟩) | (go_at_call 115; (with_reducible refine (C2.out _).mono ?_); rintro e w1 ⟨rfl, rfl⟩))
              go_round
              case rel => exact ⟨k + 1, by omega, by go_num, HG1.out⟩
              case measure => simp [intOf]; omega
          · have kp : (0 : Int) < k := by omega
            have kn : 0 < k := by omega
            clear k0
            cases b1
            · cases b2
              · have ho := HO.out (by simp)
                have HO1 := Lib.hid ho
                clear ho
                go_wp2_with (first | (go_at_call 114; (with_reducible refine (C1.out _).mono ?_); rintro e w1 ⟨rfl, rfl⟩) | (go_at_call 115; (with_reducible refine (C2.out _).mono ?_); rintro e w1 ⟨rfl, rfl⟩))
                go_ret
                exact ⟨by rw [← HQ.out, HO1.out]; rfl, Below.refl _ _⟩
              · have hg := HG.out (.inr ⟨kn, rfl⟩)
                have HG1 := Lib.hid hg
                clear hg
                go_wp2_with (first | (go_at_call 114; (with_reducible refine (C1.out _).mono ?_); rintro e w1 ⟨rfl, rfl⟩) | (go_at_call 115; (with_reducible refine (C2.out _).mono ?_); rintro e w1 ⟨rfl, rfl⟩))
                go_round
                case rel => exact ⟨k + 1, by omega, by go_num, HG1.out⟩
                case measure => simp [intOf]; omega
            · have hg := HG.out (.inl rfl)
              have HG1 := Lib.hid hg
              clear hg
              go_wp2_with (first | (go_at_call 114; (with_reducible refine (C1.out _).mono ?_); rintro e w1 ⟨rfl, rfl⟩) | (go_at_call 115; (with_reducible refine (C2.out _).mono ?_); rintro e w1 ⟨rfl, rfl⟩))
              go_round
              case rel => exact ⟨k + 1, by omega, by go_num, HG1.out⟩
              case measure => simp [intOf]; omega
        · have hy : nameB s.data.toList = true := HN.out.2 ⟨by omega, fun i h => HA.out i h (by omega)⟩
          have HY := Lib.hid hy
          clear hy
          cases b3
          all_goals
            go_wp2_with (go_at_call 116; (with_reducible refine (C3.out _).mono ?_); rintro e w1 ⟨rfl, hb1⟩)
            go_ret
            exact ⟨by rw [← HQ.out, HY.out]; rfl, hb1⟩
end Go.Proofs.YtdefaeieiaegaaaGreatDoor.LexB
