/- Contracts of value.Compare and of the reference's ValueOrder (P2.5). -/
import Derived.Test.YtbjnmhbpgndogaaShelf
import Derived.Test.YtbjnmhbpgndogaaBase
import Derived.Test.YtbjnmhbpgndogaaValue
import Derived.Test.YtbjnmhbpgndogaaKit
namespace Go.Proofs.Ytbjnmhbpgndogaa.ValCmp
open Go.RowKit
open NumM ValM StrM Kit
set_option linter.unusedVariables false

/-- How two values of one type stand to each other. -/
def ordV (k n m : Int) (s t : List UInt8) : Int := if k = 3 then Lib.compareBytes s t else Lib.compareInt n m

theorem known_text {n : Int} {s : List UInt8} (h : knownB 3 n s = true) : n = 0 := by
  unfold knownB at h
  simp only [Bool.and_eq_true, decide_eq_true_eq] at h
  have h2 := h.2
  unfold valE at h2
  by_cases g : numE 3 n = 0
  · unfold numE at g
    rw [if_neg (by decide), if_neg (by decide), if_pos (.inl rfl)] at g
    by_cases e : n = 0
    · exact e
    · rw [if_neg e] at g; omega
  · rw [if_neg g] at h2; omega
theorem known_plain {k n : Int} {s : ByteArray} (hk : k ≠ 3) (h : knownB k n s.data.toList = true) : s = ⟨#[]⟩ := by
  unfold knownB at h
  simp only [Bool.and_eq_true, decide_eq_true_eq] at h
  have h2 := h.2
  unfold valE at h2
  by_cases g : numE k n = 0
  · rw [if_pos g, strE_other hk] at h2
    by_cases e : s.data.toList = []
    · have : s.size = 0 := by rw [← len_size, e]; rfl
      exact ByteArray.size_eq_zero_iff.1 this
    · rw [if_neg e] at h2; omega
  · rw [if_neg g] at h2; omega

theorem strcmp (a b : ByteArray) (w : World) : Calls Try.prog 9 #[.string a, .string b] w fun e w' => e = .returned (.int .i64 (Lib.compareBytes a.data.toList b.data.toList)) ∧ w = w' :=
  (Try.strings_Compare a b w).mono fun _ _ h => ⟨h.1, h.2.symm⟩
theorem intcmp (a b : Int) (w : World) : Calls Try.prog 10 #[.int .i64 a, .int .i64 b] w fun e w' => e = .returned (.int .i64 (Lib.compareInt a b)) ∧ w = w' :=
  (Try.cmp_Compare_int a b w).mono fun _ _ h => ⟨h.1, h.2.symm⟩

theorem compare_good (k n m : Int) (s t : ByteArray) (w : World) (h1 : knownB k n s.data.toList = true) (h2 : knownB k m t.data.toList = true) :
    Calls Try.prog 6 #[.agg #[.int .i64 k, .int .i64 n, .string s], .agg #[.int .i64 k, .int .i64 m, .string t]] w fun e w' => e = .returned (.tuple #[.int .i64 (ordV k n m s.data.toList t.data.toList), .int .i64 0]) ∧ Below w.heap.size w w' := by
  have c1 := fun W => Val.known_any k n s W
  have c2 := fun W => Val.known_any k m t W
  rw [h1] at c1
  rw [h2] at c2
  have C1 := Lib.hid c1
  have C2 := Lib.hid c2
  clear c1 c2
  by_cases hk : k = 3
  · subst hk
    have e : ordV 3 n m s.data.toList t.data.toList = Lib.compareBytes s.data.toList t.data.toList := by unfold ordV; rw [if_pos rfl]
    rw [e]
    obtain ⟨q, hq⟩ : ∃ q : Int, Lib.compareBytes s.data.toList t.data.toList = q := ⟨_, rfl⟩
    have c3 := fun W => strcmp s t W
    rw [hq] at c3 ⊢
    have C3 := Lib.hid c3
    clear c3 hq e h1 h2
    go_enter Try.func6, Try.ntmps6
    go_wp2_with fail
    refine (C1.out _).mono ?_; rintro e w1 ⟨rfl, hb1⟩
    obtain ⟨g0, g1, g2, g3⟩ := box3 w.heap.size 3 n s hb1 (by simp; omega) (by simp [go_sem]) (by simp [go_sem]) (by simp [go_sem])
    obtain ⟨f0, f1, f2, f3⟩ := box3 (w.heap.size + 1) 3 m t hb1 (by simp) (by simp [go_sem]) (by simp [go_sem]) (by simp [go_sem])
    go_wp2_with fail
    refine (C2.out _).mono ?_; rintro e w2 ⟨rfl, hb2⟩
    obtain ⟨g0, g1, g2, g3⟩ := box3 w.heap.size 3 n s hb2 (by assumption) (by assumption) (by assumption) (by assumption)
    obtain ⟨f0, f1, f2, f3⟩ := box3 (w.heap.size + 1) 3 m t hb2 (by assumption) (by assumption) (by assumption) (by assumption)
    go_wp2_with fail
    refine (C3.out _).mono ?_; rintro e w3 ⟨rfl, rfl⟩
    go_wp2_with fail
    go_ret2
    exact ⟨rfl, b_then (b_then (b_trans hb1 hb2))⟩
  · have e : ordV k n m s.data.toList t.data.toList = Lib.compareInt n m := by unfold ordV; rw [if_neg hk]
    rw [e]
    obtain ⟨q, hq⟩ : ∃ q : Int, Lib.compareInt n m = q := ⟨_, rfl⟩
    have c3 := fun W => intcmp n m W
    rw [hq] at c3 ⊢
    have C3 := Lib.hid c3
    have hk3 : (k == 3) = false := beq_eq_false_iff_ne.2 hk
    clear c3 hq e h1 h2 hk
    go_enter Try.func6, Try.ntmps6
    go_wp2_with fail
    refine (C1.out _).mono ?_; rintro e w1 ⟨rfl, hb1⟩
    obtain ⟨g0, g1, g2, g3⟩ := box3 w.heap.size k n s hb1 (by simp; omega) (by simp [go_sem]) (by simp [go_sem]) (by simp [go_sem])
    obtain ⟨f0, f1, f2, f3⟩ := box3 (w.heap.size + 1) k m t hb1 (by simp) (by simp [go_sem]) (by simp [go_sem]) (by simp [go_sem])
    go_wp2_with fail
    refine (C2.out _).mono ?_; rintro e w2 ⟨rfl, hb2⟩
    obtain ⟨g0, g1, g2, g3⟩ := box3 w.heap.size k n s hb2 (by assumption) (by assumption) (by assumption) (by assumption)
    obtain ⟨f0, f1, f2, f3⟩ := box3 (w.heap.size + 1) k m t hb2 (by assumption) (by assumption) (by assumption) (by assumption)
    go_wp2_with fail
    refine (C3.out _).mono ?_; rintro e w3 ⟨rfl, rfl⟩
    go_wp2_with fail
    go_ret2
    exact ⟨rfl, b_then (b_then (b_trans hb1 hb2))⟩

theorem compare_bad (k n j m : Int) (s t : ByteArray) (w : World) (h : ¬ (knownB k n s.data.toList = true ∧ knownB j m t.data.toList = true ∧ k = j)) :
    Calls Try.prog 6 #[.agg #[.int .i64 k, .int .i64 n, .string s], .agg #[.int .i64 j, .int .i64 m, .string t]] w fun e w' => e = .returned (.tuple #[.int .i64 0, .int .i64 9]) ∧ Below w.heap.size w w' := by
  have c1 := fun W => Val.known_any k n s W
  have c2 := fun W => Val.known_any j m t W
  obtain ⟨x, hx⟩ : ∃ x : Bool, knownB k n s.data.toList = x := ⟨_, rfl⟩
  obtain ⟨y, hy⟩ : ∃ y : Bool, knownB j m t.data.toList = y := ⟨_, rfl⟩
  rw [hx] at c1 h
  rw [hy] at c2 h
  have C1 := Lib.hid c1
  have C2 := Lib.hid c2
  clear c1 c2 hx hy
  cases x
  · clear h
    go_enter Try.func6, Try.ntmps6
    go_wp2_with fail
    refine (C1.out _).mono ?_; rintro e w1 ⟨rfl, hb1⟩
    go_wp2_with fail
    go_ret2
    exact ⟨rfl, b_then (b_then hb1)⟩
  · cases y
    · clear h
      go_enter Try.func6, Try.ntmps6
      go_wp2_with fail
      refine (C1.out _).mono ?_; rintro e w1 ⟨rfl, hb1⟩
      obtain ⟨f0, f1, f2, f3⟩ := box3 (w.heap.size + 1) j m t hb1 (by simp) (by simp [go_sem]) (by simp [go_sem]) (by simp [go_sem])
      go_wp2_with fail
      refine (C2.out _).mono ?_; rintro e w2 ⟨rfl, hb2⟩
      go_wp2_with fail
      go_ret2
      exact ⟨rfl, b_then (b_then (b_trans hb1 hb2))⟩
    · have hkj : (k != j) = true := bne_iff_ne.2 (fun e => h ⟨rfl, rfl, e⟩)
      clear h
      go_enter Try.func6, Try.ntmps6
      go_wp2_with fail
      refine (C1.out _).mono ?_; rintro e w1 ⟨rfl, hb1⟩
      obtain ⟨g0, g1, g2, g3⟩ := box3 w.heap.size k n s hb1 (by simp; omega) (by simp [go_sem]) (by simp [go_sem]) (by simp [go_sem])
      obtain ⟨f0, f1, f2, f3⟩ := box3 (w.heap.size + 1) j m t hb1 (by simp) (by simp [go_sem]) (by simp [go_sem]) (by simp [go_sem])
      go_wp2_with fail
      refine (C2.out _).mono ?_; rintro e w2 ⟨rfl, hb2⟩
      obtain ⟨g0, g1, g2, g3⟩ := box3 w.heap.size k n s hb2 (by assumption) (by assumption) (by assumption) (by assumption)
      obtain ⟨f0, f1, f2, f3⟩ := box3 (w.heap.size + 1) j m t hb2 (by assumption) (by assumption) (by assumption) (by assumption)
      go_wp2_with fail
      go_ret2
      exact ⟨rfl, b_then (b_then (b_trans hb1 hb2))⟩

/-! ### The reference -/
end Go.Proofs.Ytbjnmhbpgndogaa.ValCmp
