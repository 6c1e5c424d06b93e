/- Contracts of value.Compare and of the reference's ValueOrder (P2.5). -/
import Derived.Test.YtehkebncdahmcaaGreatDoorShelf
import Derived.Test.YtehkebncdahmcaaGreatDoorStrMath
import Derived.Test.YtehkebncdahmcaaGreatDoorValue
import Derived.Test.YtehkebncdahmcaaGreatDoorValueRef
import Derived.Test.YtehkebncdahmcaaGreatDoorKit
namespace Go.Proofs.YtehkebncdahmcaaGreatDoor.ValCmp
open Go.RowKit
open NumM ValM StrM Kit
set_option linter.unusedVariables false

/-- How two values of one type stand to each other. -/
def ordV (k n m : Int) (s t : List UInt8) : Int := if k = 3 then Lib.compareBytes s t else Lib.compareInt n m

theorem known_text {n : Int} {s : List UInt8} (h : knownB 3 n s = true) : n = 0 := by
  unfold knownB at h
  simp only [Bool.and_eq_true, decide_eq_true_eq] at h
  have h2 := h.2
  unfold valE at h2
  by_cases g : numE 3 n = 0
  · unfold numE at g
    rw [if_neg (by decide), if_neg (by decide), if_pos (.inl rfl)] at g
    by_cases e : n = 0
    · exact e
    · rw [if_neg e] at g; omega
  · rw [if_neg g] at h2; omega
theorem known_plain {k n : Int} {s : ByteArray} (hk : k ≠ 3) (h : knownB k n s.data.toList = true) : s = ⟨#[]⟩ := by
  unfold knownB at h
  simp only [Bool.and_eq_true, decide_eq_true_eq] at h
  have h2 := h.2
  unfold valE at h2
  by_cases g : numE k n = 0
  · rw [if_pos g, strE_other hk] at h2
    by_cases e : s.data.toList = []
    · have : s.size = 0 := by rw [← len_size, e]; rfl
      exact ByteArray.size_eq_zero_iff.1 this
    · rw [if_neg e] at h2; omega
  · rw [if_neg g] at h2; omega

theorem strcmp (a b : ByteArray) (w : World) : Calls Tryz.prog 135 #[.string a, .string b] w fun e w' => e = .returned (.int .i64 (Lib.compareBytes a.data.toList b.data.toList)) ∧ w = w' :=
  (Tryz.strings_Compare a b w).mono fun _ _ h => ⟨h.1, h.2.symm⟩
theorem intcmp (a b : Int) (w : World) : Calls Tryz.prog 136 #[.int .i64 a, .int .i64 b] w fun e w' => e = .returned (.int .i64 (Lib.compareInt a b)) ∧ w = w' :=
  (Tryz.cmp_Compare_int a b w).mono fun _ _ h => ⟨h.1, h.2.symm⟩

theorem compare_good (k n m : Int) (s t : ByteArray) (w : World) (h1 : knownB k n s.data.toList = true) (h2 : knownB k m t.data.toList = true) :
    Calls Tryz.prog 126 #[.agg #[.int .i64 k, .int .i64 n, .string s], .agg #[.int .i64 k, .int .i64 m, .string t]] w fun e w' => e = .returned (.tuple #[.int .i64 (ordV k n m s.data.toList t.data.toList), .int .i64 0]) ∧ Below w.heap.size w w' := by
  have c1 := fun W => Val.known_any k n s W
  have c2 := fun W => Val.known_any k m t W
  rw [h1] at c1
  rw [h2] at c2
  have C1 := Lib.hid c1
  have C2 := Lib.hid c2
  clear c1 c2
  by_cases hk : k = 3
  · subst hk
    have e : ordV 3 n m s.data.toList t.data.toList = Lib.compareBytes s.data.toList t.data.toList := by unfold ordV; rw [if_pos rfl]
    rw [e]
    obtain ⟨q, hq⟩ : ∃ q : Int, Lib.compareBytes s.data.toList t.data.toList = q := ⟨_, rfl⟩
    have c3 := fun W => strcmp s t W
    rw [hq] at c3 ⊢
    have C3 := Lib.hid c3
    clear c3 hq e h1 h2
    go_enter Tryz.func126, Tryz.ntmps126
    go_wp2_with fail
    refine (C1.out _).mono ?_; rintro e w1 ⟨rfl, hb1⟩
    obtain ⟨g0, g1, g2, g3⟩ := box3 w.heap.size 3 n s hb1 (by simp; omega) (by simp [go_sem]) (by simp [go_sem]) (by simp [go_sem])
    obtain ⟨f0, f1, f2, f3⟩ := box3 (w.heap.size + 1) 3 m t hb1 (by simp) (by simp [go_sem]) (by simp [go_sem]) (by simp [go_sem])
    go_wp2_with fail
    refine (C2.out _).mono ?_; rintro e w2 ⟨rfl, hb2⟩
    obtain ⟨g0, g1, g2, g3⟩ := box3 w.heap.size 3 n s hb2 (by assumption) (by assumption) (by assumption) (by assumption)
    obtain ⟨f0, f1, f2, f3⟩ := box3 (w.heap.size + 1) 3 m t hb2 (by assumption) (by assumption) (by assumption) (by assumption)
    go_wp2_with fail
    refine (C3.out _).mono ?_; rintro e w3 ⟨rfl, rfl⟩
    go_wp2_with fail
    go_ret2
    exact ⟨rfl, b_then (b_then (b_trans hb1 hb2))⟩
  · have e : ordV k n m s.data.toList t.data.toList = Lib.compareInt n m := by unfold ordV; rw [if_neg hk]
    rw [e]
    obtain ⟨q, hq⟩ : ∃ q : Int, Lib.compareInt n m = q := ⟨_, rfl⟩
    have c3 := fun W => intcmp n m W
    rw [hq] at c3 ⊢
    have C3 := Lib.hid c3
    have hk3 : (k == 3) = false := beq_eq_false_iff_ne.2 hk
    clear c3 hq e h1 h2 hk
    go_enter Tryz.func126, Tryz.ntmps126
    go_wp2_with fail
    refine (C1.out _).mono ?_; rintro e w1 ⟨rfl, hb1⟩
    obtain ⟨g0, g1, g2, g3⟩ := box3 w.heap.size k n s hb1 (by simp; omega) (by simp [go_sem]) (by simp [go_sem]) (by simp [go_sem])
    obtain ⟨f0, f1, f2, f3⟩ := box3 (w.heap.size + 1) k m t hb1 (by simp) (by simp [go_sem]) (by simp [go_sem]) (by simp [go_sem])
    go_wp2_with fail
    refine (C2.out _).mono ?_; rintro e w2 ⟨rfl, hb2⟩
    obtain ⟨g0, g1, g2, g3⟩ := box3 w.heap.size k n s hb2 (by assumption) (by assumption) (by assumption) (by assumption)
    obtain ⟨f0, f1, f2, f3⟩ := box3 (w.heap.size + 1) k m t hb2 (by assumption) (by assumption) (by assumption) (by assumption)
    go_wp2_with fail
    refine (C3.out _).mono ?_; rintro e w3 ⟨rfl, rfl⟩
    go_wp2_with fail
    go_ret2
    exact ⟨rfl, b_then (b_then (b_trans hb1 hb2))⟩

theorem compare_bad (k n j m : Int) (s t : ByteArray) (w : World) (h : ¬ (knownB k n s.data.toList = true ∧ knownB j m t.data.toList = true ∧ k = j)) :
    Calls Tryz.prog 126 #[.agg #[.int .i64 k, .int .i64 n, .string s], .agg #[.int .i64 j, .int .i64 m, .string t]] w fun e w' => e = .returned (.tuple #[.int .i64 0, .int .i64 9]) ∧ Below w.heap.size w w' := by
  have c1 := fun W => Val.known_any k n s W
  have c2 := fun W => Val.known_any j m t W
  obtain ⟨x, hx⟩ : ∃ x : Bool, knownB k n s.data.toList = x := ⟨_, rfl⟩
  obtain ⟨y, hy⟩ : ∃ y : Bool, knownB j m t.data.toList = y := ⟨_, rfl⟩
  rw [hx] at c1 h
  rw [hy] at c2 h
  have C1 := Lib.hid c1
  have C2 := Lib.hid c2
  clear c1 c2 hx hy
  cases x
  · clear h
    go_enter Tryz.func126, Tryz.ntmps126
    go_wp2_with fail
    refine (C1.out _).mono ?_; rintro e w1 ⟨rfl, hb1⟩
    go_wp2_with fail
    go_ret2
    exact ⟨rfl, b_then (b_then hb1)⟩
  · cases y
    · clear h
      go_enter Tryz.func126, Tryz.ntmps126
      go_wp2_with fail
      refine (C1.out _).mono ?_; rintro e w1 ⟨rfl, hb1⟩
      obtain ⟨f0, f1, f2, f3⟩ := box3 (w.heap.size + 1) j m t hb1 (by simp) (by simp [go_sem]) (by simp [go_sem]) (by simp [go_sem])
      go_wp2_with fail
      refine (C2.out _).mono ?_; rintro e w2 ⟨rfl, hb2⟩
      go_wp2_with fail
      go_ret2
      exact ⟨rfl, b_then (b_then (b_trans hb1 hb2))⟩
    · have hkj : (k != j) = true := bne_iff_ne.2 (fun e => h ⟨rfl, rfl, e⟩)
      clear h
      go_enter Tryz.func126, Tryz.ntmps126
      go_wp2_with fail
      refine (C1.out _).mono ?_; rintro e w1 ⟨rfl, hb1⟩
      obtain ⟨g0, g1, g2, g3⟩ := box3 w.heap.size k n s hb1 (by simp; omega) (by simp [go_sem]) (by simp [go_sem]) (by simp [go_sem])
      obtain ⟨f0, f1, f2, f3⟩ := box3 (w.heap.size + 1) j m t hb1 (by simp) (by simp [go_sem]) (by simp [go_sem]) (by simp [go_sem])
      go_wp2_with fail
      refine (C2.out _).mono ?_; rintro e w2 ⟨rfl, hb2⟩
      obtain ⟨g0, g1, g2, g3⟩ := box3 w.heap.size k n s hb2 (by assumption) (by assumption) (by assumption) (by assumption)
      obtain ⟨f0, f1, f2, f3⟩ := box3 (w.heap.size + 1) j m t hb2 (by assumption) (by assumption) (by assumption) (by assumption)
      go_wp2_with fail
      go_ret2
      exact ⟨rfl, b_then (b_then (b_trans hb1 hb2))⟩

/-! ### The reference -/
theorem order_bad (k n j m : Int) (s t : ByteArray) (w : World) (h : ¬ (knownB k n s.data.toList = true ∧ knownB j m t.data.toList = true ∧ k = j)) :
    Calls Tryz.prog 68 #[.agg #[.int .i64 k, .int .i64 n, .string s], .agg #[.int .i64 j, .int .i64 m, .string t]] w fun e w' => e = .returned (.tuple #[.int .i64 0, .int .i64 9]) ∧ Below w.heap.size w w' := by
  have c1 := fun W => ValRef.known_any k n s W
  have c2 := fun W => ValRef.known_any j m t W
  obtain ⟨x, hx⟩ : ∃ x : Bool, knownB k n s.data.toList = x := ⟨_, rfl⟩
  obtain ⟨y, hy⟩ : ∃ y : Bool, knownB j m t.data.toList = y := ⟨_, rfl⟩
  rw [hx] at c1 h
  rw [hy] at c2 h
  have C1 := Lib.hid c1
  have C2 := Lib.hid c2
  clear c1 c2 hx hy
  by_cases hkj : k = j
  · subst hkj
    have hkk : (k != k) = false := by simp
    cases x
    · clear h
      go_enter Tryz.func68, Tryz.ntmps68
      go_wp2_with fail
      refine (C1.out _).mono ?_; rintro e w1 ⟨rfl, hb1⟩
      go_wp2_with fail
      go_ret2
      exact ⟨rfl, b_then (b_then hb1)⟩
    · cases y
      · clear h
        go_enter Tryz.func68, Tryz.ntmps68
        go_wp2_with fail
        refine (C1.out _).mono ?_; rintro e w1 ⟨rfl, hb1⟩
        obtain ⟨f0, f1, f2, f3⟩ := box3 (w.heap.size + 1) k m t hb1 (by simp) (by simp [go_sem]) (by simp [go_sem]) (by simp [go_sem])
        go_wp2_with fail
        refine (C2.out _).mono ?_; rintro e w2 ⟨rfl, hb2⟩
        go_wp2_with fail
        go_ret2
        exact ⟨rfl, b_then (b_then (b_trans hb1 hb2))⟩
      · exact absurd ⟨rfl, rfl, rfl⟩ h
  · have hkj' : (k != j) = true := bne_iff_ne.2 hkj
    clear h hkj
    go_enter Tryz.func68, Tryz.ntmps68
    go_wp2_with fail
    go_ret2
    exact ⟨rfl, (b_more (b_new _ _) _)⟩

theorem order_text (s t : ByteArray) (w : World) (h1 : knownB 3 0 s.data.toList = true) (h2 : knownB 3 0 t.data.toList = true) :
    Calls Tryz.prog 68 #[.agg #[.int .i64 3, .int .i64 0, .string s], .agg #[.int .i64 3, .int .i64 0, .string t]] w fun e w' => e = .returned (.tuple #[.int .i64 (Lib.compareBytes s.data.toList t.data.toList), .int .i64 0]) ∧ Below w.heap.size w w' := by
  have c1 := fun W => ValRef.known_any 3 0 s W
  have c2 := fun W => ValRef.known_any 3 0 t W
  rw [h1] at c1
  rw [h2] at c2
  have C1 := Lib.hid c1
  have C2 := Lib.hid c2
  clear c1 c2 h1 h2
  obtain ⟨lt, eq, hlt, heq, hr⟩ : ∃ lt eq : Bool, Op.bytesLess s.toList t.toList = lt ∧ (s.toList == t.toList) = eq ∧ ((lt = true ∧ Lib.compareBytes s.data.toList t.data.toList = -1) ∨ (lt = false ∧ eq = true ∧ Lib.compareBytes s.data.toList t.data.toList = 0) ∨ (lt = false ∧ eq = false ∧ Lib.compareBytes s.data.toList t.data.toList = 1)) := by
    refine ⟨_, _, rfl, rfl, ?_⟩
    rw [ByteArray.toList_eq, ByteArray.toList_eq, cmp_less]
    rcases cmp_cases s.data.toList t.data.toList with h | h | h
    · exact .inl ⟨by simp [h], h⟩
    · refine .inr (.inl ⟨by simp [h], ?_, h⟩)
      rw [(cmp_zero _ _).1 h]; simp
    · refine .inr (.inr ⟨by simp [h], ?_, h⟩)
      rw [beq_eq_false_iff_ne]
      intro e
      rw [(cmp_zero _ _).2 e] at h; omega
  obtain ⟨q, hq⟩ : ∃ q : Int, Lib.compareBytes s.data.toList t.data.toList = q := ⟨_, rfl⟩
  rw [hq] at hr ⊢
  clear hq
  rcases hr with ⟨rfl, rfl⟩ | ⟨rfl, rfl, rfl⟩ | ⟨rfl, rfl, rfl⟩
  all_goals
    go_enter Tryz.func68, Tryz.ntmps68
    go_wp2_with fail
    refine (C1.out _).mono ?_; rintro e w1 ⟨rfl, hb1⟩
    obtain ⟨g0, g1, g2, g3⟩ := box3 w.heap.size 3 0 s hb1 (by simp; omega) (by simp [go_sem]) (by simp [go_sem]) (by simp [go_sem])
    obtain ⟨f0, f1, f2, f3⟩ := box3 (w.heap.size + 1) 3 0 t hb1 (by simp) (by simp [go_sem]) (by simp [go_sem]) (by simp [go_sem])
    go_wp2_with fail
    refine (C2.out _).mono ?_; rintro e w2 ⟨rfl, hb2⟩
    obtain ⟨g0, g1, g2, g3⟩ := box3 w.heap.size 3 0 s hb2 (by assumption) (by assumption) (by assumption) (by assumption)
    obtain ⟨f0, f1, f2, f3⟩ := box3 (w.heap.size + 1) 3 0 t hb2 (by assumption) (by assumption) (by assumption) (by assumption)
    go_wp2_with fail
    go_ret2
    exact ⟨rfl, b_then (b_then (b_trans hb1 hb2))⟩

theorem order_num (k n m : Int) (w : World) (h1 : knownB k n [] = true) (h2 : knownB k m [] = true) :
    Calls Tryz.prog 68 #[.agg #[.int .i64 k, .int .i64 n, .string ⟨#[]⟩], .agg #[.int .i64 k, .int .i64 m, .string ⟨#[]⟩]] w fun e w' => e = .returned (.tuple #[.int .i64 (Lib.compareInt n m), .int .i64 0]) ∧ Below w.heap.size w w' := by
  have c1 := fun W => ValRef.known_any k n ⟨#[]⟩ W
  have c2 := fun W => ValRef.known_any k m ⟨#[]⟩ W
  rw [h1] at c1
  rw [h2] at c2
  have C1 := Lib.hid c1
  have C2 := Lib.hid c2
  clear c1 c2 h1 h2
  have hkk : (k != k) = false := by simp
  have hee : Op.bytesLess [] [] = false := rfl
  rcases int_cases n m with ⟨h, hq⟩ | ⟨h, hq⟩ | ⟨h, hq⟩
  · rw [hq]
    clear hq
    go_enter Tryz.func68, Tryz.ntmps68
    go_wp2_with fail
    refine (C1.out _).mono ?_; rintro e w1 ⟨rfl, hb1⟩
    obtain ⟨g0, g1, g2, g3⟩ := box3 w.heap.size k n ⟨#[]⟩ hb1 (by simp; omega) (by simp [go_sem]) (by simp [go_sem]) (by simp [go_sem])
    obtain ⟨f0, f1, f2, f3⟩ := box3 (w.heap.size + 1) k m ⟨#[]⟩ hb1 (by simp) (by simp [go_sem]) (by simp [go_sem]) (by simp [go_sem])
    go_wp2_with fail
    refine (C2.out _).mono ?_; rintro e w2 ⟨rfl, hb2⟩
    obtain ⟨g0, g1, g2, g3⟩ := box3 w.heap.size k n ⟨#[]⟩ hb2 (by assumption) (by assumption) (by assumption) (by assumption)
    obtain ⟨f0, f1, f2, f3⟩ := box3 (w.heap.size + 1) k m ⟨#[]⟩ hb2 (by assumption) (by assumption) (by assumption) (by assumption)
    go_wp2_with fail
    go_ret2
    exact ⟨rfl, b_then (b_then (b_trans hb1 hb2))⟩
  · rw [hq]
    subst h
    clear hq
    go_enter Tryz.func68, Tryz.ntmps68
    go_wp2_with fail
    refine (C1.out _).mono ?_; rintro e w1 ⟨rfl, hb1⟩
    obtain ⟨g0, g1, g2, g3⟩ := box3 w.heap.size k n ⟨#[]⟩ hb1 (by simp; omega) (by simp [go_sem]) (by simp [go_sem]) (by simp [go_sem])
    obtain ⟨f0, f1, f2, f3⟩ := box3 (w.heap.size + 1) k n ⟨#[]⟩ hb1 (by simp) (by simp [go_sem]) (by simp [go_sem]) (by simp [go_sem])
    go_wp2_with fail
    refine (C2.out _).mono ?_; rintro e w2 ⟨rfl, hb2⟩
    obtain ⟨g0, g1, g2, g3⟩ := box3 w.heap.size k n ⟨#[]⟩ hb2 (by assumption) (by assumption) (by assumption) (by assumption)
    obtain ⟨f0, f1, f2, f3⟩ := box3 (w.heap.size + 1) k n ⟨#[]⟩ hb2 (by assumption) (by assumption) (by assumption) (by assumption)
    go_wp2_with fail
    go_ret2
    exact ⟨rfl, b_then (b_then (b_trans hb1 hb2))⟩
  · rw [hq]
    clear hq
    have hnm : decide (n < m) = false := decide_eq_false (by omega)
    go_enter Tryz.func68, Tryz.ntmps68
    go_wp2_with fail
    refine (C1.out _).mono ?_; rintro e w1 ⟨rfl, hb1⟩
    obtain ⟨g0, g1, g2, g3⟩ := box3 w.heap.size k n ⟨#[]⟩ hb1 (by simp; omega) (by simp [go_sem]) (by simp [go_sem]) (by simp [go_sem])
    obtain ⟨f0, f1, f2, f3⟩ := box3 (w.heap.size + 1) k m ⟨#[]⟩ hb1 (by simp) (by simp [go_sem]) (by simp [go_sem]) (by simp [go_sem])
    go_wp2_with fail
    refine (C2.out _).mono ?_; rintro e w2 ⟨rfl, hb2⟩
    obtain ⟨g0, g1, g2, g3⟩ := box3 w.heap.size k n ⟨#[]⟩ hb2 (by assumption) (by assumption) (by assumption) (by assumption)
    obtain ⟨f0, f1, f2, f3⟩ := box3 (w.heap.size + 1) k m ⟨#[]⟩ hb2 (by assumption) (by assumption) (by assumption) (by assumption)
    go_wp2_with fail
    go_ret2
    exact ⟨rfl, b_then (b_then (b_trans hb1 hb2))⟩

theorem order_good (k n m : Int) (s t : ByteArray) (w : World) (h1 : knownB k n s.data.toList = true) (h2 : knownB k m t.data.toList = true) :
    Calls Tryz.prog 68 #[.agg #[.int .i64 k, .int .i64 n, .string s], .agg #[.int .i64 k, .int .i64 m, .string t]] w fun e w' => e = .returned (.tuple #[.int .i64 (ordV k n m s.data.toList t.data.toList), .int .i64 0]) ∧ Below w.heap.size w w' := by
  by_cases hk : k = 3
  · subst hk
    obtain rfl := known_text h1
    obtain rfl := known_text h2
    have e : ordV 3 0 0 s.data.toList t.data.toList = Lib.compareBytes s.data.toList t.data.toList := by unfold ordV; rw [if_pos rfl]
    rw [e]
    exact order_text s t w h1 h2
  · obtain rfl := known_plain hk h1
    obtain rfl := known_plain hk h2
    have e : ordV k n m (ByteArray.mk #[]).data.toList (ByteArray.mk #[]).data.toList = Lib.compareInt n m := by unfold ordV; rw [if_neg hk]
    rw [e]
    exact order_num k n m w h1 h2
end Go.Proofs.YtehkebncdahmcaaGreatDoor.ValCmp
