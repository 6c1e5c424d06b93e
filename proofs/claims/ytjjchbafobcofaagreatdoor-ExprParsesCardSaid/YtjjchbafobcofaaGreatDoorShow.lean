/- Contracts of value.Show and what it calls (P2.3). -/
import Derived.Test.YtjjchbafobcofaaGreatDoorShelf
import Derived.Test.YtjjchbafobcofaaGreatDoorBuilder
import Derived.Test.YtjjchbafobcofaaGreatDoorShowMath
import Derived.Test.YtjjchbafobcofaaGreatDoorValue
import Derived.Test.YtjjchbafobcofaaGreatDoorKit
import Derived.Lib.AppendIntMem
import Derived.Lib.LaidTab
import Derived.Lib.ItoaLen
namespace Go.Proofs.YtjjchbafobcofaaGreatDoor.Show
open Go.RowKit
open NumM ValM ShowM Kit
set_option linter.unusedVariables false

structure QInv (w : World) (s : ByteArray) (k : Nat) (wr : World) : Prop where
  le : k ≤ s.size
  isB : Lib.IsBuilder 81 5 w.heap.size w.heap.size (Lib.byteCells (34 :: escL (s.data.toList.take k))) wr
  below : Below w.heap.size w wr

theorem quoted_any (s : ByteArray) (w : World) (hs : s.size ≤ 1000) :
    Calls Tryz.prog 98 #[.string s] w fun e w' => e = .returned (.string ⟨(quoteL s.data.toList).toArray⟩) ∧ Below w.heap.size w w' := by
  have H0 := Lib.hid (Lib.fresh_isBuilder 81 5 w)
  go_enter Tryz.func98, Tryz.ntmps98
  go_wp2_with fail
  refine (Bld.writeByte w.heap.size w.heap.size [] 34 _ H0.out (by simp) (by simp)).mono ?_; rintro e w1 ⟨rfl, hB, hb⟩
  have h1 : QInv w s 0 w1 := ⟨Nat.zero_le _, by simpa [Lib.byteCells, escL] using hB, (b_new w _).trans hb⟩
  have H1 := Lib.hid h1
  clear hB hb h1
  go_wp2_with fail
  go_loopw [4] (fun i wr => ∃ k : Nat, i = .int .i64 k ∧ QInv w s k wr) (fun i _ => s.size - (intOf i).toNat)
  case atStart => exact ⟨0, rfl, H1.out⟩
  case round =>
    obtain ⟨k, rfl, hI⟩ := hrel
    have hle := hI.le
    have hsz := hI.below.size
    have hlen := len_take s k hs
    have HI := Lib.hid hI
    clear hI
    by_cases hlt : k < s.size
    · have HS := Lib.hid (escL_step s k hlt)
      by_cases h34 : s[k] = 34
      · have t1 : ((s[k].toNat : Int) == 34) = true := by rw [h34]; rfl
        have HC := Lib.hid h34
        clear h34
        go_wp2_with fail
        refine (Bld.writeByte w.heap.size w.heap.size _ 92 _ HI.out.isB (by omega) hsz).mono ?_; rintro e w2 ⟨rfl, hB2, hb2⟩
        go_wp2_with fail
        refine (Bld.writeByte w.heap.size w.heap.size _ _ _ hB2 (by rw [List.length_append]; simp; omega) (Nat.le_trans hsz hb2.size)).mono ?_; rintro e w3 ⟨rfl, hB3, hb3⟩
        have hN : QInv w s (k + 1) w3 := ⟨hlt, by
          have e : Lib.byteCells (34 :: escL (s.data.toList.take k)) ++ [Value.int .u8 92] ++ [Value.int .u8 (s[k].toNat : Int)] = Lib.byteCells (34 :: escL (s.data.toList.take (k + 1))) := by
            rw [HS.out, if_pos (.inl HC.out)]; simp [Lib.byteCells]
          rw [← e]; exact hB3, HI.out.below.trans (hb2.trans hb3)⟩
        have HN := Lib.hid hN
        clear hN hB2 hB3 hb2 hb3
        go_wp2
        go_roundw
        case rel => exact ⟨k + 1, by go_num, HN.out⟩
        case measure => simp [intOf]; omega
      · by_cases h92 : s[k] = 92
        · have t1 : ((s[k].toNat : Int) == 34) = false := by rw [h92]; rfl
          have t2 : ((s[k].toNat : Int) == 92) = true := by rw [h92]; rfl
          have HC := Lib.hid h92
          clear h92 h34
          go_wp2_with fail
          refine (Bld.writeByte w.heap.size w.heap.size _ 92 _ HI.out.isB (by omega) hsz).mono ?_; rintro e w2 ⟨rfl, hB2, hb2⟩
          go_wp2_with fail
          refine (Bld.writeByte w.heap.size w.heap.size _ _ _ hB2 (by rw [List.length_append]; simp; omega) (Nat.le_trans hsz hb2.size)).mono ?_; rintro e w3 ⟨rfl, hB3, hb3⟩
          have hN : QInv w s (k + 1) w3 := ⟨hlt, by
            have e : Lib.byteCells (34 :: escL (s.data.toList.take k)) ++ [Value.int .u8 92] ++ [Value.int .u8 (s[k].toNat : Int)] = Lib.byteCells (34 :: escL (s.data.toList.take (k + 1))) := by
              rw [HS.out, if_pos (.inr HC.out)]; simp [Lib.byteCells]
            rw [← e]; exact hB3, HI.out.below.trans (hb2.trans hb3)⟩
          have HN := Lib.hid hN
          clear hN hB2 hB3 hb2 hb3
          go_wp2
          go_roundw
          case rel => exact ⟨k + 1, by go_num, HN.out⟩
          case measure => simp [intOf]; omega
        · have t1 : ((s[k].toNat : Int) == 34) = false := by
            rw [beq_eq_false_iff_ne]; intro g; exact h34 ((byte_eq s[k] 34 (by decide)).2 (by omega))
          have t2 : ((s[k].toNat : Int) == 92) = false := by
            rw [beq_eq_false_iff_ne]; intro g; exact h92 ((byte_eq s[k] 92 (by decide)).2 (by omega))
          have HC := Lib.hid (And.intro h34 h92)
          clear h92 h34
          go_wp2_with fail
          refine (Bld.writeByte w.heap.size w.heap.size _ _ _ HI.out.isB (by omega) hsz).mono ?_; rintro e w3 ⟨rfl, hB3, hb3⟩
          have hN : QInv w s (k + 1) w3 := ⟨hlt, by
            have e : Lib.byteCells (34 :: escL (s.data.toList.take k)) ++ [Value.int .u8 (s[k].toNat : Int)] = Lib.byteCells (34 :: escL (s.data.toList.take (k + 1))) := by
              rw [HS.out, if_neg (by intro g; rcases g with g | g; exact HC.out.1 g; exact HC.out.2 g)]; simp [Lib.byteCells]
            rw [← e]; exact hB3, HI.out.below.trans hb3⟩
          have HN := Lib.hid hN
          clear hN hB3 hb3
          go_wp2
          go_roundw
          case rel => exact ⟨k + 1, by go_num, HN.out⟩
          case measure => simp [intOf]; omega
    · have e := escL_all s k (by omega)
      go_wp2_with fail
      refine (Bld.writeByte w.heap.size w.heap.size _ 34 _ HI.out.isB (by omega) hsz).mono ?_; rintro e1 w2 ⟨rfl, hB2, hb2⟩
      have hB3 : Lib.IsBuilder 81 5 w.heap.size w.heap.size (Lib.byteCells (quoteL s.data.toList)) w2 := by
        have e2 : Lib.byteCells (34 :: escL (s.data.toList.take k)) ++ [Value.int .u8 34] = Lib.byteCells (quoteL s.data.toList) := by
          rw [e]; simp [Lib.byteCells, quoteL]
        rw [← e2]; exact hB2
      have H3 := Lib.hid hB3
      clear hB2 hB3 e
      go_wp2_with fail
      refine (Bld.string w.heap.size w.heap.size _ _ H3.out (Nat.le_trans hsz hb2.size)).mono ?_; rintro e1 w3 ⟨rfl, hb3⟩
      go_wp2_with fail
      go_ret
      exact ⟨rfl, HI.out.below.trans (hb2.trans hb3)⟩

/-! ### Show -/
/-- The library's table of powers of ten reads as it was laid. -/
def Pow (w : World) : Prop := Lib.TabIs Tryz.prog w "internal/strconv.uint64pow10" .u64 Lib.pow10Tab
theorem Pow.below {w w' : World} (h : Pow w) (hb : Below w.heap.size w w') : Pow w' := Lib.tabBelow_of_tabIs h w' hb

theorem itoa_any (n : Int) (h0 : -9223372036854775808 ≤ n) (h1 : n ≤ 9223372036854775807) (w : World) (hp : Pow w) :
    Calls Tryz.prog 75 #[.int .i64 n] w fun e w' => e = .returned (.string ⟨(Lib.itoa n).toArray⟩) ∧ Below w.heap.size w w' := by
  refine (Tryz.strconv_Itoa n h0 h1 w hp).mono ?_
  rintro e w' ⟨rfl, k, os, rfl⟩
  exact ⟨rfl, Lib.below_grow _ _ (Nat.le_refl _) _ _⟩

theorem itoa_str (n : Int) (h0 : -9223372036854775808 ≤ n) (h1 : n ≤ 9223372036854775807) : ∃ t : ByteArray, t.size ≤ 30 ∧ Hid (t = ⟨(Lib.itoa n).toArray⟩) ∧ ∀ w : World, Pow w → Calls Tryz.prog 75 #[.int .i64 n] w fun e w' => e = .returned (.string t) ∧ Below w.heap.size w w' := by
  refine ⟨⟨(Lib.itoa n).toArray⟩, ?_, rfl, fun w hp => itoa_any n h0 h1 w hp⟩
  have := Lib.itoa_length_le n h0 h1
  show (Lib.itoa n).length ≤ 30
  omega

theorem fbool_any (b : Bool) (w : World) :
    Calls Tryz.prog 97 #[.bool b] w fun e w' => e = .returned (.string ⟨(Lib.formatBool b).toArray⟩) ∧ w = w' :=
  (Tryz.strconv_FormatBool b w).mono fun _ _ h => ⟨h.1, h.2.symm⟩

theorem ret_str {a b : ByteArray} {e : Int} (h : a.data.toList = b.data.toList) : Ending.returned (.tuple #[.string a, .int .i64 e]) = .returned (.tuple #[.string b, .int .i64 e]) := by
  rw [show a = b from WideShapes.bytes_inj h]

/-- What validity gives. -/
theorem val_ok {k n : Int} {l : List UInt8} (h : valE k n l = 0) : numE k n = 0 ∧ strE k l = 0 := by
  unfold valE at h
  by_cases g : numE k n = 0
  · rw [if_pos g] at h; exact ⟨g, h⟩
  · rw [if_neg g] at h; exact absurd h g
theorem num_ok {k n : Int} (h : numE k n = 0) : (k = 1 ∧ -1099511627776 ≤ n ∧ n ≤ 1099511627776) ∨ (k = 2 ∧ (n = 0 ∨ n = 1)) ∨ (k = 3 ∧ n = 0) ∨ (k = 4 ∧ n = 0) ∨ (k = 5 ∧ 1 ≤ n ∧ n ≤ 15) := by
  unfold numE at h
  by_cases h1 : k = 1
  · rw [if_pos h1] at h
    by_cases g : okN n = true
    · exact .inl ⟨h1, (okN_iff.1 g).1, (okN_iff.1 g).2⟩
    · rw [if_neg g] at h; omega
  · rw [if_neg h1] at h
    by_cases h2 : k = 2
    · rw [if_pos h2] at h
      by_cases g : 0 ≤ n ∧ n ≤ 1
      · omega
      · rw [if_neg g] at h; omega
    · rw [if_neg h2] at h
      by_cases h3 : k = 3 ∨ k = 4
      · rw [if_pos h3] at h
        by_cases g : n = 0
        · omega
        · rw [if_neg g] at h; omega
      · rw [if_neg h3] at h
        by_cases h5 : k = 5
        · rw [if_pos h5] at h
          by_cases g : 1 ≤ n ∧ n ≤ 15
          · omega
          · rw [if_neg g] at h; omega
        · rw [if_neg h5] at h; omega
theorem str_ok {l : List UInt8} (h : strE 3 l = 0) : l.length ≤ 40 ∧ cleanL l = true := by
  unfold strE at h
  rw [if_pos rfl] at h
  by_cases g : 40 < l.length
  · rw [if_pos g] at h; omega
  · rw [if_neg g] at h
    by_cases c : cleanL l = true
    · exact ⟨by omega, c⟩
    · rw [if_neg c] at h; omega

theorem show_bad (k n : Int) (s : ByteArray) (w : World) (h : valE k n s.data.toList ≠ 0) :
    Calls Tryz.prog 90 #[.agg #[.int .i64 k, .int .i64 n, .string s]] w fun e w' => e = .returned (.tuple #[.string ⟨#[]⟩, .int .i64 (valE k n s.data.toList)]) ∧ Below w.heap.size w w' := by
  obtain ⟨q, hq⟩ : ∃ q : Int, valE k n s.data.toList = q := ⟨_, rfl⟩
  have hc := fun W => Val.check_any k n s W
  rw [hq] at hc h ⊢
  have HC := Lib.hid hc
  have hq0 : (q != 0) = true := bne_iff_ne.2 h
  clear hc hq h
  go_enter Tryz.func90, Tryz.ntmps90
  go_wp2_with fail
  refine (HC.out _).mono ?_; rintro e w1 ⟨rfl, hb1⟩
  go_wp2_with fail
  go_ret2
  exact ⟨rfl, b_then hb1⟩

theorem show_good (k n : Int) (s : ByteArray) (w : World) (h : valE k n s.data.toList = 0) (hp : Pow w) :
    Calls Tryz.prog 90 #[.agg #[.int .i64 k, .int .i64 n, .string s]] w fun e w' => e = .returned (.tuple #[.string ⟨(showL k n s.data.toList).toArray⟩, .int .i64 0]) ∧ Below w.heap.size w w' := by
  have hc := fun W => Val.check_any k n s W
  rw [h] at hc
  have HC := Lib.hid hc
  have HP := Lib.hid hp
  obtain ⟨h1, h2⟩ := val_ok h
  clear hc h hp
  rcases num_ok h1 with ⟨rfl, g1, g2⟩ | ⟨rfl, g⟩ | ⟨rfl, rfl⟩ | ⟨rfl, rfl⟩ | ⟨rfl, g1, g2⟩
  · clear h1 h2
    go_enter Tryz.func90, Tryz.ntmps90
    go_wp2_with fail
    refine (HC.out _).mono ?_; rintro e w1 ⟨rfl, hb1⟩
    obtain ⟨m0, m1, m2, y⟩ := box3 w.heap.size 1 n s hb1 (by simp) (by simp [go_sem]) (by simp [go_sem]) (by simp [go_sem])
    go_wp2_with fail
    refine (itoa_any n (by omega) (by omega) _ (HP.out.below (b_then hb1))).mono ?_; rintro e w2 ⟨rfl, hb2⟩
    go_wp2_with fail
    go_ret2
    exact ⟨rfl, b_trans (b_then hb1) hb2⟩
  · clear h1 h2
    rcases g with rfl | rfl
    all_goals
      go_enter Tryz.func90, Tryz.ntmps90
      go_wp2_with fail
      refine (HC.out _).mono ?_; rintro e w1 ⟨rfl, hb1⟩
      obtain ⟨m0, m1, m2, y⟩ := box3 w.heap.size 2 _ s hb1 (by simp) (by simp [go_sem]) (by simp [go_sem]; rfl) (by simp [go_sem])
      go_wp2_with fail
      refine (fbool_any _ _).mono ?_; rintro e w2 ⟨rfl, rfl⟩
      go_wp2_with fail
      go_ret2
      exact ⟨rfl, b_then hb1⟩
  · have hl := (str_ok h2).1
    have hl' : s.size ≤ 1000 := by rw [len_size] at hl; omega
    clear h1 h2 hl
    go_enter Tryz.func90, Tryz.ntmps90
    go_wp2_with fail
    refine (HC.out _).mono ?_; rintro e w1 ⟨rfl, hb1⟩
    obtain ⟨m0, m1, m2, y⟩ := box3 w.heap.size 3 0 s hb1 (by simp) (by simp [go_sem]) (by simp [go_sem]) (by simp [go_sem])
    go_wp2_with fail
    refine (quoted_any s _ hl').mono ?_; rintro e w2 ⟨rfl, hb2⟩
    go_wp2_with fail
    go_ret2
    exact ⟨rfl, b_trans (b_then hb1) hb2⟩
  · clear h1 h2
    go_enter Tryz.func90, Tryz.ntmps90
    go_wp2_with fail
    refine (HC.out _).mono ?_; rintro e w1 ⟨rfl, hb1⟩
    obtain ⟨m0, m1, m2, y⟩ := box3 w.heap.size 4 0 s hb1 (by simp) (by simp [go_sem]) (by simp [go_sem]) (by simp [go_sem])
    go_wp2_with fail
    go_ret2
    exact ⟨rfl, b_then hb1⟩
  · clear h1 h2
    obtain ⟨t, ht, HT, hi⟩ := itoa_str n (by omega) (by omega)
    have HI := Lib.hid hi
    clear hi
    go_enter Tryz.func90, Tryz.ntmps90
    go_wp2_with fail
    refine (HC.out _).mono ?_; rintro e w1 ⟨rfl, hb1⟩
    obtain ⟨m0, m1, m2, y⟩ := box3 w.heap.size 5 n s hb1 (by simp) (by simp [go_sem]) (by simp [go_sem]) (by simp [go_sem])
    go_wp2_with fail
    refine (HI.out _ (HP.out.below (b_then hb1))).mono ?_; rintro e w2 ⟨rfl, hb2⟩
    go_wp2_with fail
    go_ret2
    exact ⟨ret_str (by rw [HT.out]; simp [showL]), b_trans (b_then hb1) hb2⟩
end Go.Proofs.YtjjchbafobcofaaGreatDoor.Show
