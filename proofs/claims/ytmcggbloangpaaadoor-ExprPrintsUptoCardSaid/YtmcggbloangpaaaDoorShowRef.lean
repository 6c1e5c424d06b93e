/- Contract of the reference's ValueText (P2.3). -/
import Derived.Test.YtmcggbloangpaaaDoorShow
import Derived.Test.YtmcggbloangpaaaDoorValueRef
namespace Go.Proofs.YtmcggbloangpaaaDoor.ShowRef
open Go.RowKit
open NumM ValM ShowM Kit Show
set_option linter.unusedVariables false

theorem text_bad (k n : Int) (s : ByteArray) (w : World) (h : valE k n s.data.toList ≠ 0) :
    Calls Tryd.prog 33 #[.agg #[.int .i64 k, .int .i64 n, .string s]] w fun e w' => e = .returned (.tuple #[.string ⟨#[]⟩, .int .i64 (valE k n s.data.toList)]) ∧ Below w.heap.size w w' := by
  obtain ⟨q, hq⟩ : ∃ q : Int, valE k n s.data.toList = q := ⟨_, rfl⟩
  have hc := fun W => ValRef.fault_any k n s W
  rw [hq] at hc h ⊢
  have HC := Lib.hid hc
  have hq0 : (q != 0) = true := bne_iff_ne.2 h
  clear hc hq h
  go_enter Tryd.func33, Tryd.ntmps33
  go_wp2_with fail
  refine (HC.out _).mono ?_; rintro e w1 ⟨rfl, hb1⟩
  go_wp2_with fail
  go_ret2
  exact ⟨rfl, b_then hb1⟩

theorem fb_true : Lib.formatBool true = [116, 114, 117, 101] := by first | rfl | decide
theorem fb_false : Lib.formatBool false = [102, 97, 108, 115, 101] := by first | rfl | decide
/-- What stands in s behind k bytes of the text. -/
structure TInv (s : ByteArray) (k : Nat) (t : ByteArray) : Prop where
  le : k ≤ s.size
  is : t.data.toList = 34 :: escL (s.data.toList.take k)

theorem TInv.size {s t : ByteArray} {k : Nat} (h : TInv s k t) (hs : s.size ≤ 1000) : t.size ≤ 2001 := by
  have := len_take s k hs
  rw [Lib.byteCells_length, ← h.is, len_size] at this
  exact this

theorem extract_one (s : ByteArray) (k : Nat) (h : k < s.size) : (s.extract k (k + 1)).data.toList = [s[k]] ∧ (s.extract k (k + 1)).size = 1 := by
  have e : (s.extract k (k + 1)).data.toList = [s[k]] := by
    rw [Lib.extract_data]
    rw [show k + 1 - k = 1 by omega, List.drop_eq_getElem_cons (show k < s.data.toList.length by rw [len_size]; exact h)]
    rfl
  exact ⟨e, by rw [← len_size, e]; rfl⟩

theorem text_text (s : ByteArray) (w : World) (h : valE 3 0 s.data.toList = 0) :
    Calls Tryd.prog 33 #[.agg #[.int .i64 3, .int .i64 0, .string s]] w fun e w' => e = .returned (.tuple #[.string ⟨(showL 3 0 s.data.toList).toArray⟩, .int .i64 0]) ∧ Below w.heap.size w w' := by
  have hc := fun W => ValRef.fault_any 3 0 s W
  rw [h] at hc
  have HC := Lib.hid hc
  have hl := (str_ok (val_ok h).2).1
  have hl' : s.size ≤ 1000 := by rw [len_size] at hl; omega
  clear hc h hl
  go_enter Tryd.func33, Tryd.ntmps33
  go_wp2_with fail
  refine (HC.out _).mono ?_; rintro e w1 ⟨rfl, hb1⟩
  obtain ⟨m0, m1, m2, y⟩ := box3 w.heap.size 3 0 s hb1 (by simp) (by simp [go_sem]) (by simp [go_sem]) (by simp [go_sem])
  go_wp2_with fail
  go_loop [5, 6] (fun v i => ∃ (k : Nat) (t : ByteArray), i = .int .i64 k ∧ v = .string t ∧ TInv s k t) (fun _ i => s.size - (intOf i).toNat)
  case atStart => exact ⟨0, ⟨#[34]⟩, rfl, rfl, Nat.zero_le _, rfl⟩
  case round =>
    obtain ⟨k, t, rfl, rfl, hI⟩ := hrel
    have hle := hI.le
    have hsz := hI.size hl'
    have HI := Lib.hid hI
    clear hI
    by_cases hlt : k < s.size
    · obtain ⟨x1, x2⟩ := extract_one s k hlt
      have HX := Lib.hid x1
      have x3 : (s.extract k (k + 1)).size ≤ 1 := by omega
      clear x1 x2
      have HS := Lib.hid (escL_step s k hlt)
      by_cases h34 : s[k] = 34 ∨ s[k] = 92
      · have hN : TInv s (k + 1) (t ++ ⟨#[92]⟩ ++ s.extract k (k + 1)) := ⟨hlt, by
          rw [HS.out, if_pos h34, ByteArray.data_append, ByteArray.data_append, Array.toList_append, Array.toList_append, HX.out, HI.out.is]; simp⟩
        have HN := Lib.hid hN
        clear hN
        rcases h34 with h34 | h34
        · have t1 : ((s[k].toNat : Int) == 34) = true := by rw [h34]; rfl
          clear h34
          go_wp2
          go_round
          case rel => exact ⟨k + 1, _, by go_num, rfl, HN.out⟩
          case measure => simp [intOf]; omega
        · have t1 : ((s[k].toNat : Int) == 34) = false := by rw [h34]; rfl
          have t2 : ((s[k].toNat : Int) == 92) = true := by rw [h34]; rfl
          clear h34
          go_wp2
          go_round
          case rel => exact ⟨k + 1, _, by go_num, rfl, HN.out⟩
          case measure => simp [intOf]; omega
      · have t1 : ((s[k].toNat : Int) == 34) = false := by
          rw [beq_eq_false_iff_ne]; intro g; exact h34 (.inl ((byte_eq s[k] 34 (by decide)).2 (by omega)))
        have t2 : ((s[k].toNat : Int) == 92) = false := by
          rw [beq_eq_false_iff_ne]; intro g; exact h34 (.inr ((byte_eq s[k] 92 (by decide)).2 (by omega)))
        have hN : TInv s (k + 1) (t ++ s.extract k (k + 1)) := ⟨hlt, by
          rw [HS.out, if_neg h34, ByteArray.data_append, Array.toList_append, HX.out, HI.out.is]; simp⟩
        have HN := Lib.hid hN
        clear hN h34
        go_wp2
        go_round
        case rel => exact ⟨k + 1, _, by go_num, rfl, HN.out⟩
        case measure => simp [intOf]; omega
    · have e := escL_all s k (by omega)
      have HE := Lib.hid e
      clear e
      go_wp2
      go_ret2
      exact ⟨ret_str (by
        rw [ByteArray.data_append, Array.toList_append, HI.out.is, HE.out]; simp [showL, quoteL]), b_then hb1⟩

theorem text_good (k n : Int) (s : ByteArray) (w : World) (h : valE k n s.data.toList = 0) (hp : Pow w) :
    Calls Tryd.prog 33 #[.agg #[.int .i64 k, .int .i64 n, .string s]] w fun e w' => e = .returned (.tuple #[.string ⟨(showL k n s.data.toList).toArray⟩, .int .i64 0]) ∧ Below w.heap.size w w' := by
  by_cases h3 : k = 3 ∧ n = 0
  · obtain ⟨rfl, rfl⟩ := h3
    exact text_text s w h
  have hc := fun W => ValRef.fault_any k n s W
  rw [h] at hc
  have HC := Lib.hid hc
  have HP := Lib.hid hp
  obtain ⟨h1, h2⟩ := val_ok h
  clear hc h hp
  rcases num_ok h1 with ⟨rfl, g1, g2⟩ | ⟨rfl, g⟩ | ⟨rfl, rfl⟩ | ⟨rfl, rfl⟩ | ⟨rfl, g1, g2⟩
  · clear h1 h2 h3
    obtain ⟨t, ht, HT, hi⟩ := itoa_str n (by omega) (by omega)
    have HI := Lib.hid hi
    clear hi
    go_enter Tryd.func33, Tryd.ntmps33
    go_wp2_with fail
    refine (HC.out _).mono ?_; rintro e w1 ⟨rfl, hb1⟩
    obtain ⟨m0, m1, m2, y⟩ := box3 w.heap.size 1 n s hb1 (by simp) (by simp [go_sem]) (by simp [go_sem]) (by simp [go_sem])
    go_wp2_with fail
    refine (HI.out _ (HP.out.below (b_then hb1))).mono ?_; rintro e w2 ⟨rfl, hb2⟩
    obtain ⟨m0, m1, m2, y⟩ := box3 w.heap.size 1 n s hb2 (by assumption) (by assumption) (by assumption) (by assumption)
    go_wp2_with fail
    go_ret2
    exact ⟨ret_str (by rw [HT.out]; simp [showL]), b_trans (b_then hb1) hb2⟩
  · clear h1 h2 h3
    rcases g with rfl | rfl
    all_goals
      go_enter Tryd.func33, Tryd.ntmps33
      go_wp2_with fail
      refine (HC.out _).mono ?_; rintro e w1 ⟨rfl, hb1⟩
      obtain ⟨m0, m1, m2, y⟩ := box3 w.heap.size 2 _ s hb1 (by simp) (by simp [go_sem]) (by simp [go_sem]; rfl) (by simp [go_sem])
      go_wp2_with fail
      go_ret2
      exact ⟨ret_str (by simp [showL, fb_true, fb_false]), b_more (b_then hb1) _⟩
  · exact absurd ⟨rfl, rfl⟩ h3
  · clear h1 h2 h3
    go_enter Tryd.func33, Tryd.ntmps33
    go_wp2_with fail
    refine (HC.out _).mono ?_; rintro e w1 ⟨rfl, hb1⟩
    obtain ⟨m0, m1, m2, y⟩ := box3 w.heap.size 4 0 s hb1 (by simp) (by simp [go_sem]) (by simp [go_sem]) (by simp [go_sem])
    go_wp2_with fail
    go_ret2
    exact ⟨rfl, b_then hb1⟩
  · clear h1 h2 h3
    obtain ⟨t, ht, HT, hi⟩ := itoa_str n (by omega) (by omega)
    have HI := Lib.hid hi
    clear hi
    go_enter Tryd.func33, Tryd.ntmps33
    go_wp2_with fail
    refine (HC.out _).mono ?_; rintro e w1 ⟨rfl, hb1⟩
    obtain ⟨m0, m1, m2, y⟩ := box3 w.heap.size 5 n s hb1 (by simp) (by simp [go_sem]) (by simp [go_sem]) (by simp [go_sem])
    go_wp2_with fail
    refine (HI.out _ (HP.out.below (b_then hb1))).mono ?_; rintro e w2 ⟨rfl, hb2⟩
    obtain ⟨m0, m1, m2, y⟩ := box3 w.heap.size 5 n s hb2 (by assumption) (by assumption) (by assumption) (by assumption)
    go_wp2_with fail
    go_ret2
    exact ⟨ret_str (by rw [ByteArray.data_append, Array.toList_append, HT.out]; simp [showL]), b_trans (b_then hb1) hb2⟩
end Go.Proofs.YtmcggbloangpaaaDoor.ShowRef
