/- What the contract of the reference's LexTokens (chapter 3) wants. -/
import Derived.Test.YtjjchbafobcofaaGreatDoorLex
import Derived.RegionTactic
import Derived.Deep.CutBlock
import Derived.ChangeAlike
namespace Go.Proofs.YtjjchbafobcofaaGreatDoor.LexRef
open Go.RowKit
open LexM LexB LexT Lex Kit
set_option linter.unusedVariables false

theorem among_any (c : UInt8) (s : ByteArray) (w : World) (hs : s.size ≤ 9223372036854775807) :
    Calls Tryz.prog 24 #[.int .u8 (c.toNat : Int), .string s] w fun e w' => e = .returned (.bool (s.data.toList.contains c)) ∧ w = w' := by
  obtain ⟨q, hq⟩ : ∃ q, s.data.toList.contains c = q := ⟨_, rfl⟩
  rw [hq]
  have HQ := Lib.hid hq
  clear hq
  go_enter Tryz.func24, Tryz.ntmps24
  go_wp2_with fail
  go_loop [5] (fun i => ∃ k : Nat, k ≤ s.size ∧ i = .int .i64 k ∧ ∀ (j : Nat) (h : j < s.size), j < k → s[j] ≠ c) (fun i => s.size - (intOf i).toNat)
  case atStart => exact ⟨0, Nat.zero_le _, rfl, fun j h hj => by omega⟩
  case round =>
    obtain ⟨k, hk, rfl, ha⟩ := hrel
    by_cases hlt : k < s.size
    · obtain ⟨b, hb⟩ : ∃ b, decide (s[k] = c) = b := ⟨_, rfl⟩
      have t1 : ((s[k].toNat : Int) == (c.toNat : Int)) = b := by
        rw [← hb, Bool.eq_iff_iff, beq_iff_eq, decide_eq_true_eq, ← UInt8.toNat_inj]; omega
      have HA := Lib.hid ha
      have HB := Lib.hid hb
      clear ha hb
      cases b
      · go_wp2_with fail
        go_round
        case rel => exact ⟨k + 1, by omega, by go_num, fun j h hj => by
          by_cases e : j = k
          · subst e; exact of_decide_eq_false HB.out
          · exact HA.out j h (by omega)⟩
        case measure => simp [intOf]; omega
      · have hy : s.data.toList.contains c = true := by
          rw [List.contains_iff_mem, ← of_decide_eq_true HB.out]
          exact List.getElem_mem (l := s.data.toList) (n := k) (by simpa using hlt)
        have HY := Lib.hid hy
        clear hy
        go_wp2_with fail
        go_ret
        exact ⟨by rw [← HQ.out, HY.out]; rfl, rfl⟩
    · have hy : s.data.toList.contains c = false := by
        rw [Bool.eq_false_iff, Ne, List.contains_iff_mem]
        intro hm
        obtain ⟨i, hi, he⟩ := List.mem_iff_getElem.1 hm
        have hi' : i < s.size := by simpa using hi
        exact ha i hi' (by omega) he
      have HY := Lib.hid hy
      clear hy ha
      go_wp2_with fail
      go_ret
      exact ⟨by rw [← HQ.out, HY.out]; rfl, rfl⟩
theorem sgn_among (c : UInt8) : (ByteArray.mk #[60, 61, 43, 45, 42, 47, 37, 38, 40, 41, 44]).data.toList.contains c = sgnB c := by
  rw [Bool.eq_iff_iff, List.contains_iff_mem]
  unfold sgnB
  simp
  constructor
  · rintro (h | h | h | h | h | h | h | h | h | h | h) <;> simp [h]
  · intro h; simpa [or_assoc] using h

/-- How far the bytes of a kind go from an offset. -/
theorem tw_at (p : UInt8 → Bool) (s : ByteArray) (k m : Nat) (hk : k ≤ m) (hm : m ≤ s.size) (ha : ∀ (j : Nat) (h : j < s.size), k ≤ j → j < m → p s[j] = true) (hs : ∀ g : m < s.size, p s[m] = false) :
    (s.data.toList.drop k).takeWhile p = (s.extract k m).data.toList := by
  have e0 : (s.extract k m).data.toList = (s.data.toList.drop k).take (m - k) := by rw [Lib.extract_data]
  rw [e0]
  have e1 : s.data.toList.drop k = (s.data.toList.drop k).take (m - k) ++ s.data.toList.drop m := by
    have h := (List.take_append_drop (m - k) (s.data.toList.drop k)).symm
    rw [List.drop_drop, show k + (m - k) = m by omega] at h
    exact h
  have e2 : (s.data.toList.drop m).takeWhile p = [] := by
    by_cases g : m < s.size
    · rw [drop_cons s m g, List.takeWhile_cons, hs g]; rfl
    · rw [List.drop_eq_nil_of_le (by rw [len_size]; omega)]; rfl
  have e3 : ∀ a ∈ (s.data.toList.drop k).take (m - k), p a = true := fun a h => by
    obtain ⟨i, hi, rfl⟩ := List.mem_iff_getElem.1 h
    have hi2 : i < m - k := by rw [List.length_take] at hi; omega
    rw [List.getElem_take, List.getElem_drop]
    exact ha (k + i) (by omega) (by omega) (by omega)
  conv => lhs; rw [e1]
  rw [List.takeWhile_append_of_pos e3, e2, List.append_nil]

/-- What the reference's round says of the token at an offset. -/
def RTells (f : Fst) (k : Nat) (kd vk n e : Int) (en : Nat) (t : ByteArray) : Prop :=
  match f with
  | .bad q => e = q ∧ q ≠ 0
  | .tok T => e = 0 ∧ T.kind = kd ∧ en = k + T.len ∧ T.vk = vk ∧ T.n = n ∧ t.data.toList = T.t

structure PInv (wr : World) (s : ByteArray) (k : Nat) (kd vk n e : Int) (en : Nat) (t : ByteArray) (wx : World) : Prop where
  c0 : wx.cell? ⟨wr.heap.size, 0, none⟩ = some (.int .i64 kd)
  c1 : wx.cell? ⟨wr.heap.size, 1, none⟩ = some (.int .i64 k)
  c2 : wx.cell? ⟨wr.heap.size, 2, none⟩ = some (.string ⟨#[]⟩)
  c3 : wx.cell? ⟨wr.heap.size, 3, none⟩ = some (.int .i64 vk)
  c4 : wx.cell? ⟨wr.heap.size, 4, none⟩ = some (.int .i64 n)
  c5 : wx.cell? ⟨wr.heap.size, 5, none⟩ = some (.string t)
  free : ∀ j, wx.frozen? ⟨wr.heap.size, j, none⟩ = false
  lt : wr.heap.size < wx.heap.size
  below : Below wr.heap.size wr wx
  tells : RTells (firstF (s.data.toList.drop k)) k kd vk n e en t
  hi : en ≤ s.size

theorem own_far {w : World} {base : Nat} {e : TypeId} {size : Nat} {v : Value} {n : Nat} {xs : List Value} (h : w.ownsRow base e size v n xs) {a : Addr} (x : Value) (hne : ∀ g, v.ownBlock = some g → g ≠ a.block) : (w.setCell a x).ownsRow base e size v n xs :=
  h.kept (row := some a.block) ⟨rfl, rfl, rfl, by simp [World.setCell], fun k hk hk2 => heap_setCell_other w a k x (fun e => hk2 (by rw [e]))⟩ (by
    cases hv : v.ownBlock with
    | none => exact .inl rfl
    | some g => exact .inr fun e => hne g hv (Option.some.inj e))

theorem b_set345 {w w1 : World} (h : Below w.heap.size w w1) (b : Nat) (hb : w.heap.size ≤ b) (x y z : Value) : Below w.heap.size w (((w1.setCell ⟨b, 3, none⟩ x).setCell ⟨b, 4, none⟩ y).setCell ⟨b, 5, none⟩ z) :=
  ((h.setCell (p := ⟨b, 3, none⟩) hb _).setCell (p := ⟨b, 4, none⟩) hb _).setCell (p := ⟨b, 5, none⟩) hb _

theorem first_at (s : ByteArray) (k : Nat) (h : k < s.size) : firstF (s.data.toList.drop k) = if digB s[k] then numT ((s.data.toList.drop k).takeWhile digB) else if lowB s[k] then wordT ((s.data.toList.drop k).takeWhile alnB) else if s[k] = 34 then quoT (s.data.toList.drop (k + 1)) else sgnT s[k] (s.data.toList.drop (k + 1)) := by
  conv => lhs; rw [drop_cons s k h, first_cons]
  rw [← drop_cons s k h]
theorem ext_size (s : ByteArray) (k m : Nat) (h1 : k ≤ m) (h2 : m ≤ s.size) : (s.extract k m).data.toList.length = m - k := by
  rw [Lib.extract_data, List.length_take, List.length_drop, len_size]; omega
theorem ext_head (s : ByteArray) (k m : Nat) (h1 : k < m) (h2 : m ≤ s.size) : (s.extract k m).data.toList.head? = some (s[k]'(by omega)) := by
  rw [Lib.extract_data, drop_cons s k (by omega)]
  obtain ⟨d, hd⟩ : ∃ d, m - k = d + 1 := ⟨m - k - 1, by omega⟩
  rw [hd]; rfl

/-- What a number's round says. -/
theorem num_tells (s : ByteArray) (k m : Nat) (h1 : k < m) (h2 : m ≤ s.size) (z e0 : Int) (b0 b1 : Bool) (hb0 : decide (s[k] = 48) = b0) (hb1 : decide (k + 1 < m) = b1)
    (h : (e0 = 7 ∧ ∀ n, Lib.atoiAll (s.extract k m).data.toList = .ok n → 1099511627776 < n) ∨ (e0 = 0 ∧ z ≤ 1099511627776 ∧ Lib.atoiAll (s.extract k m).data.toList = .ok z)) :
    RTells (numT (s.extract k m).data.toList) k 1 1 z (if b0 && b1 then 3 else e0) m ⟨#[]⟩ := by
  have hh := ext_head s k m h1 h2
  have hl := ext_size s k m (by omega) h2
  by_cases hc : s[k] = 48 ∧ k + 1 < m
  · have e : (b0 && b1) = true := by rw [← hb0, ← hb1, decide_eq_true hc.1, decide_eq_true hc.2]; rfl
    rw [e, if_pos rfl]
    unfold numT
    rw [if_pos ⟨by rw [hh, hc.1], by rw [hl]; omega⟩]
    exact ⟨rfl, by decide⟩
  · have e : (b0 && b1) = false := by
      rw [← hb0, ← hb1, Bool.and_eq_false_iff]
      by_cases g : s[k] = 48
      · exact .inr (decide_eq_false fun g2 => hc ⟨g, g2⟩)
      · exact .inl (decide_eq_false g)
    rw [e, if_neg (by decide)]
    unfold numT
    rw [if_neg (by
      rintro ⟨g1, g2⟩
      rw [hh] at g1; rw [hl] at g2
      exact hc ⟨Option.some.inj g1, by omega⟩)]
    rcases h with ⟨rfl, h⟩ | ⟨rfl, h3, h4⟩
    · rcases end_cases (Lib.atoiAll (s.extract k m).data.toList) with ⟨n, he⟩ | he | he
      · rw [he]; simp only; rw [if_pos (h n he)]; exact ⟨rfl, by decide⟩
      · rw [he]; exact ⟨rfl, by decide⟩
      · rw [he]; exact ⟨rfl, by decide⟩
    · rw [h4]; simp only; rw [if_neg (by omega)]
      exact ⟨rfl, rfl, by show m = k + (s.extract k m).data.toList.length; rw [hl]; omega, rfl, rfl, rfl⟩

theorem word_tells (s : ByteArray) (k m : Nat) (h1 : k < m) (h2 : m ≤ s.size) : RTells (wordT (s.extract k m).data.toList) k 2 0 0 (if 10 < m - k then 1 else 0) m ⟨#[]⟩ := by
  have hl := ext_size s k m (by omega) h2
  unfold wordT
  by_cases h : 10 < m - k
  · rw [if_pos (by rw [hl]; exact h), if_pos h]; exact ⟨rfl, by decide⟩
  · rw [if_neg (by rw [hl]; exact h), if_neg h]; exact ⟨rfl, rfl, by show m = k + (s.extract k m).data.toList.length; rw [hl]; omega, rfl, rfl, rfl⟩

theorem PInv.plain {wr : World} {s : ByteArray} {k : Nat} {kd e : Int} {en : Nat} (ht : RTells (firstF (s.data.toList.drop k)) k kd 0 0 e en ⟨#[]⟩) (hi : en ≤ s.size) :
    PInv wr s k kd 0 0 e en ⟨#[]⟩ (wr.alloc (.cells #[.int .i64 kd, .int .i64 k, .string ⟨#[]⟩, .int .i64 0, .int .i64 0, .string ⟨#[]⟩] 42)) :=
  ⟨by simp, by simp, by simp, by simp, by simp, by simp, fun j => Lib.frozen_of_heap (heap_alloc_new wr _) j, by simp, b_new _ _, ht, hi⟩
theorem PInv.set3 {wr w1 : World} {s : ByteArray} {k : Nat} {kd vk n e : Int} {en : Nat} {t : ByteArray} (hb : Below (wr.alloc (.cells #[.int .i64 kd, .int .i64 k, .string ⟨#[]⟩, .int .i64 0, .int .i64 0, .string ⟨#[]⟩] 42)).heap.size (wr.alloc (.cells #[.int .i64 kd, .int .i64 k, .string ⟨#[]⟩, .int .i64 0, .int .i64 0, .string ⟨#[]⟩] 42)) w1)
    (ht : RTells (firstF (s.data.toList.drop k)) k kd vk n e en t) (hi : en ≤ s.size) :
    PInv wr s k kd vk n e en t (((w1.setCell ⟨wr.heap.size, 3, none⟩ (.int .i64 vk)).setCell ⟨wr.heap.size, 4, none⟩ (.int .i64 n)).setCell ⟨wr.heap.size, 5, none⟩ (.string t)) := by
  obtain ⟨c1, d1⟩ := bcell hb
  have hz : wr.heap.size < w1.heap.size := Nat.lt_of_lt_of_le (by simp) hb.size
  have h0 : w1.cell? ⟨wr.heap.size, 0, none⟩ = some (.int .i64 kd) := by rw [c1 _ _ (by simp)]; simp
  have h1 : w1.cell? ⟨wr.heap.size, 1, none⟩ = some (.int .i64 k) := by rw [c1 _ _ (by simp)]; simp
  have h2 : w1.cell? ⟨wr.heap.size, 2, none⟩ = some (.string ⟨#[]⟩) := by rw [c1 _ _ (by simp)]; simp
  have h3 : w1.cell? ⟨wr.heap.size, 3, none⟩ = some (.int .i64 0) := by rw [c1 _ _ (by simp)]; simp
  have h4 : w1.cell? ⟨wr.heap.size, 4, none⟩ = some (.int .i64 0) := by rw [c1 _ _ (by simp)]; simp
  have h5 : w1.cell? ⟨wr.heap.size, 5, none⟩ = some (.string ⟨#[]⟩) := by rw [c1 _ _ (by simp)]; simp
  clear c1
  refine ⟨by simp [go_sem, *], by simp [go_sem, *], by simp [go_sem, *], by simp [go_sem, *], by simp [go_sem, *], by simp [go_sem, *], fun j => ?_, by simpa [World.setCell] using hz, b_set345 (b_then hb) _ (Nat.le_refl _) _ _ _, ht, hi⟩
  simp only [World.frozen?_setCell]
  rw [d1 _ _ (by simp)]
  exact Lib.frozen_of_heap (heap_alloc_new wr _) j
theorem b_then' {w wr : World} {o : Obj} (h : Below w.heap.size w wr) : Below w.heap.size w (wr.alloc o) := b_more h o
theorem atoi_kinds (D : ByteArray) (hD : D.size ≤ 140737488351232) : ∃ z e0 : Int, ((e0 = 7 ∧ ∀ n, Lib.atoiAll D.data.toList = .ok n → 1099511627776 < n) ∨ (e0 = 0 ∧ z ≤ 1099511627776 ∧ Lib.atoiAll D.data.toList = .ok z)) ∧
    ((1099511627776 < z ∧ e0 = 7 ∧ ∀ W : World, Vars W → Calls Tryz.prog 22 #[.string D] W fun e w' => e = .returned (.tuple #[.int .i64 z, .nilIface]) ∧ Below W.heap.size W w') ∨
     (z ≤ 1099511627776 ∧ e0 = 0 ∧ ∀ W : World, Vars W → Calls Tryz.prog 22 #[.string D] W fun e w' => e = .returned (.tuple #[.int .i64 z, .nilIface]) ∧ Below W.heap.size W w') ∨
     (e0 = 7 ∧ ∀ W : World, Vars W → Calls Tryz.prog 22 #[.string D] W fun e w' => ∃ N : Nat, e = .returned (.tuple #[.int .i64 z, .iface 89 (.pointer (some ⟨N, 0, none⟩))]) ∧ Below W.heap.size W w')) := by
  have ok : ∀ n, Lib.atoiAll D.data.toList = .ok n → ∀ W : World, Vars W → Calls Tryz.prog 22 #[.string D] W fun e w' => e = .returned (.tuple #[.int .i64 n, .nilIface]) ∧ Below W.heap.size W w' := fun n ha W _ =>
    (Tryz.strconv_Atoi_ok D (by omega) n ha W).mono fun e w' hh => ⟨hh.1, by
      rcases hh.2 with rfl | ⟨t, rfl⟩
      · exact Below.refl _ _
      · exact Lib.bytesWorld_below _ _ _⟩
  rcases end_cases (Lib.atoiAll D.data.toList) with ⟨n, he⟩ | he | he
  · by_cases hn : 1099511627776 < n
    · exact ⟨n, 7, .inl ⟨rfl, fun m hm => by rw [he] at hm; injection hm with hm; subst hm; exact hn⟩, .inl ⟨hn, rfl, ok n he⟩⟩
    · exact ⟨n, 0, .inr ⟨rfl, by omega, he⟩, .inr (.inl ⟨by omega, rfl, ok n he⟩)⟩
  · refine ⟨0, 7, .inl ⟨rfl, fun m hm => by rw [he] at hm; cases hm⟩, .inr (.inr ⟨rfl, fun W hv => ?_⟩)⟩
    obtain ⟨p, hp⟩ := hv.syn
    refine (Tryz.strconv_Atoi_syntax_var D (by omega) he _ p _ hp).mono ?_
    rintro e w' ⟨N, h1, _, _, h2⟩
    exact ⟨N, h1, h2⟩
  · refine ⟨Lib.atoiSat D.data.toList, 7, .inl ⟨rfl, fun m hm => by rw [he] at hm; cases hm⟩, .inr (.inr ⟨rfl, fun W hv => ?_⟩)⟩
    obtain ⟨q, hq⟩ := hv.ran
    refine (Tryz.strconv_Atoi_range_var D (by omega) he _ q _ hq).mono ?_
    rintro e w' ⟨N, h1, _, _, h2⟩
    exact ⟨N, h1, h2⟩

theorem ext1 (s : ByteArray) (m : Nat) (h : m < s.size) : (s.extract m (m + 1)).data.toList = [s[m]] ∧ (s.extract m (m + 1)).size = 1 := by
  refine ⟨?_, by simp; omega⟩
  rw [Lib.extract_data, drop_cons s m h, show m + 1 - m = 0 + 1 by omega]; rfl
structure QR (wr : World) (s : ByteArray) (k m : Nat) (e : Int) (acc : ByteArray) (wx : World) : Prop where
  c0 : wx.cell? ⟨wr.heap.size, 0, none⟩ = some (.int .i64 3)
  c1 : wx.cell? ⟨wr.heap.size, 1, none⟩ = some (.int .i64 k)
  c2 : wx.cell? ⟨wr.heap.size, 2, none⟩ = some (.string ⟨#[]⟩)
  c3 : wx.cell? ⟨wr.heap.size, 3, none⟩ = some (.int .i64 3)
  c4 : wx.cell? ⟨wr.heap.size, 4, none⟩ = some (.int .i64 0)
  c5 : wx.cell? ⟨wr.heap.size, 5, none⟩ = some (.string acc)
  free : ∀ j, wx.frozen? ⟨wr.heap.size, j, none⟩ = false
  lt : wr.heap.size < wx.heap.size
  below : Below wr.heap.size wr wx
  lo : k + 1 ≤ m
  hi : m ≤ s.size
  len : acc.size ≤ m
  st : (e = 3 ∧ quoF (s.data.toList.drop (k + 1)) = (quoF (s.data.toList.drop m)).map fun x => (x.1 + (m - (k + 1)), acc.data.toList ++ x.2)) ∨ (e = 0 ∧ quoF (s.data.toList.drop (k + 1)) = some (m - (k + 1), acc.data.toList))
theorem QR.start {wr : World} {s : ByteArray} {k : Nat} (h : k < s.size) : QR wr s k (k + 1) 3 ⟨#[]⟩ (wr.alloc (.cells #[.int .i64 3, .int .i64 k, .string ⟨#[]⟩, .int .i64 3, .int .i64 0, .string ⟨#[]⟩] 42)) :=
  ⟨by simp, by simp, by simp, by simp, by simp, by simp, fun j => Lib.frozen_of_heap (heap_alloc_new wr _) j, by simp, b_new _ _, Nat.le_refl _, h, Nat.zero_le _, .inl ⟨rfl, by simp⟩⟩
theorem QR.step {wr wx : World} {s : ByteArray} {k m j : Nat} {acc x : ByteArray} {c : UInt8} (h : QR wr s k m 3 acc wx) (hj : m < j) (hle : j ≤ s.size) (hx : x.data.toList = [c])
    (hs : quoF (s.data.toList.drop m) = (quoF (s.data.toList.drop j)).map fun y => (y.1 + (j - m), c :: y.2)) : QR wr s k j 3 (acc ++ x) ((wx.setCell ⟨wr.heap.size, 5, none⟩ (.string (acc ++ x))).drew) := by
  obtain ⟨c0, c1, c2, c3, c4, c5, fr, lt, be, lo, hi, len, st⟩ := h
  have hx1 : x.size = 1 := by rw [← len_size, hx]; rfl
  refine ⟨by simp [go_sem, c0], by simp [go_sem, c1], by simp [go_sem, c2], by simp [go_sem, c3], by simp [go_sem, c4], by simp [go_sem, c5], fun i => ?_, by simpa [World.setCell] using lt, b_drew (be.setCell (p := ⟨wr.heap.size, 5, none⟩) (Nat.le_refl _) _), by omega, hle, by rw [ByteArray.size_append]; omega, .inl ⟨rfl, ?_⟩⟩
  · simp [fr]
  · rcases st with ⟨_, st⟩ | ⟨g, _⟩
    · rw [st, hs, Option.map_map]
      congr 1
      funext y
      rw [ByteArray.data_append, Array.toList_append, hx]
      simp; omega
    · cases g
theorem QR.done {wr wx : World} {s : ByteArray} {k m : Nat} {acc : ByteArray} (h : QR wr s k m 3 acc wx) (hm : m < s.size) (h34 : s[m] = 34) : QR wr s k (m + 1) 0 acc wx := by
  refine ⟨h.c0, h.c1, h.c2, h.c3, h.c4, h.c5, h.free, h.lt, h.below, by have := h.lo; omega, hm, by have := h.len; omega, .inr ⟨rfl, ?_⟩⟩
  rcases h.st with ⟨_, st⟩ | ⟨g, _⟩
  · rw [st, quo_end s m hm h34]
    have := h.lo
    simp; omega
  · cases g
/-- Where the quote has its end. -/
theorem QR.good {wr wx : World} {s : ByteArray} {k m : Nat} {acc : ByteArray} (h : QR wr s k m 0 acc wx) (hf : firstF (s.data.toList.drop k) = quoT (s.data.toList.drop (k + 1))) (e : Int) (he : e = if 40 < acc.size then 1 else 0) : PInv wr s k 3 3 0 e m acc wx := by
  refine ⟨h.c0, h.c1, h.c2, h.c3, h.c4, h.c5, h.free, h.lt, h.below, ?_, h.hi⟩
  have hlo := h.lo
  rcases h.st with ⟨g, _⟩ | ⟨_, st⟩
  · cases g
  · rw [hf]
    unfold quoT
    rw [st]
    simp only
    by_cases g : 40 < acc.size
    · rw [if_pos (show 40 < acc.data.toList.length from g), he, if_pos g]; exact ⟨rfl, by decide⟩
    · rw [if_neg (show ¬ 40 < acc.data.toList.length from g), he, if_neg g]; exact ⟨rfl, rfl, by show m = k + (m - (k + 1) + 1); omega, rfl, rfl, rfl⟩
/-- Where it has none. -/
theorem QR.wrong {wr wx : World} {s : ByteArray} {k m : Nat} {acc : ByteArray} (h : QR wr s k m 3 acc wx) (hf : firstF (s.data.toList.drop k) = quoT (s.data.toList.drop (k + 1))) (hn : quoF (s.data.toList.drop m) = none) : PInv wr s k 3 3 0 3 m acc wx := by
  refine ⟨h.c0, h.c1, h.c2, h.c3, h.c4, h.c5, h.free, h.lt, h.below, ?_, h.hi⟩
  rcases h.st with ⟨_, st⟩ | ⟨g, _⟩
  · rw [hf]
    unfold quoT
    rw [st, hn]
    exact ⟨rfl, by decide⟩
  · cases g

theorem ext2 (s : ByteArray) (k : Nat) (h : k + 1 < s.size) : (s.extract k (k + 1 + 1)).data.toList = [s[k], s[k + 1]] := by
  rw [Lib.extract_data, drop_cons s k (by omega), drop_cons s (k + 1) h, show k + 1 + 1 - k = 0 + 1 + 1 by omega]; rfl
theorem sgn_two {s : ByteArray} {k : Nat} (h : k + 1 < s.size) (h1 : s[k] = 60 ∨ s[k] = 33) (h2 : s[k + 1] = 61) : RTells (sgnT s[k] (s.data.toList.drop (k + 1))) k 4 0 0 0 (k + 2) ⟨#[]⟩ := by
  unfold sgnT
  rw [if_pos ⟨h1, by rw [drop_cons s (k + 1) h, h2]; rfl⟩]
  exact ⟨rfl, rfl, rfl, rfl, rfl, rfl⟩
theorem sgn_one {s : ByteArray} {k : Nat} (hk : k < s.size) (h : ¬ ((s[k] = 60 ∨ s[k] = 33) ∧ ∃ g : k + 1 < s.size, s[k + 1] = 61)) (b : Bool) (hb : sgnB s[k] = b) : RTells (sgnT s[k] (s.data.toList.drop (k + 1))) k 4 0 0 (if b then 0 else 3) (k + 1) ⟨#[]⟩ := by
  unfold sgnT
  rw [if_neg, hb]
  · cases b
    · exact ⟨rfl, by decide⟩
    · exact ⟨rfl, rfl, rfl, rfl, rfl, rfl⟩
  · rintro ⟨g1, g2⟩
    refine h ⟨g1, ?_⟩
    by_cases g : k + 1 < s.size
    · rw [drop_cons s (k + 1) g] at g2
      exact ⟨g, Option.some.inj g2⟩
    · rw [List.drop_eq_nil_of_le (by rw [len_size]; omega)] at g2; cases g2
end Go.Proofs.YtjjchbafobcofaaGreatDoor.LexRef
