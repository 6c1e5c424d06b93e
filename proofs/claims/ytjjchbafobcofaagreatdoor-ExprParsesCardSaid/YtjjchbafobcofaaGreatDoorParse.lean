/- Contracts of value.Parse and what it calls (P2.4). -/
import Derived.Test.YtjjchbafobcofaaGreatDoorShow
import Derived.Test.YtjjchbafobcofaaGreatDoorParseMath
import Derived.WalkSmall
namespace Go.Proofs.YtjjchbafobcofaaGreatDoor.Parse
open Go.RowKit
open NumM ValM ShowM ParseM Kit Show
set_option linter.unusedVariables false

structure UInv (w : World) (s : ByteArray) (k : Nat) (acc : List UInt8) (wr : World) : Prop where
  le : k ≤ s.size
  isB : Lib.IsBuilder 81 5 w.heap.size w.heap.size (Lib.byteCells acc) wr
  is : acc ++ unq (s.data.toList.drop k) = unq s.data.toList
  len : acc.length ≤ k
  below : Below w.heap.size w wr

theorem unquoted_any (s : ByteArray) (w : World) (hs : s.size ≤ 140737488351232) :
    Calls Tryz.prog 95 #[.string s] w fun e w' => e = .returned (.string ⟨(unq s.data.toList).toArray⟩) ∧ Below w.heap.size w w' := by
  have h0 : UInv w s 0 [] (w.alloc (.cells #[.pointer none, .slice none 0 0] 81)) := ⟨Nat.zero_le _, Lib.fresh_isBuilder 81 5 w, rfl, Nat.le_refl _, b_new w _⟩
  have H0 := Lib.hid h0
  clear h0
  go_enter Tryz.func95, Tryz.ntmps95
  go_wp2_with fail
  go_loopw [4] (fun i wr => ∃ (k : Nat) (acc : List UInt8), i = .int .i64 k ∧ UInv w s k acc wr) (fun i _ => s.size - (intOf i).toNat)
  case atStart => exact ⟨0, [], rfl, H0.out⟩
  case round =>
    obtain ⟨k, acc, rfl, hI⟩ := hrel
    have hle := hI.le
    have hsz := hI.below.size
    have hal := hI.len
    have hcl : (Lib.byteCells acc).length ≤ k := by rw [Lib.byteCells_length]; exact hal
    have HI := Lib.hid hI
    clear hI
    by_cases hlt : k < s.size
    · by_cases h34 : s[k] = 34
      · have t1 : ((s[k].toNat : Int) != 34) = false := by rw [h34]; rfl
        have e : acc = unq s.data.toList := by have := HI.out.is; rw [unq_quote s k hlt h34, List.append_nil] at this; exact this
        have HE := Lib.hid e
        clear e h34
        go_wp2_with fail
        refine (Bld.string w.heap.size w.heap.size _ _ HI.out.isB hsz).mono ?_; rintro e1 w3 ⟨rfl, hb3⟩
        go_wp2_with fail
        go_ret
        exact ⟨by rw [HE.out]; rfl, HI.out.below.trans hb3⟩
      · have t1 : ((s[k].toNat : Int) != 34) = true := by
          rw [bne_iff_ne]; intro g; exact h34 ((byte_eq s[k] 34 (by decide)).2 (by omega))
        by_cases h92 : s[k] = 92
        · have t2 : ((s[k].toNat : Int) == 92) = true := by rw [h92]; rfl
          by_cases hl2 : k + 1 < s.size
          · have hS := unq_step2 s k hl2 h92
            have HS := Lib.hid hS
            clear hS h92 h34
            go_wp2_with fail
            refine (Bld.writeByte w.heap.size w.heap.size _ _ _ HI.out.isB (by omega) hsz).mono ?_; rintro e w3 ⟨rfl, hB3, hb3⟩
            have hN : UInv w s (k + 2) (acc ++ [s[k + 1]]) w3 := ⟨by omega, by rw [← cells_snoc]; exact hB3, by
              rw [← HI.out.is, HS.out]; simp, by simp; omega, HI.out.below.trans hb3⟩
            have HN := Lib.hid hN
            clear hN hB3 hb3
            go_wp2
            go_roundw
            case rel => exact ⟨k + 2, _, by go_num, HN.out⟩
            case measure => simp [intOf]; omega
          · have hS := unq_step1 s k hlt h34 (fun h => hl2 h.2)
            have HS := Lib.hid hS
            clear hS h92 h34
            go_wp2_with fail
            refine (Bld.writeByte w.heap.size w.heap.size _ _ _ HI.out.isB (by omega) hsz).mono ?_; rintro e w3 ⟨rfl, hB3, hb3⟩
            have hN : UInv w s (k + 1) (acc ++ [s[k]]) w3 := ⟨by omega, by rw [← cells_snoc]; exact hB3, by
              rw [← HI.out.is, HS.out]; simp, by simp; omega, HI.out.below.trans hb3⟩
            have HN := Lib.hid hN
            clear hN hB3 hb3
            go_wp2
            go_roundw
            case rel => exact ⟨k + 1, _, by go_num, HN.out⟩
            case measure => simp [intOf]; omega
        · have t2 : ((s[k].toNat : Int) == 92) = false := by
            rw [beq_eq_false_iff_ne]; intro g; exact h92 ((byte_eq s[k] 92 (by decide)).2 (by omega))
          have hS := unq_step1 s k hlt h34 (fun h => h92 h.1)
          have HS := Lib.hid hS
          clear hS h92 h34
          go_wp2_with fail
          refine (Bld.writeByte w.heap.size w.heap.size _ _ _ HI.out.isB (by omega) hsz).mono ?_; rintro e w3 ⟨rfl, hB3, hb3⟩
          have hN : UInv w s (k + 1) (acc ++ [s[k]]) w3 := ⟨by omega, by rw [← cells_snoc]; exact hB3, by
            rw [← HI.out.is, HS.out]; simp, by simp; omega, HI.out.below.trans hb3⟩
          have HN := Lib.hid hN
          clear hN hB3 hb3
          go_wp2
          go_roundw
          case rel => exact ⟨k + 1, _, by go_num, HN.out⟩
          case measure => simp [intOf]; omega
    · have e : acc = unq s.data.toList := by have := HI.out.is; rw [unq_stop s k (by omega), List.append_nil] at this; exact this
      have HE := Lib.hid e
      clear e
      go_wp2_with fail
      refine (Bld.string w.heap.size w.heap.size _ _ HI.out.isB hsz).mono ?_; rintro e1 w3 ⟨rfl, hb3⟩
      go_wp2_with fail
      go_ret
      exact ⟨by rw [HE.out]; rfl, HI.out.below.trans hb3⟩

/-! ### numbered -/
/-- The library's table and its two errors read as they were laid. -/
structure Vars (w : World) : Prop where
  pow : Pow w
  syn : ∃ p, w.var? Tryz.prog "strconv.ErrSyntax" = some #[.iface 112 p]
  ran : ∃ p, w.var? Tryz.prog "strconv.ErrRange" = some #[.iface 112 p]

theorem var_below {w w' : World} {n : String} {cs : Array Value} (h : w.var? Tryz.prog n = some cs) (hb : Below w.heap.size w w') : w'.var? Tryz.prog n = some cs := by
  have hg : ∃ g, Tryz.prog.globalNamed n = some g ∧ g < w.heap.size := by
    unfold World.var? at h
    cases hg : Tryz.prog.globalNamed n with
    | none => simp [hg] at h
    | some g =>
      refine ⟨g, rfl, ?_⟩
      rcases Nat.lt_or_ge g w.heap.size with hl | hl
      · exact hl
      · simp [hg, Array.getElem?_eq_none hl] at h
  obtain ⟨g, hg, hl⟩ := hg
  exact var?_below hb hg hl h

theorem Vars.below {w w' : World} (h : Vars w) (hb : Below w.heap.size w w') : Vars w' := by
  obtain ⟨p, hp⟩ := h.syn
  obtain ⟨q, hq⟩ := h.ran
  exact ⟨h.pow.below hb, ⟨p, var_below hp hb⟩, ⟨q, var_below hq hb⟩⟩

theorem numbered_ok (k n : Int) (s : ByteArray) (w : World) (hs : s.size ≤ 140737488351232) (h : Lib.atoiAll s.data.toList = .ok n) :
    Calls Tryz.prog 96 #[.int .i64 k, .string s] w fun e w' => e = .returned (.tuple #[.agg #[.int .i64 k, .int .i64 n, .string ⟨#[]⟩], .int .i64 0]) ∧ Below w.heap.size w w' := by
  have hc : ∀ W : World, Calls Tryz.prog 22 #[.string s] W fun e w' => e = .returned (.tuple #[.int .i64 n, .nilIface]) ∧ Below W.heap.size W w' := fun W =>
    (Tryz.strconv_Atoi_ok s (by omega) n h W).mono fun e w' hh => ⟨hh.1, by
      rcases hh.2 with rfl | ⟨t, rfl⟩
      · exact Below.refl _ _
      · exact Lib.bytesWorld_below _ _ _⟩
  have HC := Lib.hid hc
  clear hc h
  go_enter Tryz.func96, Tryz.ntmps96
  go_wp2_with fail
  refine (HC.out _).mono ?_; rintro e w1 ⟨rfl, hb1⟩
  obtain ⟨c1, d1⟩ := bcell hb1
  have hz : w.heap.size < w1.heap.size := Nat.lt_of_lt_of_le (by simp) hb1.size
  go_wp2_with fail
  refine bodyPost_ret (v := .tuple #[.agg #[.int .i64 k, .int .i64 n, .string ⟨#[]⟩], .int .i64 0]) (by simp [results, Tryz.results96, go_sem, c1]) rfl ⟨rfl, ?_⟩
  exact (((b_then hb1).setCell (by simp) _).setCell (by simp) _).setCell (by simp) _

theorem end_cases (e : Lib.NumEnd Int) : (∃ n, e = .ok n) ∨ e = Lib.NumEnd.syntax ∨ e = Lib.NumEnd.range := by cases e <;> simp

theorem numbered_no (k : Int) (s : ByteArray) (w : World) (hs : s.size ≤ 140737488351232) (h : ∀ n, Lib.atoiAll s.data.toList ≠ .ok n) (hv : Vars w) :
    Calls Tryz.prog 96 #[.int .i64 k, .string s] w fun e w' => e = .returned (.tuple #[.agg #[.int .i64 0, .int .i64 0, .string ⟨#[]⟩], .int .i64 3]) ∧ Below w.heap.size w w' := by
  obtain ⟨p, hp⟩ := (hv.below (b_new w (.cells #[.int .i64 0, .int .i64 0, .string ⟨#[]⟩] 23))).syn
  obtain ⟨q, hq⟩ := (hv.below (b_new w (.cells #[.int .i64 0, .int .i64 0, .string ⟨#[]⟩] 23))).ran
  have hc : Calls Tryz.prog 22 #[.string s] (w.alloc (.cells #[.int .i64 0, .int .i64 0, .string ⟨#[]⟩] 23)) fun e w' => ∃ (m : Int) (N : Nat), e = .returned (.tuple #[.int .i64 m, .iface 89 (.pointer (some ⟨N, 0, none⟩))]) ∧ Below (w.alloc (.cells #[.int .i64 0, .int .i64 0, .string ⟨#[]⟩] 23)).heap.size (w.alloc (.cells #[.int .i64 0, .int .i64 0, .string ⟨#[]⟩] 23)) w' := by
    rcases end_cases (Lib.atoiAll s.data.toList) with ⟨n, ha⟩ | ha | ha
    · exact absurd ha (h n)
    · refine (Tryz.strconv_Atoi_syntax_var s (by omega) ha _ p _ hp).mono ?_
      rintro e w' ⟨N, h1, _, _, h2⟩
      exact ⟨0, N, h1, h2⟩
    · refine (Tryz.strconv_Atoi_range_var s (by omega) ha _ q _ hq).mono ?_
      rintro e w' ⟨N, h1, _, _, h2⟩
      exact ⟨_, N, h1, h2⟩
  have HC := Lib.hid hc
  clear hc h hp hq hv
  go_enter Tryz.func96, Tryz.ntmps96
  go_wp2_with fail
  refine HC.out.mono ?_; rintro e w1 ⟨m, N, rfl, hb1⟩
  obtain ⟨c1, d1⟩ := bcell hb1
  have hz : w.heap.size < w1.heap.size := Nat.lt_of_lt_of_le (by simp) hb1.size
  go_wp2_with fail
  refine bodyPost_ret (v := .tuple #[.agg #[.int .i64 0, .int .i64 0, .string ⟨#[]⟩], .int .i64 3]) (by simp [results, Tryz.results96, go_sem, c1]) rfl ⟨rfl, ?_⟩
  exact (((b_then hb1).setCell (by simp) _).setCell (by simp) _).setCell (by simp) _

/-! ### candidate -/
theorem bytes_of {s : ByteArray} {l : List UInt8} (h : s.data.toList = l) : s = ⟨l.toArray⟩ := WideShapes.bytes_inj (by rw [h])
theorem eqb_of (s : ByteArray) (l : List UInt8) : (s.toList == l) = decide (s.data.toList = l) := by
  rw [ByteArray.toList_eq, Bool.eq_iff_iff]; simp
theorem pre_of (s : ByteArray) (c : UInt8) : Lib.hasPrefix s.data.toList [c] = decide (s.data.toList.head? = some c) := by
  cases h : s.data.toList with
  | nil => simp [Lib.hasPrefix]
  | cons d r =>
    by_cases e : c = d
    · subst e; simp [Lib.hasPrefix]
    · have e2 : (some d : Option UInt8) ≠ some c := fun g => e (Option.some.inj g).symm
      rw [List.head?_cons, decide_eq_false e2]
      show (c == d && List.isPrefixOf [] r) = false
      rw [beq_eq_false_iff_ne.2 e]; rfl
theorem tail_of (s : ByteArray) : (s.extract 1 s.size).data.toList = s.data.toList.tail := by
  rw [Lib.extract_data, List.drop_one, List.take_of_length_le]
  rw [List.length_tail, len_size]
  omega
theorem head_pos {s : ByteArray} {c : UInt8} (h : s.data.toList.head? = some c) : 1 ≤ s.size := by
  cases hd : s.data.toList with
  | nil => rw [hd] at h; simp at h
  | cons a r => rw [← len_size, hd]; simp
theorem pre_any (s p : ByteArray) (w : World) : Calls Tryz.prog 54 #[.string s, .string p] w fun e w' => e = .returned (.bool (Lib.hasPrefix s.data.toList p.data.toList)) ∧ w = w' :=
  (Tryz.strings_HasPrefix s p w).mono fun _ _ h => ⟨h.1, h.2.symm⟩

theorem cand_word (s : ByteArray) (w : World) (h : s.data.toList = trueL ∨ s.data.toList = falseL ∨ s.data.toList = [63]) :
    ∃ k n, candF s.data.toList = some (k, n, []) ∧ Calls Tryz.prog 89 #[.string s] w fun e w' => e = .returned (.tuple #[.agg #[.int .i64 k, .int .i64 n, .string ⟨#[]⟩], .int .i64 0]) ∧ Below w.heap.size w w' := by
  rcases h with h | h | h
  · rw [h]
    obtain rfl := bytes_of h
    refine ⟨2, 1, rfl, ?_⟩
    unfold trueL
    go_enter Tryz.func89, Tryz.ntmps89
    go_wp2_with fail
    refine bodyPost_ret (v := .tuple #[.agg #[.int .i64 2, .int .i64 1, .string ⟨#[]⟩], .int .i64 0]) (by simp [results, Tryz.results89, go_sem]) rfl ⟨rfl, b_new _ _⟩
  · rw [h]
    obtain rfl := bytes_of h
    refine ⟨2, 0, rfl, ?_⟩
    unfold falseL
    go_enter Tryz.func89, Tryz.ntmps89
    go_wp2_with fail
    refine bodyPost_ret (v := .tuple #[.agg #[.int .i64 2, .int .i64 0, .string ⟨#[]⟩], .int .i64 0]) (by simp [results, Tryz.results89, go_sem]) rfl ⟨rfl, b_new _ _⟩
  · rw [h]
    obtain rfl := bytes_of h
    refine ⟨4, 0, rfl, ?_⟩
    go_enter Tryz.func89, Tryz.ntmps89
    go_wp2_with fail
    refine bodyPost_ret (v := .tuple #[.agg #[.int .i64 4, .int .i64 0, .string ⟨#[]⟩], .int .i64 0]) (by simp [results, Tryz.results89, go_sem]) rfl ⟨rfl, b_new _ _⟩

theorem cand_quote (s : ByteArray) (w : World) (hs : s.size ≤ 140737488351232) (h1 : s.data.toList ≠ trueL) (h2 : s.data.toList ≠ falseL) (h3 : s.data.toList ≠ [63]) (h4 : s.data.toList.head? = some 34) :
    Calls Tryz.prog 89 #[.string s] w fun e w' => e = .returned (.tuple #[.agg #[.int .i64 3, .int .i64 0, .string ⟨(unq s.data.toList.tail).toArray⟩], .int .i64 0]) ∧ Below w.heap.size w w' := by
  have t1 : (s.toList == trueL) = false := by rw [eqb_of]; exact decide_eq_false h1
  have t2 : (s.toList == falseL) = false := by rw [eqb_of]; exact decide_eq_false h2
  have t3 : (s.toList == [63]) = false := by rw [eqb_of]; exact decide_eq_false h3
  unfold trueL at t1
  unfold falseL at t2
  have c1 := fun W => pre_any s ⟨#[34]⟩ W
  have e1 : Lib.hasPrefix s.data.toList (ByteArray.mk #[34]).data.toList = true := by
    show Lib.hasPrefix s.data.toList [34] = true
    rw [pre_of, h4]; rfl
  rw [e1] at c1
  have C1 := Lib.hid c1
  have hpos := head_pos h4
  have c2 := fun W => unquoted_any (s.extract 1 s.size) W (by simp; omega)
  rw [tail_of] at c2
  obtain ⟨t, ht⟩ : ∃ t, ByteArray.mk (unq s.data.toList.tail).toArray = t := ⟨_, rfl⟩
  rw [ht] at c2 ⊢
  have C2 := Lib.hid c2
  clear c1 e1 h1 h2 h3 h4 c2 ht
  go_enter Tryz.func89, Tryz.ntmps89
  go_wp2_with fail
  refine (C1.out _).mono ?_; rintro e w1 ⟨rfl, rfl⟩
  go_wp2_with fail
  refine (C2.out _).mono ?_; rintro e w1 ⟨rfl, hb1⟩
  obtain ⟨c1, d1⟩ := bcell hb1
  have hz : w.heap.size < w1.heap.size := Nat.lt_of_lt_of_le (by simp) hb1.size
  go_wp2_with fail
  refine bodyPost_ret (v := .tuple #[.agg #[.int .i64 3, .int .i64 0, .string t], .int .i64 0]) (by simp [results, Tryz.results89, go_sem, c1]) rfl ⟨rfl, ?_⟩
  exact (((b_then hb1).setCell (by simp) _).setCell (by simp) _).setCell (by simp) _

/-- The value that numbered gives, or none. -/
def isNum (k : Int) (l : List UInt8) (m z : Int) : Prop := (m = 3 ∧ z = 0 ∧ numF k l = none) ∨ (m = 0 ∧ numF k l = some (k, z, []))

theorem numbered_any (k : Int) (s : ByteArray) (hs : s.size ≤ 140737488351232) : ∃ j z m : Int, ((m = 3 ∧ j = 0 ∧ z = 0 ∧ numF k s.data.toList = none) ∨ (m = 0 ∧ j = k ∧ numF k s.data.toList = some (k, z, []))) ∧
    ∀ w : World, Vars w → Calls Tryz.prog 96 #[.int .i64 k, .string s] w fun e w' => e = .returned (.tuple #[.agg #[.int .i64 j, .int .i64 z, .string ⟨#[]⟩], .int .i64 m]) ∧ Below w.heap.size w w' := by
  rcases end_cases (Lib.atoiAll s.data.toList) with ⟨n, ha⟩ | ha | ha
  · exact ⟨k, n, 0, .inr ⟨rfl, rfl, by unfold numF; rw [ha]⟩, fun w _ => numbered_ok k n s w hs ha⟩
  · exact ⟨0, 0, 3, .inl ⟨rfl, rfl, rfl, by unfold numF; rw [ha]⟩, fun w hv => numbered_no k s w hs (fun n h => by rw [ha] at h; cases h) hv⟩
  · exact ⟨0, 0, 3, .inl ⟨rfl, rfl, rfl, by unfold numF; rw [ha]⟩, fun w hv => numbered_no k s w hs (fun n h => by rw [ha] at h; cases h) hv⟩

theorem cand_number (s : ByteArray) (hs : s.size ≤ 140737488351232) (h1 : s.data.toList ≠ trueL) (h2 : s.data.toList ≠ falseL) (h3 : s.data.toList ≠ [63]) (h4 : s.data.toList.head? ≠ some 34) :
    ∃ j z m : Int, ((m = 3 ∧ j = 0 ∧ z = 0 ∧ candF s.data.toList = none) ∨ (m = 0 ∧ candF s.data.toList = some (j, z, []))) ∧
    ∀ w : World, Vars w → Calls Tryz.prog 89 #[.string s] w fun e w' => e = .returned (.tuple #[.agg #[.int .i64 j, .int .i64 z, .string ⟨#[]⟩], .int .i64 m]) ∧ Below w.heap.size w w' := by
  have ec : candF s.data.toList = if s.data.toList.head? = some 33 then numF 5 s.data.toList.tail else numF 1 s.data.toList := by
    unfold candF; rw [if_neg h1, if_neg h2, if_neg h3, if_neg h4]
  have t1 : (s.toList == trueL) = false := by rw [eqb_of]; exact decide_eq_false h1
  have t2 : (s.toList == falseL) = false := by rw [eqb_of]; exact decide_eq_false h2
  have t3 : (s.toList == [63]) = false := by rw [eqb_of]; exact decide_eq_false h3
  unfold trueL at t1
  unfold falseL at t2
  have c1 := fun W => pre_any s ⟨#[34]⟩ W
  have e1 : Lib.hasPrefix s.data.toList (ByteArray.mk #[34]).data.toList = false := by
    show Lib.hasPrefix s.data.toList [34] = false
    rw [pre_of]; exact decide_eq_false h4
  rw [e1] at c1
  have C1 := Lib.hid c1
  have c3 := fun W => pre_any s ⟨#[33]⟩ W
  by_cases h5 : s.data.toList.head? = some 33
  · have e3 : Lib.hasPrefix s.data.toList (ByteArray.mk #[33]).data.toList = true := by
      show Lib.hasPrefix s.data.toList [33] = true
      rw [pre_of, h5]; rfl
    rw [e3] at c3
    have C3 := Lib.hid c3
    have hpos := head_pos h5
    rw [if_pos h5] at ec
    obtain ⟨j, z, m, hjz, hn⟩ := numbered_any 5 (s.extract 1 s.size) (by simp; omega)
    rw [tail_of] at hjz
    refine ⟨j, z, m, ?_, fun w hv => ?_⟩
    · rw [ec]
      rcases hjz with ⟨a, b, c, d⟩ | ⟨a, b, c⟩
      · exact .inl ⟨a, b, c, d⟩
      · subst b; exact .inr ⟨a, c⟩
    have HN := Lib.hid hn
    have HV := Lib.hid hv
    clear c1 e1 h1 h2 h3 h4 c3 e3 hn hv hjz ec h5
    go_enter Tryz.func89, Tryz.ntmps89
    go_wp2_with fail
    refine (C1.out _).mono ?_; rintro e w1 ⟨rfl, rfl⟩
    go_wp2_with fail
    refine (C3.out _).mono ?_; rintro e w1 ⟨rfl, rfl⟩
    go_wp2_with fail
    refine (HN.out _ (HV.out.below (b_new w _))).mono ?_; rintro e w1 ⟨rfl, hb1⟩
    obtain ⟨c1, d1⟩ := bcell hb1
    have hz : w.heap.size < w1.heap.size := Nat.lt_of_lt_of_le (by simp) hb1.size
    go_wp2_with fail
    refine bodyPost_ret (v := .tuple #[.agg #[.int .i64 j, .int .i64 z, .string ⟨#[]⟩], .int .i64 m]) (by simp [results, Tryz.results89, go_sem, c1]) rfl ⟨rfl, ?_⟩
    exact (((b_then hb1).setCell (by simp) _).setCell (by simp) _).setCell (by simp) _
  · have e3 : Lib.hasPrefix s.data.toList (ByteArray.mk #[33]).data.toList = false := by
      show Lib.hasPrefix s.data.toList [33] = false
      rw [pre_of]; exact decide_eq_false h5
    rw [e3] at c3
    have C3 := Lib.hid c3
    rw [if_neg h5] at ec
    obtain ⟨j, z, m, hjz, hn⟩ := numbered_any 1 s hs
    refine ⟨j, z, m, ?_, fun w hv => ?_⟩
    · rw [ec]
      rcases hjz with ⟨a, b, c, d⟩ | ⟨a, b, c⟩
      · exact .inl ⟨a, b, c, d⟩
      · subst b; exact .inr ⟨a, c⟩
    have HN := Lib.hid hn
    have HV := Lib.hid hv
    clear c1 e1 h1 h2 h3 h4 c3 e3 hn hv hjz ec h5
    go_enter Tryz.func89, Tryz.ntmps89
    go_wp2_with fail
    refine (C1.out _).mono ?_; rintro e w1 ⟨rfl, rfl⟩
    go_wp2_with fail
    refine (C3.out _).mono ?_; rintro e w1 ⟨rfl, rfl⟩
    go_wp2_with fail
    refine (HN.out _ (HV.out.below (b_new w _))).mono ?_; rintro e w1 ⟨rfl, hb1⟩
    obtain ⟨c1, d1⟩ := bcell hb1
    have hz : w.heap.size < w1.heap.size := Nat.lt_of_lt_of_le (by simp) hb1.size
    go_wp2_with fail
    refine bodyPost_ret (v := .tuple #[.agg #[.int .i64 j, .int .i64 z, .string ⟨#[]⟩], .int .i64 m]) (by simp [results, Tryz.results89, go_sem, c1]) rfl ⟨rfl, ?_⟩
    exact (((b_then hb1).setCell (by simp) _).setCell (by simp) _).setCell (by simp) _

/-- candidate, whatever the string. -/
theorem cand_any (s : ByteArray) (hs : s.size ≤ 140737488351232) :
    ∃ (j z m : Int) (t : ByteArray), ((m = 3 ∧ candF s.data.toList = none) ∨ (m = 0 ∧ candF s.data.toList = some (j, z, t.data.toList))) ∧
    ∀ w : World, Vars w → Calls Tryz.prog 89 #[.string s] w fun e w' => e = .returned (.tuple #[.agg #[.int .i64 j, .int .i64 z, .string t], .int .i64 m]) ∧ Below w.heap.size w w' := by
  by_cases h : s.data.toList = trueL ∨ s.data.toList = falseL ∨ s.data.toList = [63]
  · have w0 : World := default
    obtain ⟨k, n, hc, _⟩ := cand_word s w0 h
    refine ⟨k, n, 0, ⟨#[]⟩, .inr ⟨rfl, hc⟩, fun w _ => ?_⟩
    obtain ⟨k', n', hc', h'⟩ := cand_word s w h
    rw [hc] at hc'
    simp only [Option.some.injEq, Prod.mk.injEq, and_true] at hc'
    obtain ⟨rfl, rfl⟩ := hc'
    exact h'
  · have h1 : s.data.toList ≠ trueL := fun g => h (.inl g)
    have h2 : s.data.toList ≠ falseL := fun g => h (.inr (.inl g))
    have h3 : s.data.toList ≠ [63] := fun g => h (.inr (.inr g))
    by_cases h4 : s.data.toList.head? = some 34
    · exact ⟨3, 0, 0, ⟨(unq s.data.toList.tail).toArray⟩, .inr ⟨rfl, by unfold candF; rw [if_neg h1, if_neg h2, if_neg h3, if_pos h4]⟩, fun w _ => cand_quote s w hs h1 h2 h3 h4⟩
    · obtain ⟨j, z, m, hjz, hn⟩ := cand_number s hs h1 h2 h3 h4
      refine ⟨j, z, m, ⟨#[]⟩, ?_, hn⟩
      rcases hjz with ⟨a, _, _, d⟩ | ⟨a, c⟩
      · exact .inl ⟨a, d⟩
      · exact .inr ⟨a, c⟩

/-! ### Parse -/
theorem parse_none (s : ByteArray) (w : World) (hc : ∃ (j z : Int) (t : ByteArray), ∀ w : World, Vars w → Calls Tryz.prog 89 #[.string s] w fun e w' => e = .returned (.tuple #[.agg #[.int .i64 j, .int .i64 z, .string t], .int .i64 3]) ∧ Below w.heap.size w w') (hv : Vars w) :
    Calls Tryz.prog 85 #[.string s] w fun e w' => e = .returned (.tuple #[.agg #[.int .i64 0, .int .i64 0, .string ⟨#[]⟩], .int .i64 3]) ∧ Below w.heap.size w w' := by
  obtain ⟨j, z, t, hc⟩ := hc
  have HC := Lib.hid hc
  have HV := Lib.hid hv
  clear hc hv
  go_enter Tryz.func85, Tryz.ntmps85
  go_wp2_with fail
  refine (HC.out _ (HV.out.below (b_new w _))).mono ?_; rintro e w1 ⟨rfl, hb1⟩
  obtain ⟨c1, d1⟩ := bcell hb1
  have hz : w.heap.size < w1.heap.size := Nat.lt_of_lt_of_le (by simp) hb1.size
  go_wp2_with fail
  refine bodyPost_ret (v := .tuple #[.agg #[.int .i64 0, .int .i64 0, .string ⟨#[]⟩], .int .i64 3]) (by simp [results, Tryz.results85, go_sem, c1, hz]) rfl ⟨rfl, ?_⟩
  exact b_more (b_set3 (b_then hb1) _ (Nat.le_refl _) _ _ _) _

theorem parse_bad (s t : ByteArray) (j z : Int) (w : World) (hc : ∀ w : World, Vars w → Calls Tryz.prog 89 #[.string s] w fun e w' => e = .returned (.tuple #[.agg #[.int .i64 j, .int .i64 z, .string t], .int .i64 0]) ∧ Below w.heap.size w w')
    (hv : Vars w) (h : ¬ (valE j z t.data.toList = 0 ∧ showL j z t.data.toList = s.data.toList)) :
    Calls Tryz.prog 85 #[.string s] w fun e w' => e = .returned (.tuple #[.agg #[.int .i64 0, .int .i64 0, .string ⟨#[]⟩], .int .i64 3]) ∧ Below w.heap.size w w' := by
  obtain ⟨u, q, hs, hd⟩ : ∃ (u : ByteArray) (q : Int), (∀ W : World, Pow W → Calls Tryz.prog 90 #[.agg #[.int .i64 j, .int .i64 z, .string t]] W fun e w' => e = .returned (.tuple #[.string u, .int .i64 q]) ∧ Below W.heap.size W w') ∧ (q ≠ 0 ∨ (q = 0 ∧ u.data.toList ≠ s.data.toList)) := by
    by_cases g : valE j z t.data.toList = 0
    · refine ⟨_, 0, fun W hp => show_good _ _ _ W g hp, .inr ⟨rfl, fun e => h ⟨g, ?_⟩⟩⟩
      exact e
    · exact ⟨_, _, fun W _ => show_bad _ _ _ W g, .inl g⟩
  have HC := Lib.hid hc
  have HV := Lib.hid hv
  have HS := Lib.hid hs
  have hd' : (q != 0) = true ∨ ((q != 0) = false ∧ (u.toList == s.toList) = false ∧ (u.toList != s.toList) = true) := by
    rcases hd with g | ⟨rfl, g⟩
    · exact .inl (bne_iff_ne.2 g)
    · have g2 : (u.toList == s.toList) = false := by rw [ByteArray.toList_eq, ByteArray.toList_eq]; exact beq_eq_false_iff_ne.2 g
      exact .inr ⟨by simp, g2, by unfold bne; rw [g2]; rfl⟩
  clear hc hv hs h hd
  rcases hd' with hq0 | ⟨hq0, hu, hu'⟩
  all_goals
    go_enter Tryz.func85, Tryz.ntmps85
    go_wp2_with fail
    refine (HC.out _ (HV.out.below (b_new w _))).mono ?_; rintro e w1 ⟨rfl, hb1⟩
    have V1 := Lib.hid (HV.out.below (b_then hb1))
    obtain ⟨c1, d1⟩ := bcell hb1
    have hz : w.heap.size < w1.heap.size := Nat.lt_of_lt_of_le (by simp) hb1.size
    have hz1 := Nat.lt_succ_of_lt hz
    go_wp2_with fail
    refine (HS.out _ (V1.out.below (b_new w1 _)).pow).mono ?_; rintro e w2 ⟨rfl, hb2⟩
    obtain ⟨c2, d2⟩ := bcell hb2
    have hz2 : w.heap.size < w2.heap.size := Nat.lt_of_lt_of_le (by simp; omega) hb2.size
    go_wp2_with fail
    refine bodyPost_ret (v := .tuple #[.agg #[.int .i64 0, .int .i64 0, .string ⟨#[]⟩], .int .i64 3]) (by simp [results, Tryz.results85, go_sem, c1, c2, hz, hz1]) rfl ⟨rfl, ?_⟩
    exact b_set3 (b_trans (b_then hb1) (b_then hb2)) _ (Nat.le_refl _) _ _ _

theorem parse_good (s t : ByteArray) (j z : Int) (w : World) (hc : ∀ w : World, Vars w → Calls Tryz.prog 89 #[.string s] w fun e w' => e = .returned (.tuple #[.agg #[.int .i64 j, .int .i64 z, .string t], .int .i64 0]) ∧ Below w.heap.size w w')
    (hv : Vars w) (h : valE j z t.data.toList = 0) (hs : showL j z t.data.toList = s.data.toList) :
    Calls Tryz.prog 85 #[.string s] w fun e w' => e = .returned (.tuple #[.agg #[.int .i64 j, .int .i64 z, .string t], .int .i64 0]) ∧ Below w.heap.size w w' := by
  have hsh : ∀ W : World, Pow W → Calls Tryz.prog 90 #[.agg #[.int .i64 j, .int .i64 z, .string t]] W fun e w' => e = .returned (.tuple #[.string s, .int .i64 0]) ∧ Below W.heap.size W w' := fun W hp => by
    have := show_good j z t W h hp
    rw [hs] at this
    exact this
  have HC := Lib.hid hc
  have HV := Lib.hid hv
  have HS := Lib.hid hsh
  clear hc hv hsh h hs
  go_enter Tryz.func85, Tryz.ntmps85
  go_wp2_with fail
  refine (HC.out _ (HV.out.below (b_new w _))).mono ?_; rintro e w1 ⟨rfl, hb1⟩
  have V1 := Lib.hid (HV.out.below (b_then hb1))
  obtain ⟨c1, d1⟩ := bcell hb1
  have hz : w.heap.size < w1.heap.size := Nat.lt_of_lt_of_le (by simp) hb1.size
  have hz1 := Nat.lt_succ_of_lt hz
  go_wp2_with fail
  refine (HS.out _ (V1.out.below (b_new w1 _)).pow).mono ?_; rintro e w2 ⟨rfl, hb2⟩
  obtain ⟨c2, d2⟩ := bcell hb2
  have hz2 : w.heap.size < w2.heap.size := Nat.lt_of_lt_of_le (by simp; omega) hb2.size
  have hz3 : w1.heap.size < w2.heap.size := Nat.lt_of_lt_of_le (by simp) hb2.size
  go_wp2_with fail
  refine bodyPost_ret (v := .tuple #[.agg #[.int .i64 j, .int .i64 z, .string t], .int .i64 0]) (by simp [results, Tryz.results85, go_sem, c1, c2, hz, hz1]) rfl ⟨rfl, ?_⟩
  exact b_set3 (b_trans (b_then hb1) (b_then hb2)) _ (Nat.le_refl _) _ _ _

/-- Parse: the value that is shown as s; or ErrForm where there is none. -/
theorem parse_any (s : ByteArray) (hs : s.size ≤ 140737488351232) :
    ∃ (j z m : Int) (t : ByteArray), ((m = 0 ∧ valE j z t.data.toList = 0 ∧ showL j z t.data.toList = s.data.toList) ∨ (m = 3 ∧ j = 0 ∧ z = 0 ∧ t = ⟨#[]⟩ ∧ ∀ k n l, valE k n l = 0 → showL k n l ≠ s.data.toList)) ∧
    ∀ w : World, Vars w → Calls Tryz.prog 85 #[.string s] w fun e w' => e = .returned (.tuple #[.agg #[.int .i64 j, .int .i64 z, .string t], .int .i64 m]) ∧ Below w.heap.size w w' := by
  obtain ⟨j, z, m, t, hd, hc⟩ := cand_any s hs
  rcases hd with ⟨rfl, hn⟩ | ⟨rfl, hn⟩
  · refine ⟨0, 0, 3, ⟨#[]⟩, .inr ⟨rfl, rfl, rfl, rfl, fun k n l hv e => ?_⟩, fun w hv => parse_none s w ⟨j, z, t, hc⟩ hv⟩
    rw [← e, cand_show (val_ok hv).1 (val_ok hv).2] at hn
    cases hn
  · by_cases g : valE j z t.data.toList = 0 ∧ showL j z t.data.toList = s.data.toList
    · exact ⟨j, z, 0, t, .inl ⟨rfl, g.1, g.2⟩, fun w hv => parse_good s t j z w hc hv g.1 g.2⟩
    · refine ⟨0, 0, 3, ⟨#[]⟩, .inr ⟨rfl, rfl, rfl, rfl, fun k n l hv e => ?_⟩, fun w hv => parse_bad s t j z w hc hv g⟩
      have hh := cand_show (val_ok hv).1 (val_ok hv).2
      rw [e, hn] at hh
      simp only [Option.some.injEq, Prod.mk.injEq] at hh
      obtain ⟨rfl, rfl, rfl⟩ := hh
      exact g ⟨hv, e⟩

/-- Of a string that is shown. -/
theorem parse_of (k n : Int) (t s : ByteArray) (hs : s.size ≤ 140737488351232) (h : valE k n t.data.toList = 0) (e : showL k n t.data.toList = s.data.toList) :
    ∀ w : World, Vars w → Calls Tryz.prog 85 #[.string s] w fun e w' => e = .returned (.tuple #[.agg #[.int .i64 k, .int .i64 n, .string t], .int .i64 0]) ∧ Below w.heap.size w w' := by
  obtain ⟨j, z, m, u, hd, hc⟩ := cand_any s hs
  have hh := cand_show (val_ok h).1 (val_ok h).2
  rw [e] at hh
  rcases hd with ⟨rfl, hn⟩ | ⟨rfl, hn⟩
  · rw [hn] at hh; cases hh
  · rw [hn] at hh
    simp only [Option.some.injEq, Prod.mk.injEq] at hh
    obtain ⟨rfl, rfl, hu⟩ := hh
    obtain rfl : u = t := WideShapes.bytes_inj hu
    exact fun w hv => parse_good s u j z w hc hv h e
end Go.Proofs.YtjjchbafobcofaaGreatDoor.Parse
