/- Contracts of package lex (chapter 3): number, word, ended, sign, quote and first. -/
import Derived.Test.YtjjchbafobcofaaGreatDoorShelf
import Derived.Test.YtjjchbafobcofaaGreatDoorBuilder
import Derived.Test.YtjjchbafobcofaaGreatDoorLexBytes
import Derived.Test.YtjjchbafobcofaaGreatDoorStrTab
import Derived.Test.YtjjchbafobcofaaGreatDoorKit
import Derived.WalkSmall
import Derived.Deep.RegionHeld3
import Derived.Deep.DeepCutAuto
namespace Go.Proofs.YtjjchbafobcofaaGreatDoor.LexT
open Go.RowKit
open LexM LexB Kit
set_option linter.unusedVariables false

/-! ### The variables that are read -/
def sgnL : List (List UInt8) := [[60, 61], [33, 61], [60], [61], [43], [45], [42], [47], [37], [38], [40], [41], [44]]
structure Vars (w : World) : Prop where
  syn : ∃ p, w.var? Tryz.prog "strconv.ErrSyntax" = some #[.iface 112 p]
  ran : ∃ p, w.var? Tryz.prog "strconv.ErrRange" = some #[.iface 112 p]
  sgn : StrTab.Is Tryz.prog w "lychway/lex.signs" sgnL

theorem var_below {w w' : World} {n : String} {cs : Array Value} (h : w.var? Tryz.prog n = some cs) (hb : Below w.heap.size w w') : w'.var? Tryz.prog n = some cs := by
  have hg : ∃ g, Tryz.prog.globalNamed n = some g ∧ g < w.heap.size := by
    unfold World.var? at h
    cases hg : Tryz.prog.globalNamed n with
    | none => simp [hg] at h
    | some g =>
      refine ⟨g, rfl, ?_⟩
      rcases Nat.lt_or_ge g w.heap.size with hl | hl
      · exact hl
      · simp [hg, Array.getElem?_eq_none hl] at h
  obtain ⟨g, hg, hl⟩ := hg
  exact var?_below hb hg hl h
theorem Vars.below {w w' : World} (h : Vars w) (hb : Below w.heap.size w w') : Vars w' := by
  obtain ⟨p, hp⟩ := h.syn
  obtain ⟨q, hq⟩ := h.ran
  exact ⟨⟨p, var_below hp hb⟩, ⟨q, var_below hq hb⟩, var_below h.sgn hb⟩

/-- What a first token's function hands back. -/
def Tells (f : Fst) (l : List UInt8) (k vk n e : Int) (u t : ByteArray) : Prop :=
  match f with
  | .bad q => e = q ∧ q ≠ 0
  | .tok T => e = 0 ∧ T.kind = k ∧ u.data.toList = l.take T.len ∧ T.vk = vk ∧ T.n = n ∧ t.data.toList = T.t

theorem b_set6 {w w1 : World} (h : Below w.heap.size w w1) (b : Nat) (hb : w.heap.size ≤ b) (x y z x' y' z' : Value) : Below w.heap.size w ((((((w1.setCell ⟨b, 0, none⟩ x).setCell ⟨b, 1, none⟩ y).setCell ⟨b, 2, none⟩ z).setCell ⟨b, 3, none⟩ x').setCell ⟨b, 4, none⟩ y').setCell ⟨b, 5, none⟩ z') :=
  (((b_set3 h b hb x y z).setCell (p := ⟨b, 3, none⟩) hb _).setCell (p := ⟨b, 4, none⟩) hb _).setCell (p := ⟨b, 5, none⟩) hb _

/-! ### number -/
theorem dig_pre (s : ByteArray) : (s.extract 0 (tw digB s)).data.toList = s.data.toList.takeWhile digB := by
  have e : (s.extract 0 (tw digB s)).data.toList = s.data.toList.take (tw digB s) := by simp [ByteArray.data_extract]
  rw [e]; exact LexM.take_tw digB _
theorem tw_pos (p : UInt8 → Bool) (s : ByteArray) (h0 : 0 < s.size) (hd : p s[0] = true) : 0 < tw p s := by
  obtain ⟨r, hr⟩ := head_of s h0
  unfold tw; rw [hr, List.takeWhile_cons, if_pos hd]; simp
theorem head_is (D : ByteArray) (h : 0 < D.size) : D.data.toList.head? = some D[0] := by
  obtain ⟨r, hr⟩ := head_of D h; rw [hr]; rfl
theorem byte_is (c : UInt8) (n : Nat) (hn : n < 256) : ((c.toNat : Int) == (n : Int)) = decide (c = UInt8.ofNat n) := by
  rw [Bool.eq_iff_iff, beq_iff_eq, decide_eq_true_eq, ← UInt8.toNat_inj, UInt8.toNat_ofNat', Nat.mod_eq_of_lt (by simpa using hn)]; omega

/-- Its digits begin with a needless 0. -/
theorem number_lead (s D : ByteArray) (hs : s.size ≤ 140737488351232) (hD : s.extract 0 (tw digB s) = D) (hp : 0 < D.size) (h1 : D[0] = 48) (h2 : D.data.toList ≠ [48]) (w : World) :
    Calls Tryz.prog 31 #[.string s] w fun e w' => e = .returned (.tuple #[.agg #[.int .i64 0, .int .i64 0, .string ⟨#[]⟩, .int .i64 0, .int .i64 0, .string ⟨#[]⟩], .int .i64 3]) ∧ Below w.heap.size w w' := by
  have c1 := fun W => leading_dig s W (by omega)
  rw [hD] at c1
  have hpi : (0 : Int) < D.size := by omega
  have e1 : ((D[0].toNat : Int) == 48) = true := by rw [h1]; rfl
  have e2 : (D.toList == [48]) = false := by rw [eqb_of]; exact decide_eq_false h2
  have e3 : (D.toList != [48]) = true := by unfold bne; rw [e2]; rfl
  have C1 := Lib.hid c1
  clear c1 hD h1 h2
  go_enter Tryz.func31, Tryz.ntmps31
  go_wp2_with fail
  refine (C1.out _).mono ?_; rintro e w1 ⟨rfl, rfl⟩
  go_wp2_with fail
  refine bodyPost_ret (v := .tuple #[.agg #[.int .i64 0, .int .i64 0, .string ⟨#[]⟩, .int .i64 0, .int .i64 0, .string ⟨#[]⟩], .int .i64 3]) (by simp [results, Tryz.results31, go_sem]) rfl ⟨rfl, b_new _ _⟩
theorem end_cases (e : Lib.NumEnd Int) : (∃ n, e = .ok n) ∨ e = Lib.NumEnd.syntax ∨ e = Lib.NumEnd.range := by cases e <;> simp

def Plain (D : ByteArray) : Prop := D.data.toList.head? = some 48 → D.data.toList = [48]
/-- What the two tests of a plain number's digits say. -/
theorem plain_tests (D : ByteArray) (hp : 0 < D.size) (h : Plain D) : ((D[0].toNat : Int) == 48) = false ∨ (((D[0].toNat : Int) == 48) = true ∧ (D.toList == [48]) = true ∧ (D.toList != [48]) = false) := by
  by_cases g : D[0] = 48
  · right
    have e : D.data.toList = [48] := h (by rw [head_is D hp, g])
    have e2 : (D.toList == [48]) = true := by rw [eqb_of]; exact decide_eq_true e
    exact ⟨by rw [g]; rfl, e2, by unfold bne; rw [e2]; rfl⟩
  · left
    have := byte_is D[0] 48 (by decide)
    rw [show ((48 : Nat) : Int) = 48 from rfl] at this
    rw [this]; exact decide_eq_false g

theorem number_ok (s D : ByteArray) (hs : s.size ≤ 140737488351232) (hD : s.extract 0 (tw digB s) = D) (hp : 0 < D.size) (hpl : Plain D) (n : Int) (ha : Lib.atoiAll D.data.toList = .ok n) (hn : n ≤ 1099511627776) (w : World) :
    Calls Tryz.prog 31 #[.string s] w fun e w' => e = .returned (.tuple #[.agg #[.int .i64 1, .int .i64 0, .string D, .int .i64 1, .int .i64 n, .string ⟨#[]⟩], .int .i64 0]) ∧ Below w.heap.size w w' := by
  have hDs : D.size ≤ s.size := by rw [← hD]; simp; omega
  have c1 := fun W => leading_dig s W (by omega)
  rw [hD] at c1
  have c2 : ∀ W : World, Calls Tryz.prog 22 #[.string D] W fun e w' => e = .returned (.tuple #[.int .i64 n, .nilIface]) ∧ Below W.heap.size W w' := fun W =>
    (Tryz.strconv_Atoi_ok D (by omega) n ha W).mono fun e w' hh => ⟨hh.1, by
      rcases hh.2 with rfl | ⟨t, rfl⟩
      · exact Below.refl _ _
      · exact Lib.bytesWorld_below _ _ _⟩
  have hpi : (0 : Int) < D.size := by omega
  have C1 := Lib.hid c1
  have C2 := Lib.hid c2
  have ht := plain_tests D hp hpl
  clear c1 c2 hD ha hpl
  rcases ht with e1 | ⟨e1, e2, e3⟩
  all_goals
    go_enter Tryz.func31, Tryz.ntmps31
    go_wp2_with fail
    refine (C1.out _).mono ?_; rintro e w1 ⟨rfl, rfl⟩
    go_wp2_with fail
    refine (C2.out _).mono ?_; rintro e w1 ⟨rfl, hb1⟩
    obtain ⟨c1, d1⟩ := bcell hb1
    have hz : w.heap.size < w1.heap.size := Nat.lt_of_lt_of_le (by simp) hb1.size
    go_wp2_with fail
    refine bodyPost_ret (v := .tuple #[.agg #[.int .i64 1, .int .i64 0, .string D, .int .i64 1, .int .i64 n, .string ⟨#[]⟩], .int .i64 0]) (by simp [results, Tryz.results31, go_sem, c1]) rfl ⟨rfl, ?_⟩
    exact b_set6 (b_then hb1) _ (Nat.le_refl _) _ _ _ _ _ _

/-- Its digits are more than a number can be. -/
theorem number_over (s D : ByteArray) (hs : s.size ≤ 140737488351232) (hD : s.extract 0 (tw digB s) = D) (hp : 0 < D.size) (hpl : Plain D) (n : Int) (ha : Lib.atoiAll D.data.toList = .ok n) (hn : 1099511627776 < n) (w : World) :
    Calls Tryz.prog 31 #[.string s] w fun e w' => e = .returned (.tuple #[.agg #[.int .i64 0, .int .i64 0, .string ⟨#[]⟩, .int .i64 0, .int .i64 0, .string ⟨#[]⟩], .int .i64 7]) ∧ Below w.heap.size w w' := by
  have hDs : D.size ≤ s.size := by rw [← hD]; simp; omega
  have c1 := fun W => leading_dig s W (by omega)
  rw [hD] at c1
  have c2 : ∀ W : World, Calls Tryz.prog 22 #[.string D] W fun e w' => e = .returned (.tuple #[.int .i64 n, .nilIface]) ∧ Below W.heap.size W w' := fun W =>
    (Tryz.strconv_Atoi_ok D (by omega) n ha W).mono fun e w' hh => ⟨hh.1, by
      rcases hh.2 with rfl | ⟨t, rfl⟩
      · exact Below.refl _ _
      · exact Lib.bytesWorld_below _ _ _⟩
  have hpi : (0 : Int) < D.size := by omega
  have C1 := Lib.hid c1
  have C2 := Lib.hid c2
  have ht := plain_tests D hp hpl
  clear c1 c2 hD ha hpl
  rcases ht with e1 | ⟨e1, e2, e3⟩
  all_goals
    go_enter Tryz.func31, Tryz.ntmps31
    go_wp2_with fail
    refine (C1.out _).mono ?_; rintro e w1 ⟨rfl, rfl⟩
    go_wp2_with fail
    refine (C2.out _).mono ?_; rintro e w1 ⟨rfl, hb1⟩
    obtain ⟨c1, d1⟩ := bcell hb1
    have hz : w.heap.size < w1.heap.size := Nat.lt_of_lt_of_le (by simp) hb1.size
    go_wp2_with fail
    refine bodyPost_ret (v := .tuple #[.agg #[.int .i64 0, .int .i64 0, .string ⟨#[]⟩, .int .i64 0, .int .i64 0, .string ⟨#[]⟩], .int .i64 7]) (by simp [results, Tryz.results31, go_sem, c1]) rfl ⟨rfl, ?_⟩
    exact b_set6 (b_then hb1) _ (Nat.le_refl _) _ _ _ _ _ _

theorem number_err (s D : ByteArray) (hs : s.size ≤ 140737488351232) (hD : s.extract 0 (tw digB s) = D) (hp : 0 < D.size) (hpl : Plain D) (ha : ∀ n, Lib.atoiAll D.data.toList ≠ .ok n) (w : World) (hv : Vars w) :
    Calls Tryz.prog 31 #[.string s] w fun e w' => e = .returned (.tuple #[.agg #[.int .i64 0, .int .i64 0, .string ⟨#[]⟩, .int .i64 0, .int .i64 0, .string ⟨#[]⟩], .int .i64 7]) ∧ Below w.heap.size w w' := by
  have hDs : D.size ≤ s.size := by rw [← hD]; simp; omega
  have c1 := fun W => leading_dig s W (by omega)
  rw [hD] at c1
  have c2 : ∀ W : World, Vars W → Calls Tryz.prog 22 #[.string D] W fun e w' => ∃ (m : Int) (N : Nat), e = .returned (.tuple #[.int .i64 m, .iface 89 (.pointer (some ⟨N, 0, none⟩))]) ∧ Below W.heap.size W w' := fun W hv => by
    obtain ⟨p, hp⟩ := hv.syn
    obtain ⟨q, hq⟩ := hv.ran
    rcases end_cases (Lib.atoiAll D.data.toList) with ⟨n, he⟩ | he | he
    · exact absurd he (ha n)
    · refine (Tryz.strconv_Atoi_syntax_var D (by omega) he _ p _ hp).mono ?_
      rintro e w' ⟨N, h1, _, _, h2⟩
      exact ⟨0, N, h1, h2⟩
    · refine (Tryz.strconv_Atoi_range_var D (by omega) he _ q _ hq).mono ?_
      rintro e w' ⟨N, h1, _, _, h2⟩
      exact ⟨_, N, h1, h2⟩
  have hpi : (0 : Int) < D.size := by omega
  have C1 := Lib.hid c1
  have C2 := Lib.hid c2
  have HV := Lib.hid hv
  have ht := plain_tests D hp hpl
  clear c1 c2 hD ha hpl hv
  rcases ht with e1 | ⟨e1, e2, e3⟩
  all_goals
    go_enter Tryz.func31, Tryz.ntmps31
    go_wp2_with fail
    refine (C1.out _).mono ?_; rintro e w1 ⟨rfl, rfl⟩
    go_wp2_with fail
    refine (C2.out _ (HV.out.below (b_new w _))).mono ?_; rintro e w1 ⟨m, N, rfl, hb1⟩
    obtain ⟨c1, d1⟩ := bcell hb1
    have hz : w.heap.size < w1.heap.size := Nat.lt_of_lt_of_le (by simp) hb1.size
    go_wp2_with fail
    refine bodyPost_ret (v := .tuple #[.agg #[.int .i64 0, .int .i64 0, .string ⟨#[]⟩, .int .i64 0, .int .i64 0, .string ⟨#[]⟩], .int .i64 7]) (by simp [results, Tryz.results31, go_sem, c1]) rfl ⟨rfl, ?_⟩
    exact b_set6 (b_then hb1) _ (Nat.le_refl _) _ _ _ _ _ _

theorem number_any (s : ByteArray) (hs : s.size ≤ 140737488351232) (h0 : 0 < s.size) (hd : digB s[0] = true) : ∃ (k vk n e : Int) (u t : ByteArray), Tells (numT (s.data.toList.takeWhile digB)) s.data.toList k vk n e u t ∧
    ∀ w : World, Vars w → Calls Tryz.prog 31 #[.string s] w fun x w' => x = .returned (.tuple #[.agg #[.int .i64 k, .int .i64 0, .string u, .int .i64 vk, .int .i64 n, .string t], .int .i64 e]) ∧ Below w.heap.size w w' := by
  obtain ⟨D, hD⟩ : ∃ D, s.extract 0 (tw digB s) = D := ⟨_, rfl⟩
  have hL : D.data.toList = s.data.toList.takeWhile digB := by rw [← hD]; exact dig_pre s
  have hsz : D.size = tw digB s := by rw [← len_size, hL]; rfl
  have hp : 0 < D.size := by rw [hsz]; exact tw_pos digB s h0 hd
  have htk : s.data.toList.take D.data.toList.length = D.data.toList := by rw [hL]; exact LexM.take_tw digB _
  rw [← hL]
  by_cases h1 : D.data.toList.head? = some 48 ∧ 1 < D.data.toList.length
  · refine ⟨0, 0, 0, 3, ⟨#[]⟩, ⟨#[]⟩, ?_, fun w _ => number_lead s D hs hD hp ?_ ?_ w⟩
    · unfold numT; rw [if_pos h1]; exact ⟨rfl, by decide⟩
    · rw [head_is D hp] at h1; exact Option.some.inj h1.1
    · intro g; rw [g] at h1; simp at h1
  · have hpl : Plain D := fun g => by
      have : D.data.toList.length = 1 := by
        have : D.data.toList.length = D.size := rfl
        have : ¬ 1 < D.data.toList.length := fun x => h1 ⟨g, x⟩
        omega
      match hh : D.data.toList, this with
      | [a], _ => rw [hh] at g; simp at g; rw [g]
    rcases end_cases (Lib.atoiAll D.data.toList) with ⟨n, ha⟩ | ha | ha
    · by_cases hn : 1099511627776 < n
      · refine ⟨0, 0, 0, 7, ⟨#[]⟩, ⟨#[]⟩, ?_, fun w _ => number_over s D hs hD hp hpl n ha hn w⟩
        unfold numT; rw [if_neg h1, ha]; simp only; rw [if_pos hn]; exact ⟨rfl, by decide⟩
      · refine ⟨1, 1, n, 0, D, ⟨#[]⟩, ?_, fun w _ => number_ok s D hs hD hp hpl n ha (by omega) w⟩
        unfold numT; rw [if_neg h1, ha]; simp only; rw [if_neg hn]
        exact ⟨rfl, rfl, htk.symm, rfl, rfl, rfl⟩
    · refine ⟨0, 0, 0, 7, ⟨#[]⟩, ⟨#[]⟩, ?_, fun w hv => number_err s D hs hD hp hpl (fun n g => by rw [ha] at g; cases g) w hv⟩
      unfold numT; rw [if_neg h1, ha]; exact ⟨rfl, by decide⟩
    · refine ⟨0, 0, 0, 7, ⟨#[]⟩, ⟨#[]⟩, ?_, fun w hv => number_err s D hs hD hp hpl (fun n g => by rw [ha] at g; cases g) w hv⟩
      unfold numT; rw [if_neg h1, ha]; exact ⟨rfl, by decide⟩

/-! ### word -/
theorem word_any (s : ByteArray) (hs : s.size ≤ 140737488351232) : ∃ (k vk n e : Int) (u t : ByteArray), Tells (wordT (s.data.toList.takeWhile alnB)) s.data.toList k vk n e u t ∧
    ∀ w : World, Calls Tryz.prog 33 #[.string s] w fun x w' => x = .returned (.tuple #[.agg #[.int .i64 k, .int .i64 0, .string u, .int .i64 vk, .int .i64 n, .string t], .int .i64 e]) ∧ Below w.heap.size w w' := by
  obtain ⟨D, hD⟩ : ∃ D, s.extract 0 (tw alnB s) = D := ⟨_, rfl⟩
  have hL : D.data.toList = s.data.toList.takeWhile alnB := by rw [← hD]; exact tw_eq s
  have hDs : D.size ≤ s.size := by rw [← hD]; simp; omega
  have htk : s.data.toList.take D.data.toList.length = D.data.toList := by rw [hL]; exact LexM.take_tw alnB _
  have c1 := fun W => leading_aln s W (by omega)
  rw [hD] at c1
  rw [← hL]
  by_cases h1 : 10 < D.size
  · refine ⟨0, 0, 0, 1, ⟨#[]⟩, ⟨#[]⟩, ?_, fun w => ?_⟩
    · unfold wordT; rw [if_pos (show 10 < D.data.toList.length from h1)]; exact ⟨rfl, by decide⟩
    · have C1 := Lib.hid c1
      clear c1 hD hL htk
      go_enter Tryz.func33, Tryz.ntmps33
      go_wp2_with fail
      refine (C1.out _).mono ?_; rintro e w1 ⟨rfl, rfl⟩
      go_wp2_with fail
      refine bodyPost_ret (v := .tuple #[.agg #[.int .i64 0, .int .i64 0, .string ⟨#[]⟩, .int .i64 0, .int .i64 0, .string ⟨#[]⟩], .int .i64 1]) (by simp [results, Tryz.results33, go_sem]) rfl ⟨rfl, b_new _ _⟩
  · refine ⟨2, 0, 0, 0, D, ⟨#[]⟩, ?_, fun w => ?_⟩
    · unfold wordT; rw [if_neg (show ¬ 10 < D.data.toList.length from h1)]; exact ⟨rfl, rfl, htk.symm, rfl, rfl, rfl⟩
    · have C1 := Lib.hid c1
      clear c1 hD hL htk
      go_enter Tryz.func33, Tryz.ntmps33
      go_wp2_with fail
      refine (C1.out _).mono ?_; rintro e w1 ⟨rfl, rfl⟩
      go_wp2_with fail
      refine bodyPost_ret (v := .tuple #[.agg #[.int .i64 2, .int .i64 0, .string D, .int .i64 0, .int .i64 0, .string ⟨#[]⟩], .int .i64 0]) (by simp [results, Tryz.results33, go_sem]) rfl ⟨rfl, b_new _ _⟩

/-! ### ended -/
theorem ended_long (s t : ByteArray) (h : 40 < t.size) (w : World) : Calls Tryz.prog 51 #[.string s, .string t] w fun x w' => x = .returned (.tuple #[.agg #[.int .i64 0, .int .i64 0, .string ⟨#[]⟩, .int .i64 0, .int .i64 0, .string ⟨#[]⟩], .int .i64 1]) ∧ Below w.heap.size w w' := by
  go_enter Tryz.func51, Tryz.ntmps51
  go_wp2_with fail
  refine bodyPost_ret (v := .tuple #[.agg #[.int .i64 0, .int .i64 0, .string ⟨#[]⟩, .int .i64 0, .int .i64 0, .string ⟨#[]⟩], .int .i64 1]) (by simp [results, Tryz.results51, go_sem]) rfl ⟨rfl, b_new _ _⟩
theorem ended_ok (s t : ByteArray) (h : t.size ≤ 40) (w : World) : Calls Tryz.prog 51 #[.string s, .string t] w fun x w' => x = .returned (.tuple #[.agg #[.int .i64 3, .int .i64 0, .string s, .int .i64 3, .int .i64 0, .string t], .int .i64 0]) ∧ Below w.heap.size w w' := by
  go_enter Tryz.func51, Tryz.ntmps51
  go_wp2_with fail
  refine bodyPost_ret (v := .tuple #[.agg #[.int .i64 3, .int .i64 0, .string s, .int .i64 3, .int .i64 0, .string t], .int .i64 0]) (by simp [results, Tryz.results51, go_sem]) rfl ⟨rfl, b_new _ _⟩

/-! ### quote -/
theorem bcellB {B : Nat} {W w1 : World} (hb : Below B W w1) : (∀ b o, b < B → w1.cell? ⟨b, o, none⟩ = W.cell? ⟨b, o, none⟩) ∧ (∀ b o, b < B → w1.frozen? ⟨b, o, none⟩ = W.frozen? ⟨b, o, none⟩) :=
  ⟨fun b o h => hb.cell (p := ⟨b, o, none⟩) h, fun b o h => hb.frozen (p := ⟨b, o, none⟩) h⟩
structure QInv (B : Nat) (w0 : World) (s : ByteArray) (k : Nat) (acc : List UInt8) (wr : World) : Prop where
  one : 1 ≤ k
  le : k ≤ s.size
  isB : Lib.IsBuilder 81 5 B B (Lib.byteCells acc) wr
  is : quoF (s.data.toList.drop 1) = (quoF (s.data.toList.drop k)).map fun x => (x.1 + (k - 1), acc ++ x.2)
  len : acc.length ≤ k
  below : Below B w0 wr
  size : B ≤ wr.heap.size

theorem quo_end (s : ByteArray) (k : Nat) (h : k < s.size) (h1 : s[k] = 34) : quoF (s.data.toList.drop k) = some (1, []) := by
  rw [drop_cons s k h, h1]
  cases hh : s.data.toList.drop (k + 1) with
  | nil => rfl
  | cons d r => rw [quoF, if_pos rfl]
theorem quo_out (s : ByteArray) (k : Nat) (h : s.size ≤ k) : quoF (s.data.toList.drop k) = none := by
  rw [List.drop_eq_nil_of_le (by rw [len_size]; omega)]; rfl
theorem quo_bad (s : ByteArray) (k : Nat) (h : k < s.size) (h1 : s[k] ≠ 34) (h2 : s[k].toNat < 32 ∨ 126 < s[k].toNat) : quoF (s.data.toList.drop k) = none := by
  rw [drop_cons s k h]
  cases hh : s.data.toList.drop (k + 1) with
  | nil => rw [quoF, if_neg h1]
  | cons d r => rw [quoF, if_neg h1, if_pos h2]
theorem quo_last (s : ByteArray) (k : Nat) (h : k + 1 = s.size) (h1 : s[k]'(by omega) ≠ 34) : quoF (s.data.toList.drop k) = none := by
  rw [drop_cons s k (by omega), List.drop_eq_nil_of_le (by rw [len_size]; omega), quoF, if_neg h1]
theorem quo_esc (s : ByteArray) (k : Nat) (h : k + 1 < s.size) (h1 : s[k] = 92) : quoF (s.data.toList.drop k) = if s[k + 1] = 34 ∨ s[k + 1] = 92 then (quoF (s.data.toList.drop (k + 2))).map fun x => (x.1 + 2, s[k + 1] :: x.2) else none := by
  rw [drop_cons s k (by omega), drop_cons s (k + 1) h, quoF, if_neg (by rw [h1]; decide), if_neg (by rw [h1]; decide), if_pos h1]
theorem quo_one (s : ByteArray) (k : Nat) (h : k < s.size) (h1 : s[k] ≠ 34) (h2 : ¬ (s[k].toNat < 32 ∨ 126 < s[k].toNat)) (h3 : s[k] ≠ 92) : quoF (s.data.toList.drop k) = (quoF (s.data.toList.drop (k + 1))).map fun x => (x.1 + 1, s[k] :: x.2) := by
  rw [drop_cons s k h]
  cases hh : s.data.toList.drop (k + 1) with
  | nil => simp [quoF, h1]
  | cons d r => rw [quoF, if_neg h1, if_neg h2, if_neg h3]

theorem QInv.step {B : Nat} {w0 w3 : World} {s : ByteArray} {k j : Nat} {acc : List UInt8} {wr : World} {c : UInt8} (h : QInv B w0 s k acc wr) (hj : k < j) (hle : j ≤ s.size) (hB : Lib.IsBuilder 81 5 B B (Lib.byteCells acc ++ [.int .u8 c.toNat]) w3) (hb : Below B wr w3)
    (hs : quoF (s.data.toList.drop k) = (quoF (s.data.toList.drop j)).map fun x => (x.1 + (j - k), c :: x.2)) : QInv B w0 s j (acc ++ [c]) w3 := by
  have h1 := h.one
  refine ⟨by omega, hle, by simpa [Lib.byteCells] using hB, ?_, by simp; have := h.len; omega, h.below.trans hb, Nat.le_trans h.size hb.size⟩
  rw [h.is, hs, Option.map_map]
  congr 1
  funext x
  simp; omega

theorem quo_none {B : Nat} {w0 wr : World} {s : ByteArray} {k : Nat} {acc : List UInt8} (h : QInv B w0 s k acc wr) (hn : quoF (s.data.toList.drop k) = none) : quoF (s.data.toList.drop 1) = none := by rw [h.is, hn]; rfl
theorem b_undrewB {B C : Nat} {w w1 : World} (h : Below B w.drew w1) (hC : C ≤ B) : Below C w w1 := (show Below B w w1 from ⟨h.os, h.tape, h.output, h.size, h.block⟩).mono hC
set_option maxHeartbeats 1000000 in
theorem quote_any (s : ByteArray) (hs : s.size ≤ 140737488351232) (h0 : 0 < s.size) : ∃ (k vk n e : Int) (u t : ByteArray), Tells (quoT (s.data.toList.drop 1)) s.data.toList k vk n e u t ∧
    ∀ w : World, Calls Tryz.prog 34 #[.string s] w fun x w' => x = .returned (.tuple #[.agg #[.int .i64 k, .int .i64 0, .string u, .int .i64 vk, .int .i64 n, .string t], .int .i64 e]) ∧ Below w.heap.size w w' := by
  obtain ⟨k, vk, n, e, u, t, ht, hN, hS⟩ : ∃ (k vk n e : Int) (u t : ByteArray), Tells (quoT (s.data.toList.drop 1)) s.data.toList k vk n e u t ∧
      (quoF (s.data.toList.drop 1) = none → k = 0 ∧ vk = 0 ∧ n = 0 ∧ e = 3 ∧ u = ⟨#[]⟩ ∧ t = ⟨#[]⟩) ∧
      (∀ m x, quoF (s.data.toList.drop 1) = some (m, x) → ∀ W : World, Calls Tryz.prog 51 #[.string (s.extract 0 (m + 1)), .string ⟨x.toArray⟩] W fun z w' => z = .returned (.tuple #[.agg #[.int .i64 k, .int .i64 0, .string u, .int .i64 vk, .int .i64 n, .string t], .int .i64 e]) ∧ Below W.heap.size W w') := by
    cases hq : quoF (s.data.toList.drop 1) with
    | none => exact ⟨0, 0, 0, 3, ⟨#[]⟩, ⟨#[]⟩, by unfold quoT; rw [hq]; exact ⟨rfl, by decide⟩, fun _ => ⟨rfl, rfl, rfl, rfl, rfl, rfl⟩, fun m x h => by cases h⟩
    | some y =>
      obtain ⟨m, x⟩ := y
      by_cases hx : 40 < x.length
      · refine ⟨0, 0, 0, 1, ⟨#[]⟩, ⟨#[]⟩, by unfold quoT; rw [hq]; simp only; rw [if_pos hx]; exact ⟨rfl, by decide⟩, (fun h => by cases h), fun m' x' h W => ?_⟩
        injection h with h; injection h with h h'; subst h; subst h'
        exact ended_long _ ⟨x.toArray⟩ hx W
      · refine ⟨3, 3, 0, 0, s.extract 0 (m + 1), ⟨x.toArray⟩, by unfold quoT; rw [hq]; simp only; rw [if_neg hx]; exact ⟨rfl, rfl, by simp [ByteArray.data_extract], rfl, rfl, rfl⟩, (fun h => by cases h), fun m' x' h W => ?_⟩
        injection h with h; injection h with h h'; subst h; subst h'
        exact ended_ok _ ⟨x.toArray⟩ (show x.length ≤ 40 by omega) W
  refine ⟨k, vk, n, e, u, t, ht, fun w => ?_⟩
  have hI : QInv (w.heap.size + 1) (w.alloc (.cells #[.int .i64 0, .int .i64 0, .string ⟨#[]⟩, .int .i64 0, .int .i64 0, .string ⟨#[]⟩] 42)) s 1 [] ((w.alloc (.cells #[.int .i64 0, .int .i64 0, .string ⟨#[]⟩, .int .i64 0, .int .i64 0, .string ⟨#[]⟩] 42)).alloc (.cells #[.pointer none, .slice none 0 0] 81)) :=
    ⟨Nat.le_refl _, h0, by have := Lib.fresh_isBuilder 81 5 (w.alloc (.cells #[.int .i64 0, .int .i64 0, .string ⟨#[]⟩, .int .i64 0, .int .i64 0, .string ⟨#[]⟩] 42)); simpa [Lib.byteCells] using this, by simp, by simp, by have := b_new (w.alloc (.cells #[.int .i64 0, .int .i64 0, .string ⟨#[]⟩, .int .i64 0, .int .i64 0, .string ⟨#[]⟩] 42)) (.cells #[.pointer none, .slice none 0 0] 81); simpa using this, by simp⟩
  have HI0 := Lib.hid hI
  have HN := Lib.hid hN
  have HS := Lib.hid hS
  clear hI hN hS ht
  go_enter Tryz.func34, Tryz.ntmps34
  go_wp2_with fail
  go_loopw [5] (fun i wr => ∃ (k : Nat) (acc : List UInt8), i = .int .i64 k ∧ QInv (w.heap.size + 1) (w.alloc (.cells #[.int .i64 0, .int .i64 0, .string ⟨#[]⟩, .int .i64 0, .int .i64 0, .string ⟨#[]⟩] 42)) s k acc wr) (fun i _ => s.size - (intOf i).toNat)
  case atStart => exact ⟨1, [], rfl, HI0.out⟩
  case round =>
    obtain ⟨j, acc, rfl, hI⟩ := hrel
    obtain ⟨c1, d1⟩ := bcellB hI.below
    have hsz := hI.size
    have hz : w.heap.size < wr.heap.size := by omega
    have hbw : Below w.heap.size w wr := b_then (by simpa using hI.below)
    have hle := hI.le
    have hal := hI.len
    have hone := hI.one
    have hcl : (Lib.byteCells acc).length ≤ j := by rw [Lib.byteCells_length]; exact hal
    have HI := Lib.hid hI
    clear hI
    by_cases hlt : j < s.size
    · by_cases h34 : s[j] = 34
      · have t1 : ((s[j].toNat : Int) == 34) = true := by rw [h34]; rfl
        have hq : quoF (s.data.toList.drop 1) = some (j, acc) := by
          rw [HI.out.is, quo_end s j hlt h34]; simp; omega
        have c2 := HS.out j acc hq
        have C2 := Lib.hid c2
        clear c2 hq h34
        have hi1 : (0 : Int) ≤ (j : Int) + 1 := by omega
        have hi2 : (j : Int) + 1 ≤ s.size := by omega
        have hi3 : ((j : Int) + 1).toNat = j + 1 := by omega
        have hsum : IntKind.i64.wrap ((j : Int) + 1) = (j : Int) + 1 := IntWalk.i64_in _ (by omega)
        go_wp2_with fail
        go_region_held3 (fun _ => True) (trivial)
          (first | (go_at_call 52; (refine (Bld.string (w.heap.size + 1) _ acc _ (by exact HI.out.isB) (by exact hsz)).mono ?_); rintro e w1 ⟨rfl, hb1⟩; obtain ⟨c2, d2⟩ := bcellB hb1; have z2 : w.heap.size < w1.heap.size := Nat.lt_of_lt_of_le hz hb1.size) | (go_at_call 51; (refine (C2.out _).mono ?_); rintro e w2 ⟨rfl, hb2⟩; obtain ⟨c3, d3⟩ := bcell hb2; have z3 : w.heap.size < w2.heap.size := Nat.lt_of_lt_of_le z2 hb2.size))
        all_goals
          go_wp2_with fail
          refine bodyPost_ret (v := .tuple #[.agg #[.int .i64 k, .int .i64 0, .string u, .int .i64 vk, .int .i64 n, .string t], .int .i64 e]) (by simp [results, Tryz.results34, go_sem, c1, c2, c3, z2]) rfl ⟨rfl, ?_⟩
          exact b_set6 (hbw.trans ((b_undrewB hb1 (by omega)).trans (hb2.mono (by have := z2; omega)))) _ (Nat.le_refl _) _ _ _ _ _ _
      · have t1 : ((s[j].toNat : Int) == 34) = false := by have := byte_is s[j] 34 (by decide); rw [show ((34 : Nat) : Int) = 34 from rfl] at this; rw [this]; exact decide_eq_false h34
        by_cases hlo : (s[j].toNat : Int) < 32
        · have hno := quo_none HI.out (quo_bad s j hlt h34 (.inl (by omega)))
          have hlo' : decide ((s[j].toNat : Int) < 32) = true := decide_eq_true hlo
          obtain ⟨rfl, rfl, rfl, rfl, rfl, rfl⟩ := HN.out hno
          clear hno
          go_wp2_with fail
          refine bodyPost_ret (v := .tuple #[.agg #[.int .i64 0, .int .i64 0, .string ⟨#[]⟩, .int .i64 0, .int .i64 0, .string ⟨#[]⟩], .int .i64 3]) (by simp [results, Tryz.results34, go_sem, c1]) rfl ⟨rfl, ?_⟩
          exact b_set6 hbw _ (Nat.le_refl _) _ _ _ _ _ _
        · have hlo' : decide ((s[j].toNat : Int) < 32) = false := decide_eq_false hlo
          by_cases hhi : (126 : Int) < s[j].toNat
          · have hno := quo_none HI.out (quo_bad s j hlt h34 (.inr (by omega)))
            have hhi' : decide ((126 : Int) < s[j].toNat) = true := decide_eq_true hhi
            obtain ⟨rfl, rfl, rfl, rfl, rfl, rfl⟩ := HN.out hno
            clear hno
            go_wp2_with fail
            refine bodyPost_ret (v := .tuple #[.agg #[.int .i64 0, .int .i64 0, .string ⟨#[]⟩, .int .i64 0, .int .i64 0, .string ⟨#[]⟩], .int .i64 3]) (by simp [results, Tryz.results34, go_sem, c1]) rfl ⟨rfl, ?_⟩
            exact b_set6 hbw _ (Nat.le_refl _) _ _ _ _ _ _
          · have hhi' : decide ((126 : Int) < s[j].toNat) = false := decide_eq_false hhi
            by_cases h92 : s[j] = 92
            · have t2 : ((s[j].toNat : Int) == 92) = true := by rw [h92]; rfl
              by_cases hl2 : j + 1 < s.size
              · have hq := quo_esc s j hl2 h92
                have t3 : ((j : Int) + 1 == s.size) = false := by rw [beq_eq_false_iff_ne]; omega
                have u1 := byte_is s[j + 1] 34 (by decide)
                have u2 := byte_is s[j + 1] 92 (by decide)
                rw [show ((34 : Nat) : Int) = 34 from rfl] at u1
                rw [show ((92 : Nat) : Int) = 92 from rfl] at u2
                by_cases g1 : s[j + 1] = 34
                · have v1 : ((s[j + 1].toNat : Int) != 34) = false := by unfold bne; rw [u1]; exact congrArg not (decide_eq_true g1)
                  have hq : quoF (s.data.toList.drop j) = (quoF (s.data.toList.drop (j + 2))).map fun x => (x.1 + (j + 2 - j), s[j + 1] :: x.2) := by
                    rw [hq, if_pos (.inl g1), show j + 2 - j = 2 by omega]
                  clear h92 g1 u1 u2 h34
                  have HQ := Lib.hid hq
                  clear hq
                  go_wp2_with fail
                  refine (Bld.writeByte (w.heap.size + 1) (w.heap.size + 1) _ _ _ HI.out.isB (by omega) hsz).mono ?_; rintro e w3 ⟨rfl, hB3, hb3⟩
                  have hN : QInv (w.heap.size + 1) (w.alloc (.cells #[.int .i64 0, .int .i64 0, .string ⟨#[]⟩, .int .i64 0, .int .i64 0, .string ⟨#[]⟩] 42)) s (j + 2) (acc ++ [s[j + 1]]) w3 := HI.out.step (by omega) (by omega) hB3 hb3 HQ.out
                  have HN3 := Lib.hid hN
                  clear hN hB3 hb3
                  go_wp2
                  go_roundw
                  case rel => exact ⟨j + 2, _, by go_num, HN3.out⟩
                  case measure => simp [intOf]; omega
                · have v1 : ((s[j + 1].toNat : Int) != 34) = true := by unfold bne; rw [u1]; exact congrArg not (decide_eq_false g1)
                  by_cases g2 : s[j + 1] = 92
                  · have v2 : ((s[j + 1].toNat : Int) != 92) = false := by unfold bne; rw [u2]; exact congrArg not (decide_eq_true g2)
                    have hq : quoF (s.data.toList.drop j) = (quoF (s.data.toList.drop (j + 2))).map fun x => (x.1 + (j + 2 - j), s[j + 1] :: x.2) := by
                      rw [hq, if_pos (.inr g2), show j + 2 - j = 2 by omega]
                    clear h92 g1 g2 u1 u2 h34
                    have HQ := Lib.hid hq
                    clear hq
                    go_wp2_with fail
                    refine (Bld.writeByte (w.heap.size + 1) (w.heap.size + 1) _ _ _ HI.out.isB (by omega) hsz).mono ?_; rintro e w3 ⟨rfl, hB3, hb3⟩
                    have hN : QInv (w.heap.size + 1) (w.alloc (.cells #[.int .i64 0, .int .i64 0, .string ⟨#[]⟩, .int .i64 0, .int .i64 0, .string ⟨#[]⟩] 42)) s (j + 2) (acc ++ [s[j + 1]]) w3 := HI.out.step (by omega) (by omega) hB3 hb3 HQ.out
                    have HN3 := Lib.hid hN
                    clear hN hB3 hb3
                    go_wp2
                    go_roundw
                    case rel => exact ⟨j + 2, _, by go_num, HN3.out⟩
                    case measure => simp [intOf]; omega
                  · have v2 : ((s[j + 1].toNat : Int) != 92) = true := by unfold bne; rw [u2]; exact congrArg not (decide_eq_false g2)
                    have hno := quo_none HI.out (hq.trans (if_neg (fun g => g.elim g1 g2)))
                    clear h92 g1 g2 u1 u2 h34 hq
                    obtain ⟨rfl, rfl, rfl, rfl, rfl, rfl⟩ := HN.out hno
                    clear hno
                    go_wp2_with fail
                    refine bodyPost_ret (v := .tuple #[.agg #[.int .i64 0, .int .i64 0, .string ⟨#[]⟩, .int .i64 0, .int .i64 0, .string ⟨#[]⟩], .int .i64 3]) (by simp [results, Tryz.results34, go_sem, c1]) rfl ⟨rfl, ?_⟩
                    exact b_set6 hbw _ (Nat.le_refl _) _ _ _ _ _ _
              · have hno := quo_none HI.out (quo_last s j (by omega) h34)
                have t3 : ((j : Int) + 1 == s.size) = true := by rw [beq_iff_eq]; omega
                clear h92 h34
                obtain ⟨rfl, rfl, rfl, rfl, rfl, rfl⟩ := HN.out hno
                clear hno
                go_wp2_with fail
                refine bodyPost_ret (v := .tuple #[.agg #[.int .i64 0, .int .i64 0, .string ⟨#[]⟩, .int .i64 0, .int .i64 0, .string ⟨#[]⟩], .int .i64 3]) (by simp [results, Tryz.results34, go_sem, c1]) rfl ⟨rfl, ?_⟩
                exact b_set6 hbw _ (Nat.le_refl _) _ _ _ _ _ _
            · have t2 : ((s[j].toNat : Int) == 92) = false := by have := byte_is s[j] 92 (by decide); rw [show ((92 : Nat) : Int) = 92 from rfl] at this; rw [this]; exact decide_eq_false h92
              have hq : quoF (s.data.toList.drop j) = (quoF (s.data.toList.drop (j + 1))).map fun x => (x.1 + (j + 1 - j), s[j] :: x.2) := by
                rw [quo_one s j hlt h34 (by omega) h92, show j + 1 - j = 1 by omega]
              clear h92 h34
              have HQ := Lib.hid hq
              clear hq
              go_wp2_with fail
              refine (Bld.writeByte (w.heap.size + 1) (w.heap.size + 1) _ _ _ HI.out.isB (by omega) hsz).mono ?_; rintro e w3 ⟨rfl, hB3, hb3⟩
              have hN : QInv (w.heap.size + 1) (w.alloc (.cells #[.int .i64 0, .int .i64 0, .string ⟨#[]⟩, .int .i64 0, .int .i64 0, .string ⟨#[]⟩] 42)) s (j + 1) (acc ++ [s[j]]) w3 := HI.out.step (by omega) (by omega) hB3 hb3 HQ.out
              have HN3 := Lib.hid hN
              clear hN hB3 hb3
              go_wp2
              go_roundw
              case rel => exact ⟨j + 1, _, by go_num, HN3.out⟩
              case measure => simp [intOf]; omega
    · have hno := quo_none HI.out (quo_out s j (by omega))
      obtain ⟨rfl, rfl, rfl, rfl, rfl, rfl⟩ := HN.out hno
      clear hno
      go_wp2_with fail
      refine bodyPost_ret (v := .tuple #[.agg #[.int .i64 0, .int .i64 0, .string ⟨#[]⟩, .int .i64 0, .int .i64 0, .string ⟨#[]⟩], .int .i64 3]) (by simp [results, Tryz.results34, go_sem, c1]) rfl ⟨rfl, ?_⟩
      exact b_set6 hbw _ (Nat.le_refl _) _ _ _ _ _ _
end Go.Proofs.YtjjchbafobcofaaGreatDoor.LexT
