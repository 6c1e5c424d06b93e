/- Contracts of package lex (chapter 3): sign and first. -/
import Derived.Test.YtjjchbafobcofaaGreatDoorLexTok
import Derived.Laws.Rows
namespace Go.Proofs.YtjjchbafobcofaaGreatDoor.LexS
open Go.RowKit
open LexM LexB LexT Kit
set_option linter.unusedVariables false

/-! ### sign -/
def sg (k : Nat) : List UInt8 := sgnL.getD k []
theorem sg_len (k : Nat) (h : k < 13) : sg k ≠ [] ∧ (sg k).length ≤ 2 := by
  match k, h with
  | 0, _ | 1, _ | 2, _ | 3, _ | 4, _ | 5, _ | 6, _ | 7, _ | 8, _ | 9, _ | 10, _ | 11, _ | 12, _ => exact ⟨by decide, by decide⟩
theorem pre2 (a b c : UInt8) (r : List UInt8) : Lib.hasPrefix (c :: r) [a, b] = decide (c = a ∧ r.head? = some b) := by
  unfold Lib.hasPrefix
  cases r with
  | nil => simp [List.isPrefixOf]
  | cons d r =>
    rw [Bool.eq_iff_iff]
    simp [List.isPrefixOf]
    constructor
    · rintro ⟨h1, h2⟩; exact ⟨h1.symm, h2.symm⟩
    · rintro ⟨h1, h2⟩; exact ⟨h1.symm, h2.symm⟩
theorem pre1 (a c : UInt8) (r : List UInt8) : Lib.hasPrefix (c :: r) [a] = decide (c = a) := by
  unfold Lib.hasPrefix
  rw [Bool.eq_iff_iff]
  simp [List.isPrefixOf]
  exact ⟨fun h => h.symm, fun h => h.symm⟩
/-- The first sign that fits is the token. -/
theorem sgn_hit (c : UInt8) (r : List UInt8) (k : Nat) (hk : k < 13) (h : Lib.hasPrefix (c :: r) (sg k) = true) (hno : ∀ i, i < k → Lib.hasPrefix (c :: r) (sg i) = false) :
    sgnT c r = .tok ⟨4, (sg k).length, 0, 0, []⟩ ∧ (c :: r).take (sg k).length = sg k := by
  have two : 2 ≤ k → ¬ ((c = 60 ∨ c = 33) ∧ r.head? = some 61) := fun hk2 => by
    have h0 := hno 0 (by omega)
    have h1 := hno 1 (by omega)
    rw [show sg 0 = [60, 61] from rfl, pre2, decide_eq_false_iff_not] at h0
    rw [show sg 1 = [33, 61] from rfl, pre2, decide_eq_false_iff_not] at h1
    rintro ⟨g | g, g2⟩
    · exact h0 ⟨g, g2⟩
    · exact h1 ⟨g, g2⟩
  unfold sgnT
  match k, hk with
  | 0, _ =>
    rw [show sg 0 = [60, 61] from rfl, pre2, decide_eq_true_eq] at h
    refine ⟨by rw [if_pos ⟨.inl h.1, h.2⟩]; rfl, ?_⟩
    cases r with
    | nil => simp at h
    | cons d r => have h2 := h.2; simp at h2; rw [h.1, h2]; rfl
  | 1, _ =>
    rw [show sg 1 = [33, 61] from rfl, pre2, decide_eq_true_eq] at h
    refine ⟨by rw [if_pos ⟨.inr h.1, h.2⟩]; rfl, ?_⟩
    cases r with
    | nil => simp at h
    | cons d r => have h2 := h.2; simp at h2; rw [h.1, h2]; rfl
  | 2, _ | 3, _ | 4, _ | 5, _ | 6, _ | 7, _ | 8, _ | 9, _ | 10, _ | 11, _ | 12, _ =>
    first
      | (rw [if_neg (two (by omega))]
         unfold sg sgnL at h ⊢
         simp only [List.getD_cons_succ, List.getD_cons_zero] at h ⊢
         rw [pre1, decide_eq_true_eq] at h
         subst h
         exact ⟨by rw [if_pos (by decide)]; rfl, rfl⟩)
theorem sgn_none (c : UInt8) (r : List UInt8) (hno : ∀ i, i < 13 → Lib.hasPrefix (c :: r) (sg i) = false) : sgnT c r = .bad 3 := by
  have h0 := hno 0 (by omega); have h1 := hno 1 (by omega); have h2 := hno 2 (by omega); have h3 := hno 3 (by omega); have h4 := hno 4 (by omega); have h5 := hno 5 (by omega); have h6 := hno 6 (by omega)
  have h7 := hno 7 (by omega); have h8 := hno 8 (by omega); have h9 := hno 9 (by omega); have h10 := hno 10 (by omega); have h11 := hno 11 (by omega); have h12 := hno 12 (by omega)
  simp only [sg, sgnL, List.getD_cons_succ, List.getD_cons_zero, pre1, pre2, decide_eq_false_iff_not] at h0 h1 h2 h3 h4 h5 h6 h7 h8 h9 h10 h11 h12
  unfold sgnT
  rw [if_neg (fun g => by rcases g with ⟨g | g, g2⟩; exact h0 ⟨g, g2⟩; exact h1 ⟨g, g2⟩)]
  rw [if_neg]
  unfold sgnB
  simp [h2, h3, h4, h5, h6, h7, h8, h9, h10, h11, h12]

theorem sg_at (k : Nat) (h : k < 13) (w : World) : (Instr.index 84 (.agg #[.string ⟨#[60, 61]⟩, .string ⟨#[33, 61]⟩, .string ⟨#[60]⟩, .string ⟨#[61]⟩, .string ⟨#[43]⟩, .string ⟨#[45]⟩, .string ⟨#[42]⟩, .string ⟨#[47]⟩, .string ⟨#[37]⟩, .string ⟨#[38]⟩, .string ⟨#[40]⟩, .string ⟨#[41]⟩, .string ⟨#[44]⟩]) (.int .i64 k)).run Tryz.prog w = .ok (.string ⟨(sg k).toArray⟩) w := by
  obtain rfl | rfl | rfl | rfl | rfl | rfl | rfl | rfl | rfl | rfl | rfl | rfl | rfl : k = 0 ∨ k = 1 ∨ k = 2 ∨ k = 3 ∨ k = 4 ∨ k = 5 ∨ k = 6 ∨ k = 7 ∨ k = 8 ∨ k = 9 ∨ k = 10 ∨ k = 11 ∨ k = 12 := by omega
  all_goals kernel_rfl
theorem pre_any (s p : ByteArray) (w : World) : Calls Tryz.prog 54 #[.string s, .string p] w fun e w' => e = .returned (.bool (Lib.hasPrefix s.data.toList p.data.toList)) ∧ w = w' :=
  (Tryz.strings_HasPrefix s p w).mono fun _ _ h => ⟨h.1, h.2.symm⟩
theorem sgn_cells {w : World} (h : StrTab.Is Tryz.prog w "lychway/lex.signs" sgnL) (i : Nat) (hi : i < 13) : w.cell? ⟨1, i, none⟩ = some (.string ⟨(sg i).toArray⟩) :=
  StrTab.Is.cell h (g := 1) (by kernel_rfl) i hi

set_option maxHeartbeats 1000000 in
theorem sign_any (s : ByteArray) (h0 : 0 < s.size) : ∃ (k vk n e : Int) (u t : ByteArray), Tells (sgnT s[0] (s.data.toList.drop 1)) s.data.toList k vk n e u t ∧
    ∀ w : World, Vars w → Calls Tryz.prog 35 #[.string s] w fun x w' => x = .returned (.tuple #[.agg #[.int .i64 k, .int .i64 0, .string u, .int .i64 vk, .int .i64 n, .string t], .int .i64 e]) ∧ Below w.heap.size w w' := by
  have hcr : s.data.toList = s[0] :: s.data.toList.drop 1 := by have := drop_cons s 0 h0; rwa [List.drop_zero] at this
  obtain ⟨k, vk, n, e, u, t, ht, hY, hN⟩ : ∃ (k vk n e : Int) (u t : ByteArray), Tells (sgnT s[0] (s.data.toList.drop 1)) s.data.toList k vk n e u t ∧
      (∀ i, i < 13 → Lib.hasPrefix s.data.toList (sg i) = true → (∀ j, j < i → Lib.hasPrefix s.data.toList (sg j) = false) → k = 4 ∧ vk = 0 ∧ n = 0 ∧ e = 0 ∧ u = ⟨(sg i).toArray⟩ ∧ t = ⟨#[]⟩) ∧
      ((∀ j, j < 13 → Lib.hasPrefix s.data.toList (sg j) = false) → k = 0 ∧ vk = 0 ∧ n = 0 ∧ e = 3 ∧ u = ⟨#[]⟩ ∧ t = ⟨#[]⟩) := by
    by_cases hx : ∃ i, i < 13 ∧ Lib.hasPrefix s.data.toList (sg i) = true ∧ ∀ j, j < i → Lib.hasPrefix s.data.toList (sg j) = false
    · obtain ⟨i, hi, h1, h2⟩ := hx
      refine ⟨4, 0, 0, 0, ⟨(sg i).toArray⟩, ⟨#[]⟩, ?_, fun i' hi' g1 g2 => ?_, fun g => ?_⟩
      · have h1' := h1; have h2' := h2
        rw [hcr] at h1' h2'
        obtain ⟨a, b⟩ := sgn_hit _ _ i hi h1' h2'
        rw [a]
        refine ⟨rfl, rfl, ?_, rfl, rfl, rfl⟩
        rw [hcr]; exact b.symm
      · have e : i' = i := by
          rcases Nat.lt_trichotomy i' i with x | x | x
          · rw [h2 i' x] at g1; cases g1
          · exact x
          · rw [g2 i x] at h1; cases h1
        rw [e]; exact ⟨rfl, rfl, rfl, rfl, rfl, rfl⟩
      · rw [g i hi] at h1; cases h1
    · have hall : ∀ m j, j < m → m ≤ 13 → Lib.hasPrefix s.data.toList (sg j) = false := by
        intro m
        induction m with
        | zero => intro j hj; omega
        | succ m ih =>
          intro j hj hm
          by_cases g : j < m
          · exact ih j g (by omega)
          · obtain rfl : j = m := by omega
            cases hh : Lib.hasPrefix s.data.toList (sg j) with
            | false => rfl
            | true => exact absurd ⟨j, by omega, hh, fun i hi => ih i hi (by omega)⟩ hx
      refine ⟨0, 0, 0, 3, ⟨#[]⟩, ⟨#[]⟩, ?_, fun i' hi' g1 _ => ?_, fun _ => ⟨rfl, rfl, rfl, rfl, rfl, rfl⟩⟩
      · have h3 : ∀ j, j < 13 → Lib.hasPrefix (s[0] :: s.data.toList.drop 1) (sg j) = false := fun j hj => by rw [← hcr]; exact hall 13 j hj (Nat.le_refl _)
        rw [sgn_none _ _ h3]; exact ⟨rfl, by decide⟩
      · rw [hall 13 i' hi' (Nat.le_refl _)] at g1; cases g1
  refine ⟨k, vk, n, e, u, t, ht, fun w hv => ?_⟩
  have q0 := sgn_cells hv.sgn 0 (by omega); have q1 := sgn_cells hv.sgn 1 (by omega); have q2 := sgn_cells hv.sgn 2 (by omega); have q3 := sgn_cells hv.sgn 3 (by omega); have q4 := sgn_cells hv.sgn 4 (by omega); have q5 := sgn_cells hv.sgn 5 (by omega); have q6 := sgn_cells hv.sgn 6 (by omega)
  have q7 := sgn_cells hv.sgn 7 (by omega); have q8 := sgn_cells hv.sgn 8 (by omega); have q9 := sgn_cells hv.sgn 9 (by omega); have q10 := sgn_cells hv.sgn 10 (by omega); have q11 := sgn_cells hv.sgn 11 (by omega); have q12 := sgn_cells hv.sgn 12 (by omega)
  have hg : 1 < w.heap.size := by
    rcases Nat.lt_or_ge 1 w.heap.size with h | h
    · exact h
    · simp [World.cell?, Array.getElem?_eq_none h] at q0
  simp only [sg, sgnL, List.getD_cons_succ, List.getD_cons_zero] at q0 q1 q2 q3 q4 q5 q6 q7 q8 q9 q10 q11 q12
  have HY := Lib.hid hY
  have HN := Lib.hid hN
  clear hY hN ht hv
  go_enter Tryz.func35, Tryz.ntmps35
  go_wp2_with fail
  go_loop [5, 7] (fun _ i => ∃ j : Nat, j ≤ 13 ∧ i = .int .i64 j ∧ ∀ m, m < j → Lib.hasPrefix s.data.toList (sg m) = false) (fun _ i => 13 - (intOf i).toNat)
  case atStart => exact ⟨0, by omega, rfl, fun m hm => by omega⟩
  case round =>
    obtain ⟨j, hj, rfl, hno⟩ := hrel
    have HO := Lib.hid hno
    clear hno
    clear q0 q1 q2 q3 q4 q5 q6 q7 q8 q9 q10 q11 q12
    by_cases hlt : j < 13
    · have ix := fun W => sg_at j hlt W
      obtain ⟨p, hp⟩ : ∃ p : ByteArray, ByteArray.mk (sg j).toArray = p := ⟨_, rfl⟩
      have c1 := fun W => pre_any s p W
      have hpp : Lib.hasPrefix s.data.toList p.data.toList = Lib.hasPrefix s.data.toList (sg j) := by rw [← hp]
      obtain ⟨b, hb⟩ : ∃ b, Lib.hasPrefix s.data.toList (sg j) = b := ⟨_, rfl⟩
      rw [hpp, hb] at c1
      rw [hp] at ix
      have C1 := Lib.hid c1
      have HB := Lib.hid hb
      have HP := Lib.hid hp
      clear c1 hb hpp hp
      cases b
      · go_wp2_with fail
        refine (C1.out _).mono ?_; rintro e w1 ⟨rfl, rfl⟩
        go_wp2_with fail
        go_round
        case rel => exact ⟨j + 1, by omega, by go_num, fun m hm => by
          by_cases g : m = j
          · subst g; exact HB.out
          · exact HO.out m (by omega)⟩
        case measure => simp [intOf]; omega
      · have hY := HY.out j hlt HB.out HO.out
        rw [HP.out] at hY
        obtain ⟨rfl, rfl, rfl, rfl, rfl, rfl⟩ := hY
        clear HY HN HP HB HO
        go_wp2_with fail
        refine (C1.out _).mono ?_; rintro e w1 ⟨rfl, rfl⟩
        go_wp2_with fail
        refine bodyPost_ret (v := .tuple #[.agg #[.int .i64 4, .int .i64 0, .string u, .int .i64 0, .int .i64 0, .string ⟨#[]⟩], .int .i64 0]) (by simp [results, Tryz.results35, go_sem]) rfl ⟨rfl, b_new _ _⟩
    · have hN := HN.out fun m hm => HO.out m (by omega)
      obtain ⟨rfl, rfl, rfl, rfl, rfl, rfl⟩ := hN
      clear HY HN HO
      go_wp2_with fail
      refine bodyPost_ret (v := .tuple #[.agg #[.int .i64 0, .int .i64 0, .string ⟨#[]⟩, .int .i64 0, .int .i64 0, .string ⟨#[]⟩], .int .i64 3]) (by simp [results, Tryz.results35, go_sem]) rfl ⟨rfl, b_new _ _⟩

/-! ### first -/
theorem first_any (s : ByteArray) (hs : s.size ≤ 140737488351232) (h0 : 0 < s.size) : ∃ (k vk n e : Int) (u t : ByteArray), Tells (firstF s.data.toList) s.data.toList k vk n e u t ∧
    ∀ w : World, Vars w → Calls Tryz.prog 14 #[.string s] w fun x w' => x = .returned (.tuple #[.agg #[.int .i64 k, .int .i64 0, .string u, .int .i64 vk, .int .i64 n, .string t], .int .i64 e]) ∧ Below w.heap.size w w' := by
  have hcr : s.data.toList = s[0] :: s.data.toList.drop 1 := by have := drop_cons s 0 h0; rwa [List.drop_zero] at this
  have hf : firstF s.data.toList = if digB s[0] then numT (s.data.toList.takeWhile digB) else if lowB s[0] then wordT (s.data.toList.takeWhile alnB) else if s[0] = 34 then quoT (s.data.toList.drop 1) else sgnT s[0] (s.data.toList.drop 1) := by
    conv => lhs; rw [hcr, first_cons]
    rw [← hcr]
  have hpi : (0 : Int) < s.size := by omega
  have c1 := fun W => isDigit_any s[0] W
  have c2 := fun W => isLetter_any s[0] W
  have t34 := byte_is s[0] 34 (by decide)
  rw [show ((34 : Nat) : Int) = 34 from rfl] at t34
  rw [hf]
  cases b1 : digB s[0] with
  | true =>
    rw [if_pos rfl]
    obtain ⟨k, vk, n, e, u, t, ht, hc⟩ := number_any s hs h0 b1
    refine ⟨k, vk, n, e, u, t, ht, fun w hv => ?_⟩
    rw [b1] at c1
    have C1 := Lib.hid c1
    have C3 := Lib.hid hc
    have HV := Lib.hid hv
    clear c1 c2 hc hv hcr hf ht b1 t34
    go_enter Tryz.func14, Tryz.ntmps14
    go_wp2_with fail
    refine (C1.out _).mono ?_; rintro e w1 ⟨rfl, rfl⟩
    go_wp2_with fail
    refine (C3.out _ (HV.out.below (b_new w _))).mono ?_; rintro e w1 ⟨rfl, hb1⟩
    obtain ⟨c1, d1⟩ := bcell hb1
    have hz : w.heap.size < w1.heap.size := Nat.lt_of_lt_of_le (by simp) hb1.size
    go_wp2_with fail
    refine bodyPost_ret (v := .tuple #[.agg #[.int .i64 k, .int .i64 0, .string u, .int .i64 vk, .int .i64 n, .string t], .int .i64 e]) (by simp [results, Tryz.results14, go_sem, c1]) rfl ⟨rfl, ?_⟩
    exact b_set6 (b_then hb1) _ (Nat.le_refl _) _ _ _ _ _ _
  | false =>
    rw [if_neg (by decide)]
    rw [b1] at c1
    cases b2 : lowB s[0] with
    | true =>
      rw [if_pos rfl]
      obtain ⟨k, vk, n, e, u, t, ht, hc⟩ := word_any s hs
      refine ⟨k, vk, n, e, u, t, ht, fun w hv => ?_⟩
      rw [b2] at c2
      have C1 := Lib.hid c1
      have C2 := Lib.hid c2
      have C3 := Lib.hid hc
      clear c1 c2 hc hv hcr hf ht b1 b2 t34
      go_enter Tryz.func14, Tryz.ntmps14
      go_wp2_with fail
      refine (C1.out _).mono ?_; rintro e w1 ⟨rfl, rfl⟩
      go_wp2_with fail
      refine (C2.out _).mono ?_; rintro e w1 ⟨rfl, rfl⟩
      go_wp2_with fail
      refine (C3.out _).mono ?_; rintro e w1 ⟨rfl, hb1⟩
      obtain ⟨c1, d1⟩ := bcell hb1
      have hz : w.heap.size < w1.heap.size := Nat.lt_of_lt_of_le (by simp) hb1.size
      go_wp2_with fail
      refine bodyPost_ret (v := .tuple #[.agg #[.int .i64 k, .int .i64 0, .string u, .int .i64 vk, .int .i64 n, .string t], .int .i64 e]) (by simp [results, Tryz.results14, go_sem, c1]) rfl ⟨rfl, ?_⟩
      exact b_set6 (b_then hb1) _ (Nat.le_refl _) _ _ _ _ _ _
    | false =>
      rw [if_neg (by decide)]
      rw [b2] at c2
      by_cases h34 : s[0] = 34
      · rw [if_pos h34]
        obtain ⟨k, vk, n, e, u, t, ht, hc⟩ := quote_any s hs h0
        refine ⟨k, vk, n, e, u, t, ht, fun w hv => ?_⟩
        have t34' : ((s[0].toNat : Int) == 34) = true := by rw [t34]; exact decide_eq_true h34
        have C1 := Lib.hid c1
        have C2 := Lib.hid c2
        have C3 := Lib.hid hc
        clear c1 c2 hc hv hcr hf ht b1 b2 t34 h34
        go_enter Tryz.func14, Tryz.ntmps14
        go_wp2_with fail
        refine (C1.out _).mono ?_; rintro e w1 ⟨rfl, rfl⟩
        go_wp2_with fail
        refine (C2.out _).mono ?_; rintro e w1 ⟨rfl, rfl⟩
        go_wp2_with fail
        refine (C3.out _).mono ?_; rintro e w1 ⟨rfl, hb1⟩
        obtain ⟨c1, d1⟩ := bcell hb1
        have hz : w.heap.size < w1.heap.size := Nat.lt_of_lt_of_le (by simp) hb1.size
        go_wp2_with fail
        refine bodyPost_ret (v := .tuple #[.agg #[.int .i64 k, .int .i64 0, .string u, .int .i64 vk, .int .i64 n, .string t], .int .i64 e]) (by simp [results, Tryz.results14, go_sem, c1]) rfl ⟨rfl, ?_⟩
        exact b_set6 (b_then hb1) _ (Nat.le_refl _) _ _ _ _ _ _
      · rw [if_neg h34]
        obtain ⟨k, vk, n, e, u, t, ht, hc⟩ := sign_any s h0
        refine ⟨k, vk, n, e, u, t, ht, fun w hv => ?_⟩
        have t34' : ((s[0].toNat : Int) == 34) = false := by rw [t34]; exact decide_eq_false h34
        have C1 := Lib.hid c1
        have C2 := Lib.hid c2
        have C3 := Lib.hid hc
        have HV := Lib.hid hv
        clear c1 c2 hc hv hcr hf ht b1 b2 t34 h34
        go_enter Tryz.func14, Tryz.ntmps14
        go_wp2_with fail
        refine (C1.out _).mono ?_; rintro e w1 ⟨rfl, rfl⟩
        go_wp2_with fail
        refine (C2.out _).mono ?_; rintro e w1 ⟨rfl, rfl⟩
        go_wp2_with fail
        refine (C3.out _ (HV.out.below (b_new w _))).mono ?_; rintro e w1 ⟨rfl, hb1⟩
        obtain ⟨c1, d1⟩ := bcell hb1
        have hz : w.heap.size < w1.heap.size := Nat.lt_of_lt_of_le (by simp) hb1.size
        go_wp2_with fail
        refine bodyPost_ret (v := .tuple #[.agg #[.int .i64 k, .int .i64 0, .string u, .int .i64 vk, .int .i64 n, .string t], .int .i64 e]) (by simp [results, Tryz.results14, go_sem, c1]) rfl ⟨rfl, ?_⟩
        exact b_set6 (b_then hb1) _ (Nat.le_refl _) _ _ _ _ _ _
end Go.Proofs.YtjjchbafobcofaaGreatDoor.LexS
