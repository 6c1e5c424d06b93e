/- Contract of the reference's LexTokens (chapter 3). -/
import Derived.Test.YtjjchbafobcofaaGreatDoorLexRefA
namespace Go.Proofs.YtjjchbafobcofaaGreatDoor.LexRef
open Go.RowKit
open LexM LexB LexT Lex Kit
set_option linter.unusedVariables false

set_option maxHeartbeats 40000000 in
set_option maxRecDepth 100000 in
theorem refTokens_any (s : ByteArray) (w : World) (hs : s.size ≤ 140737488351232) (hv : Vars w) : Calls Tryz.prog 10 #[.string s] w (Out s.data.toList w) := by
  obtain ⟨i0, hi, hz0, hz1, hz2⟩ := info_parts infoTok
  by_cases hbig : 160 < s.size
  · have hR : lexR s.data.toList = ([], 0, 1) := lexR_long hbig
    have HR := Lib.hid hR
    clear hR
    go_enter Tryz.func10, Tryz.ntmps10
    go_wp2_with fail
    go_ret3
    exact Out.mk_ HR.out rfl (World.ownsRow_nil _ _ _ _) (Below.refl _ _)
  · have h0 : TInv w s 0 [] (.slice none 0 0) w := ⟨Nat.zero_le _, World.ownsRow_nil _ _ _ _, by rw [List.drop_zero], Below.refl _ _, Nat.le_refl _⟩
    have H0 := Lib.hid h0
    have HV := Lib.hid hv
    clear h0 hv
    go_enter Tryz.func10, Tryz.ntmps10
    go_wp2_with fail
    go_loopw [5, 6, 7, 8, 9, 10, 11, 12, 13] (fun v i _ _ _ _ _ _ _ wr => ∃ (k : Nat) (acc : List Tk), i = .int .i64 k ∧ TInv w s k acc v wr) (fun _ i _ _ _ _ _ _ _ _ => s.size - (intOf i).toNat)
    case atStart => exact ⟨0, [], rfl, H0.out⟩
    case round =>
      obtain ⟨k, acc, rfl, hI⟩ := hrel
      have hle := hI.le
      have hfew := hI.few
      have HI := Lib.hid hI
      clear hI
      by_cases hlt : k < s.size
      · by_cases h32 : s[k] = 32
        · have t1 : ((s[k].toNat : Int) == 32) = true := by rw [h32]; rfl
          have hN := HI.out.space hlt h32
          have hN2 : TInv w s (k + 1) acc _ (wr.alloc (.cells #[.int .i64 0, .int .i64 k, .string ⟨#[]⟩, .int .i64 0, .int .i64 0, .string ⟨#[]⟩] 42)) := ⟨hN.le, hN.own.alloc _, hN.is, hN.below.trans ((b_new wr _).mono hN.below.size), hN.few⟩
          have HN := Lib.hid hN2
          clear hN hN2 h32
          go_wp2_with fail
          go_roundw
          case rel => exact ⟨k + 1, acc, by go_num, HN.out⟩
          case measure => simp [intOf]; omega
        · have t1 : ((s[k].toNat : Int) == 32) = false := by have := byte_is s[k] 32 (by decide); rw [show ((32 : Nat) : Int) = 32 from rfl] at this; rw [this]; exact decide_eq_false h32
          have H32 := Lib.hid h32
          clear h32
          go_upto_block 2 with fail
          go_cut [6, 8, 9, 10] (fun s6 s8 s9 s10 wx => ∃ (kd vk n e : Int) (en : Nat) (t : ByteArray), s6 = .int .i64 k ∧ s8 = .int .i64 en ∧ s9 = .pointer (some ⟨wr.heap.size, 0, none⟩) ∧ s10 = .int .i64 e ∧ PInv wr s k kd vk n e en t wx)
          case first =>
            have hf := first_at s k hlt
            have c1 := fun W => figure_any s[k] W
            have c2 := fun W => small_any s[k] W
            cases b1 : digB s[k] with
            | true =>
              as_aux_lemma =>
                rw [b1, if_pos rfl] at hf
                rw [b1] at c1
                have hst : ∀ (j : Nat) (h : j < s.size), k ≤ j → j < k + 1 → digB s[j] = true := fun j h h1 h2 => by
                  have e : j = k := by omega
                  subst e
                  exact b1
                have u48 := byte_is s[k] 48 (by decide)
                rw [show ((48 : Nat) : Int) = 48 from rfl] at u48
                obtain ⟨d0, hd0⟩ : ∃ b, decide (s[k] = 48) = b := ⟨_, rfl⟩
                rw [show (UInt8.ofNat 48) = 48 from rfl, hd0] at u48
                have HF := Lib.hid hf
                have C1 := Lib.hid c1
                have HST := Lib.hid hst
                have HD0 := Lib.hid hd0
                clear hf c1 c2 b1 hst hd0
                go_wp2_with (go_at_call 21; (with_reducible refine (C1.out _).mono ?_); rintro e w1 ⟨rfl, rfl⟩)
                go_loop [8] (fun s8 => ∃ m : Nat, s8 = .int .i64 m ∧ k + 1 ≤ m ∧ m ≤ s.size ∧ ∀ (j : Nat) (h : j < s.size), k ≤ j → j < m → digB s[j] = true) (fun s8 => s.size - (intOf s8).toNat)
                case atStart => exact ⟨k + 1, by go_num, by omega, by omega, HST.out⟩
                case round =>
                  obtain ⟨m, rfl, hm1, hm2, ha⟩ := hrel
                  have HA := Lib.hid ha
                  clear ha
                  have hexit : (∀ g : m < s.size, digB s[m] = false) → (s.data.toList.drop k).takeWhile digB = (s.extract k m).data.toList := fun g => tw_at digB s k m (by omega) hm2 HA.out g
                  have HE := Lib.hid hexit
                  clear hexit
                  by_cases hml : m < s.size
                  · have c3 := fun W => figure_any s[m] W
                    cases b3 : digB s[m] with
                    | false =>
                      have hD := HE.out fun _ => b3
                      rw [b3] at c3
                      have C3 := Lib.hid c3
                      clear c3 b3
                      have hDs : (s.extract k m).size ≤ s.size := by simp; omega
                      obtain ⟨z, e0, hz, hAt⟩ : ∃ z e0 : Int, ((e0 = 7 ∧ ∀ n, Lib.atoiAll (s.extract k m).data.toList = .ok n → 1099511627776 < n) ∨ (e0 = 0 ∧ z ≤ 1099511627776 ∧ Lib.atoiAll (s.extract k m).data.toList = .ok z)) ∧
                          ((1099511627776 < z ∧ e0 = 7 ∧ ∀ W : World, Vars W → Calls Tryz.prog 22 #[.string (s.extract k m)] W fun e w' => e = .returned (.tuple #[.int .i64 z, .nilIface]) ∧ Below W.heap.size W w') ∨
                           (z ≤ 1099511627776 ∧ e0 = 0 ∧ ∀ W : World, Vars W → Calls Tryz.prog 22 #[.string (s.extract k m)] W fun e w' => e = .returned (.tuple #[.int .i64 z, .nilIface]) ∧ Below W.heap.size W w') ∨
                           (e0 = 7 ∧ ∀ W : World, Vars W → Calls Tryz.prog 22 #[.string (s.extract k m)] W fun e w' => ∃ N : Nat, e = .returned (.tuple #[.int .i64 z, .iface 89 (.pointer (some ⟨N, 0, none⟩))]) ∧ Below W.heap.size W w')) := atoi_kinds _ (by omega)
                      have hden : (decide (k + 1 < m)) = decide ((k : Int) + 1 < m) := by rw [decide_eq_decide]; omega
                      obtain ⟨d1, hd1⟩ : ∃ b, decide (k + 1 < m) = b := ⟨_, rfl⟩
                      rw [hd1] at hden
                      have hT := num_tells s k m (by omega) hm2 z e0 d0 d1 HD0.out hd1 hz
                      rw [← hD, ← HF.out] at hT
                      have HT := Lib.hid hT
                      have v1 : decide ((k : Int) + 1 < m) = d1 := hden.symm
                      obtain ⟨D, hDD⟩ : ∃ D, s.extract k m = D := ⟨_, rfl⟩
                      rw [hDD] at hAt
                      have hkm : (k : Int) ≤ m := by omega
                      have hms : (m : Int) ≤ s.size := by omega
                      have hk0 : (0 : Int) ≤ k := by omega
                      clear hT hz hDs hD hd1 hden HE
                      rcases hAt with ⟨hz, rfl, hAt⟩ | ⟨hz, rfl, hAt⟩ | ⟨rfl, hAt⟩
                      · have HAt := Lib.hid hAt
                        clear hAt
                        cases d0 <;> cases d1
                        all_goals
                          go_wp2_with (first | (go_at_call 21; (with_reducible refine (C3.out _).mono ?_); rintro e w1 ⟨rfl, rfl⟩) | (go_at_call 22; (refine (HAt.out _ (HV.out.below (b_then' HI.out.below))).mono ?_); rintro x w1 ⟨rfl, hb1⟩; obtain ⟨c1, f1⟩ := bcell hb1; have hz1 : wr.heap.size < w1.heap.size := Nat.lt_of_lt_of_le (by simp) hb1.size))
                          go_meet
                        all_goals exact ⟨1, 1, z, _, m, ⟨#[]⟩, rfl, rfl, rfl, rfl, PInv.set3 hb1 HT.out hm2⟩
                      · have HAt := Lib.hid hAt
                        clear hAt
                        cases d0 <;> cases d1
                        all_goals
                          go_wp2_with (first | (go_at_call 21; (with_reducible refine (C3.out _).mono ?_); rintro e w1 ⟨rfl, rfl⟩) | (go_at_call 22; (refine (HAt.out _ (HV.out.below (b_then' HI.out.below))).mono ?_); rintro x w1 ⟨rfl, hb1⟩; obtain ⟨c1, f1⟩ := bcell hb1; have hz1 : wr.heap.size < w1.heap.size := Nat.lt_of_lt_of_le (by simp) hb1.size))
                          go_meet
                        all_goals exact ⟨1, 1, z, _, m, ⟨#[]⟩, rfl, rfl, rfl, rfl, PInv.set3 hb1 HT.out hm2⟩
                      · have HAt := Lib.hid hAt
                        clear hAt
                        cases d0 <;> cases d1
                        all_goals
                          go_wp2_with (first | (go_at_call 21; (with_reducible refine (C3.out _).mono ?_); rintro e w1 ⟨rfl, rfl⟩) | (go_at_call 22; (refine (HAt.out _ (HV.out.below (b_then' HI.out.below))).mono ?_); rintro x w1 ⟨N, rfl, hb1⟩; obtain ⟨c1, f1⟩ := bcell hb1; have hz1 : wr.heap.size < w1.heap.size := Nat.lt_of_lt_of_le (by simp) hb1.size))
                          go_meet
                        all_goals exact ⟨1, 1, z, _, m, ⟨#[]⟩, rfl, rfl, rfl, rfl, PInv.set3 hb1 HT.out hm2⟩
                    | true =>
                      have hn : ∀ (j : Nat) (h : j < s.size), k ≤ j → j < m + 1 → digB s[j] = true := fun j h h1 h2 => by
                        by_cases g : j = m
                        · subst g; exact b3
                        · exact HA.out j h h1 (by omega)
                      rw [b3] at c3
                      have C3 := Lib.hid c3
                      have HN := Lib.hid hn
                      clear c3 b3 hn
                      go_wp2_with (go_at_call 21; (with_reducible refine (C3.out _).mono ?_); rintro e w1 ⟨rfl, rfl⟩)
                      go_round
                      case rel => exact ⟨m + 1, by go_num, by omega, by omega, HN.out⟩
                      case measure => simp [intOf]; omega
                  · have hD := HE.out fun g => absurd g hml
                    have C3 := Lib.hid True.intro
                    have hDs : (s.extract k m).size ≤ s.size := by simp; omega
                    obtain ⟨z, e0, hz, hAt⟩ : ∃ z e0 : Int, ((e0 = 7 ∧ ∀ n, Lib.atoiAll (s.extract k m).data.toList = .ok n → 1099511627776 < n) ∨ (e0 = 0 ∧ z ≤ 1099511627776 ∧ Lib.atoiAll (s.extract k m).data.toList = .ok z)) ∧
                        ((1099511627776 < z ∧ e0 = 7 ∧ ∀ W : World, Vars W → Calls Tryz.prog 22 #[.string (s.extract k m)] W fun e w' => e = .returned (.tuple #[.int .i64 z, .nilIface]) ∧ Below W.heap.size W w') ∨
                         (z ≤ 1099511627776 ∧ e0 = 0 ∧ ∀ W : World, Vars W → Calls Tryz.prog 22 #[.string (s.extract k m)] W fun e w' => e = .returned (.tuple #[.int .i64 z, .nilIface]) ∧ Below W.heap.size W w') ∨
                         (e0 = 7 ∧ ∀ W : World, Vars W → Calls Tryz.prog 22 #[.string (s.extract k m)] W fun e w' => ∃ N : Nat, e = .returned (.tuple #[.int .i64 z, .iface 89 (.pointer (some ⟨N, 0, none⟩))]) ∧ Below W.heap.size W w')) := atoi_kinds _ (by omega)
                    have hden : (decide (k + 1 < m)) = decide ((k : Int) + 1 < m) := by rw [decide_eq_decide]; omega
                    obtain ⟨d1, hd1⟩ : ∃ b, decide (k + 1 < m) = b := ⟨_, rfl⟩
                    rw [hd1] at hden
                    have hT := num_tells s k m (by omega) hm2 z e0 d0 d1 HD0.out hd1 hz
                    rw [← hD, ← HF.out] at hT
                    have HT := Lib.hid hT
                    have v1 : decide ((k : Int) + 1 < m) = d1 := hden.symm
                    obtain ⟨D, hDD⟩ : ∃ D, s.extract k m = D := ⟨_, rfl⟩
                    rw [hDD] at hAt
                    have hkm : (k : Int) ≤ m := by omega
                    have hms : (m : Int) ≤ s.size := by omega
                    have hk0 : (0 : Int) ≤ k := by omega
                    clear hT hz hDs hD hd1 hden HE
                    rcases hAt with ⟨hz, rfl, hAt⟩ | ⟨hz, rfl, hAt⟩ | ⟨rfl, hAt⟩
                    · have HAt := Lib.hid hAt
                      clear hAt
                      cases d0 <;> cases d1
                      all_goals
                        go_wp2_with (first | (go_at_call 21; (with_reducible refine (C3.out _).mono ?_); rintro e w1 ⟨rfl, rfl⟩) | (go_at_call 22; (refine (HAt.out _ (HV.out.below (b_then' HI.out.below))).mono ?_); rintro x w1 ⟨rfl, hb1⟩; obtain ⟨c1, f1⟩ := bcell hb1; have hz1 : wr.heap.size < w1.heap.size := Nat.lt_of_lt_of_le (by simp) hb1.size))
                        go_meet
                      all_goals exact ⟨1, 1, z, _, m, ⟨#[]⟩, rfl, rfl, rfl, rfl, PInv.set3 hb1 HT.out hm2⟩
                    · have HAt := Lib.hid hAt
                      clear hAt
                      cases d0 <;> cases d1
                      all_goals
                        go_wp2_with (first | (go_at_call 21; (with_reducible refine (C3.out _).mono ?_); rintro e w1 ⟨rfl, rfl⟩) | (go_at_call 22; (refine (HAt.out _ (HV.out.below (b_then' HI.out.below))).mono ?_); rintro x w1 ⟨rfl, hb1⟩; obtain ⟨c1, f1⟩ := bcell hb1; have hz1 : wr.heap.size < w1.heap.size := Nat.lt_of_lt_of_le (by simp) hb1.size))
                        go_meet
                      all_goals exact ⟨1, 1, z, _, m, ⟨#[]⟩, rfl, rfl, rfl, rfl, PInv.set3 hb1 HT.out hm2⟩
                    · have HAt := Lib.hid hAt
                      clear hAt
                      cases d0 <;> cases d1
                      all_goals
                        go_wp2_with (first | (go_at_call 21; (with_reducible refine (C3.out _).mono ?_); rintro e w1 ⟨rfl, rfl⟩) | (go_at_call 22; (refine (HAt.out _ (HV.out.below (b_then' HI.out.below))).mono ?_); rintro x w1 ⟨N, rfl, hb1⟩; obtain ⟨c1, f1⟩ := bcell hb1; have hz1 : wr.heap.size < w1.heap.size := Nat.lt_of_lt_of_le (by simp) hb1.size))
                        go_meet
                      all_goals exact ⟨1, 1, z, _, m, ⟨#[]⟩, rfl, rfl, rfl, rfl, PInv.set3 hb1 HT.out hm2⟩
            | false =>
              rw [b1, if_neg (by decide)] at hf
              rw [b1] at c1
              cases b2 : lowB s[k] with
              | true =>
                as_aux_lemma =>
                  rw [b2, if_pos rfl] at hf
                  rw [b2] at c2
                  have hst : ∀ (j : Nat) (h : j < s.size), k ≤ j → j < k + 1 → alnB s[j] = true := fun j h h1 h2 => by
                    have e : j = k := by omega
                    subst e
                    unfold alnB; rw [b2]; rfl
                  have HF := Lib.hid hf
                  have C1 := Lib.hid c1
                  have C2 := Lib.hid c2
                  have HST := Lib.hid hst
                  clear hf c1 c2 b1 b2 hst
                  go_wp2_with (first | (go_at_call 21; (with_reducible refine (C1.out _).mono ?_); rintro e w1 ⟨rfl, rfl⟩) | (go_at_call 23; (with_reducible refine (C2.out _).mono ?_); rintro e w1 ⟨rfl, rfl⟩))
                  go_loop [8] (fun s8 => ∃ m : Nat, s8 = .int .i64 m ∧ k + 1 ≤ m ∧ m ≤ s.size ∧ ∀ (j : Nat) (h : j < s.size), k ≤ j → j < m → alnB s[j] = true) (fun s8 => s.size - (intOf s8).toNat)
                  case atStart => exact ⟨k + 1, by go_num, by omega, by omega, HST.out⟩
                  case round =>
                    obtain ⟨m, rfl, hm1, hm2, ha⟩ := hrel
                    have HA := Lib.hid ha
                    clear ha
                    have hexit : (∀ g : m < s.size, alnB s[m] = false) → (s.data.toList.drop k).takeWhile alnB = (s.extract k m).data.toList := fun g => tw_at alnB s k m (by omega) hm2 HA.out g
                    have HE := Lib.hid hexit
                    clear hexit
                    have hin : ∀ g : m < s.size, alnB s[m] = true → ∀ (j : Nat) (h : j < s.size), k ≤ j → j < m + 1 → alnB s[j] = true := fun g g2 j h h1 h2 => by
                      by_cases e : j = m
                      · subst e; exact g2
                      · exact HA.out j h h1 (by omega)
                    have HIN := Lib.hid hin
                    clear hin
                    by_cases hml : m < s.size
                    · have c3 := fun W => small_any s[m] W
                      have c4 := fun W => figure_any s[m] W
                      cases b3 : lowB s[m] with
                      | true =>
                        have hn := HIN.out hml (by unfold alnB; rw [b3]; rfl)
                        rw [b3] at c3
                        have C3 := Lib.hid c3
                        have HN := Lib.hid hn
                        clear c3 c4 b3 hn
                        go_wp2_with (first | (go_at_call 23; (with_reducible refine (C3.out _).mono ?_); rintro e w1 ⟨rfl, rfl⟩))
                        go_round
                        case rel => exact ⟨m + 1, by go_num, by omega, by omega, HN.out⟩
                        case measure => simp [intOf]; omega
                      | false =>
                        rw [b3] at c3
                        cases b4 : digB s[m] with
                        | true =>
                          have hn := HIN.out hml (by unfold alnB; rw [b3, b4]; rfl)
                          rw [b4] at c4
                          have C3 := Lib.hid c3
                          have C4 := Lib.hid c4
                          have HN := Lib.hid hn
                          clear c3 c4 b3 b4 hn
                          go_wp2_with (first | (go_at_call 23; (with_reducible refine (C3.out _).mono ?_); rintro e w1 ⟨rfl, rfl⟩) | (go_at_call 21; (with_reducible refine (C4.out _).mono ?_); rintro e w1 ⟨rfl, rfl⟩))
                          go_round
                          case rel => exact ⟨m + 1, by go_num, by omega, by omega, HN.out⟩
                          case measure => simp [intOf]; omega
                        | false =>
                          have hD := HE.out fun _ => (by unfold alnB; rw [b3, b4]; rfl)
                          rw [b4] at c4
                          have C3 := Lib.hid c3
                          have C4 := Lib.hid c4
                          clear c3 c4 b3 b4
                          have hT := word_tells s k m (by omega) hm2
                          rw [← hD, ← HF.out] at hT
                          have hsub : IntKind.i64.wrap ((m : Int) - k) = (m : Int) - k := IntWalk.i64_in _ (by omega)
                          obtain ⟨x, hx⟩ : ∃ x : Int, (if 10 < m - k then 1 else 0) = x := ⟨_, rfl⟩
                          rw [hx] at hT
                          have HT := Lib.hid hT
                          clear hT hD HE
                          by_cases h10 : 10 < m - k
                          · rw [if_pos h10] at hx
                            subst hx
                            have v1 : decide ((10 : Int) < (m : Int) - k) = true := decide_eq_true (by omega)
                            go_wp2_with (first | (go_at_call 23; (with_reducible refine (C3.out _).mono ?_); rintro e w1 ⟨rfl, rfl⟩) | (go_at_call 21; (with_reducible refine (C4.out _).mono ?_); rintro e w1 ⟨rfl, rfl⟩))
                            go_meet
                            exact ⟨2, 0, 0, _, m, ⟨#[]⟩, rfl, rfl, rfl, rfl, PInv.plain HT.out hm2⟩
                          · rw [if_neg h10] at hx
                            subst hx
                            have v1 : decide ((10 : Int) < (m : Int) - k) = false := decide_eq_false (by omega)
                            go_wp2_with (first | (go_at_call 23; (with_reducible refine (C3.out _).mono ?_); rintro e w1 ⟨rfl, rfl⟩) | (go_at_call 21; (with_reducible refine (C4.out _).mono ?_); rintro e w1 ⟨rfl, rfl⟩))
                            go_meet
                            exact ⟨2, 0, 0, _, m, ⟨#[]⟩, rfl, rfl, rfl, rfl, PInv.plain HT.out hm2⟩
                    · have hD := HE.out fun g => absurd g hml
                      have C3 := Lib.hid True.intro
                      have C4 := Lib.hid True.intro
                      have hT := word_tells s k m (by omega) hm2
                      rw [← hD, ← HF.out] at hT
                      have hsub : IntKind.i64.wrap ((m : Int) - k) = (m : Int) - k := IntWalk.i64_in _ (by omega)
                      obtain ⟨x, hx⟩ : ∃ x : Int, (if 10 < m - k then 1 else 0) = x := ⟨_, rfl⟩
                      rw [hx] at hT
                      have HT := Lib.hid hT
                      clear hT hD HE
                      by_cases h10 : 10 < m - k
                      · rw [if_pos h10] at hx
                        subst hx
                        have v1 : decide ((10 : Int) < (m : Int) - k) = true := decide_eq_true (by omega)
                        go_wp2_with (first | (go_at_call 23; (with_reducible refine (C3.out _).mono ?_); rintro e w1 ⟨rfl, rfl⟩) | (go_at_call 21; (with_reducible refine (C4.out _).mono ?_); rintro e w1 ⟨rfl, rfl⟩))
                        go_meet
                        exact ⟨2, 0, 0, _, m, ⟨#[]⟩, rfl, rfl, rfl, rfl, PInv.plain HT.out hm2⟩
                      · rw [if_neg h10] at hx
                        subst hx
                        have v1 : decide ((10 : Int) < (m : Int) - k) = false := decide_eq_false (by omega)
                        go_wp2_with (first | (go_at_call 23; (with_reducible refine (C3.out _).mono ?_); rintro e w1 ⟨rfl, rfl⟩) | (go_at_call 21; (with_reducible refine (C4.out _).mono ?_); rintro e w1 ⟨rfl, rfl⟩))
                        go_meet
                        exact ⟨2, 0, 0, _, m, ⟨#[]⟩, rfl, rfl, rfl, rfl, PInv.plain HT.out hm2⟩
              | false =>
                rw [b2, if_neg (by decide)] at hf
                rw [b2] at c2
                have u34 := byte_is s[k] 34 (by decide)
                rw [show ((34 : Nat) : Int) = 34 from rfl, show (UInt8.ofNat 34) = 34 from rfl] at u34
                by_cases h34 : s[k] = 34
                · rw [if_pos h34] at hf
                  as_aux_lemma =>
                    obtain ⟨wo, rfl⟩ : ∃ wo : World, wo = wr := ⟨_, rfl⟩
                    have t34 : ((s[k].toNat : Int) == 34) = true := by rw [u34]; exact decide_eq_true h34
                    have HF := Lib.hid hf
                    have C1 := Lib.hid c1
                    have C2 := Lib.hid c2
                    have hq0 : QR wo s k (k + 1) 3 ⟨#[]⟩ (wo.alloc (.cells #[.int .i64 3, .int .i64 k, .string ⟨#[]⟩, .int .i64 3, .int .i64 0, .string ⟨#[]⟩] 42)) := QR.start hlt
                    have HQ0 := Lib.hid hq0
                    clear hf c1 c2 b1 b2 u34 h34 hq0
                    go_wp2_with (first | (go_at_call 21; (with_reducible refine (C1.out _).mono ?_); rintro e w1 ⟨rfl, rfl⟩) | (go_at_call 23; (with_reducible refine (C2.out _).mono ?_); rintro e w1 ⟨rfl, rfl⟩))
                    go_loopw [8, 10, 13] (fun s8 s10 _ wx => ∃ (m : Nat) (e : Int) (acc : ByteArray), s8 = .int .i64 m ∧ s10 = .int .i64 e ∧ QR wo s k m e acc wx) (fun s8 _ _ _ => s.size - (intOf s8).toNat)
                    case atStart => exact ⟨k + 1, 3, ⟨#[]⟩, by go_num, rfl, HQ0.out⟩
                    case round =>
                      obtain ⟨m, e, acc, rfl, rfl, hQ⟩ := hrel
                      have hmh := hQ.hi
                      have hml := hQ.lo
                      have hal := hQ.len
                      have q5 := hQ.c5
                      have q5' : wr.cell? ⟨wo.heap.size, 3 + 2, none⟩ = some (.string acc) := hQ.c5
                      have f5 := hQ.free 5
                      have hqlt := hQ.lt
                      have hcase : e = 3 ∨ e = 0 := by rcases hQ.st with ⟨h, _⟩ | ⟨h, _⟩ <;> simp [h]
                      have HQ := Lib.hid hQ
                      clear hQ
                      by_cases hlm : m < s.size
                      · rcases hcase with rfl | rfl
                        · by_cases g34 : s[m] = 34
                          · have v1 : ((s[m].toNat : Int) == 34) = true := by rw [g34]; rfl
                            have hN := HQ.out.done hlm g34
                            have HN := Lib.hid hN
                            clear hN g34
                            go_wp2_with fail
                            go_roundw
                            case rel => exact ⟨m + 1, 0, acc, by go_num, rfl, HN.out⟩
                            case measure => simp [intOf]; omega
                          · have v1 : ((s[m].toNat : Int) == 34) = false := by have := byte_is s[m] 34 (by decide); rw [show ((34 : Nat) : Int) = 34 from rfl] at this; rw [this]; exact decide_eq_false g34
                            by_cases g92 : s[m] = 92
                            · have v2 : ((s[m].toNat : Int) == 92) = true := by rw [g92]; rfl
                              by_cases hl2 : m + 1 < s.size
                              · have hq := quo_esc s m hl2 g92
                                have v3 : ((m : Int) + 1 == s.size) = false := by rw [beq_eq_false_iff_ne]; omega
                                have u1 := byte_is s[m + 1] 34 (by decide)
                                have u2 := byte_is s[m + 1] 92 (by decide)
                                rw [show ((34 : Nat) : Int) = 34 from rfl] at u1
                                rw [show ((92 : Nat) : Int) = 92 from rfl] at u2
                                obtain ⟨x1, x2⟩ := ext1 s (m + 1) hl2
                                have i1 : (0 : Int) ≤ (m : Int) + 1 := by omega
                                have i2 : (m : Int) + 1 ≤ (m : Int) + 1 + 1 := by omega
                                have i3 : (m : Int) + 1 + 1 ≤ s.size := by omega
                                have i4 : IntKind.i64.wrap ((m : Int) + 1 + 1) = (m : Int) + 1 + 1 := IntWalk.i64_in _ (by omega)
                                have i5 : ((m : Int) + 1 + 1).toNat = m + 1 + 1 := by omega
                                have i6 : ((m : Int) + 1).toNat = m + 1 := by omega
                                by_cases g1 : s[m + 1] = 34 ∨ s[m + 1] = 92
                                · have hN := HQ.out.step (j := m + 2) (x := s.extract (m + 1) (m + 1 + 1)) (by omega) (by omega) x1 (by rw [hq, if_pos g1, show m + 2 - m = 2 by omega])
                                  have v4 : ((s[m + 1].toNat : Int) != 34) = false ∨ (((s[m + 1].toNat : Int) != 34) = true ∧ ((s[m + 1].toNat : Int) != 92) = false) := by
                                    by_cases a : s[m + 1] = 34
                                    · left; unfold bne; rw [u1]; exact congrArg not (decide_eq_true a)
                                    · right
                                      refine ⟨by unfold bne; rw [u1]; exact congrArg not (decide_eq_false a), ?_⟩
                                      unfold bne; rw [u2]; exact congrArg not (decide_eq_true (g1.resolve_left a))
                                  have HN := Lib.hid hN
                                  clear hN g1 u1 u2 x1 hq g92 g34
                                  rcases v4 with v4 | ⟨v4, v5⟩
                                  all_goals
                                    go_wp2_with fail
                                    go_region
                                    go_wp2_with fail
                                    go_roundw
                                    case rel => exact ⟨m + 2, 3, _, by go_num, rfl, HN.out⟩
                                    case measure => simp [intOf]; omega
                                · have v4 : ((s[m + 1].toNat : Int) != 34) = true := by unfold bne; rw [u1]; exact congrArg not (decide_eq_false fun a => g1 (.inl a))
                                  have v5 : ((s[m + 1].toNat : Int) != 92) = true := by unfold bne; rw [u2]; exact congrArg not (decide_eq_false fun a => g1 (.inr a))
                                  have hP := HQ.out.wrong HF.out (by rw [hq, if_neg g1])
                                  have HP := Lib.hid hP
                                  clear hP g1 u1 u2 x1 hq g92 g34
                                  go_wp2_with fail
                                  go_meet
                                  exact ⟨3, 3, 0, 3, m, acc, rfl, rfl, rfl, rfl, HP.out⟩
                              · have v3 : ((m : Int) + 1 == s.size) = true := by rw [beq_iff_eq]; omega
                                have hP := HQ.out.wrong HF.out (quo_last s m (by omega) g34)
                                have HP := Lib.hid hP
                                clear hP g92 g34
                                go_wp2_with fail
                                go_meet
                                exact ⟨3, 3, 0, 3, m, acc, rfl, rfl, rfl, rfl, HP.out⟩
                            · have v2 : ((s[m].toNat : Int) == 92) = false := by have := byte_is s[m] 92 (by decide); rw [show ((92 : Nat) : Int) = 92 from rfl] at this; rw [this]; exact decide_eq_false g92
                              by_cases hr : s[m].toNat < 32 ∨ 126 < s[m].toNat
                              · have hP := HQ.out.wrong HF.out (quo_bad s m hlm g34 hr)
                                have HP := Lib.hid hP
                                have hr2 : decide ((s[m].toNat : Int) < 32) = true ∨ (decide ((s[m].toNat : Int) < 32) = false ∧ decide ((126 : Int) < s[m].toNat) = true) := by
                                  by_cases a : s[m].toNat < 32
                                  · exact .inl (decide_eq_true (by omega))
                                  · exact .inr ⟨decide_eq_false (by omega), decide_eq_true (by omega)⟩
                                clear hP g92 g34 hr
                                rcases hr2 with v3 | ⟨v3, v4⟩
                                all_goals
                                  go_wp2_with fail
                                  go_meet
                                  exact ⟨3, 3, 0, 3, m, acc, rfl, rfl, rfl, rfl, HP.out⟩
                              · obtain ⟨x1, x2⟩ := ext1 s m hlm
                                have hN := HQ.out.step (j := m + 1) (x := s.extract m (m + 1)) (by omega) (by omega) x1 (by rw [quo_one s m hlm g34 hr g92, show m + 1 - m = 1 by omega])
                                have HN := Lib.hid hN
                                have v3 : decide ((s[m].toNat : Int) < 32) = false := decide_eq_false (by omega)
                                have v4 : decide ((126 : Int) < s[m].toNat) = false := decide_eq_false (by omega)
                                have i1 : (0 : Int) ≤ (m : Int) := by omega
                                have i2 : (m : Int) ≤ (m : Int) + 1 := by omega
                                have i3 : (m : Int) + 1 ≤ s.size := by omega
                                have i4 : IntKind.i64.wrap ((m : Int) + 1) = (m : Int) + 1 := IntWalk.i64_in _ (by omega)
                                have i5 : ((m : Int) + 1).toNat = m + 1 := by omega
                                clear hN g92 g34 hr x1
                                go_wp2_with fail
                                go_region
                                go_wp2_with fail
                                go_roundw
                                case rel => exact ⟨m + 1, 3, _, by go_num, rfl, HN.out⟩
                                case measure => simp [intOf]; omega
                        · by_cases h40 : 40 < acc.size
                          · have hP := HQ.out.good HF.out 1 (by rw [if_pos h40])
                            have HP := Lib.hid hP
                            clear hP
                            go_wp2_with fail
                            go_meet
                            exact ⟨3, 3, 0, 1, m, acc, rfl, rfl, rfl, rfl, HP.out⟩
                          · have hP := HQ.out.good HF.out 0 (by rw [if_neg h40])
                            have HP := Lib.hid hP
                            clear hP
                            go_wp2_with fail
                            go_meet
                            exact ⟨3, 3, 0, 0, m, acc, rfl, rfl, rfl, rfl, HP.out⟩
                      · rcases hcase with rfl | rfl
                        · have hP := HQ.out.wrong HF.out (quo_out s m (by omega))
                          have HP := Lib.hid hP
                          clear hP
                          go_wp2_with fail
                          go_meet
                          exact ⟨3, 3, 0, 3, m, acc, rfl, rfl, rfl, rfl, HP.out⟩
                        · by_cases h40 : 40 < acc.size
                          · have hP := HQ.out.good HF.out 1 (by rw [if_pos h40])
                            have HP := Lib.hid hP
                            clear hP
                            go_wp2_with fail
                            go_meet
                            exact ⟨3, 3, 0, 1, m, acc, rfl, rfl, rfl, rfl, HP.out⟩
                          · have hP := HQ.out.good HF.out 0 (by rw [if_neg h40])
                            have HP := Lib.hid hP
                            clear hP
                            go_wp2_with fail
                            go_meet
                            exact ⟨3, 3, 0, 0, m, acc, rfl, rfl, rfl, rfl, HP.out⟩
                · rw [if_neg h34] at hf
                  as_aux_lemma =>
                    have t34 : ((s[k].toNat : Int) == 34) = false := by rw [u34]; exact decide_eq_false h34
                    have HF := Lib.hid hf
                    have C1 := Lib.hid c1
                    have C2 := Lib.hid c2
                    have c5 := fun W => among_any s[k] ⟨#[60, 61, 43, 45, 42, 47, 37, 38, 40, 41, 44]⟩ W (by decide)
                    rw [sgn_among] at c5
                    obtain ⟨b5, hb5⟩ : ∃ b, sgnB s[k] = b := ⟨_, rfl⟩
                    rw [hb5] at c5
                    have C5 := Lib.hid c5
                    have u33 := byte_is s[k] 33 (by decide)
                    rw [show ((33 : Nat) : Int) = 33 from rfl, show (UInt8.ofNat 33) = 33 from rfl] at u33
                    have h335 : s[k] = 33 → b5 = false := fun g => by rw [← hb5, g]; decide
                    have i1 : (0 : Int) ≤ (k : Int) := by omega
                    have i2 : (k : Int) ≤ (k : Int) + 1 + 1 := by omega
                    have i4 : IntKind.i64.wrap ((k : Int) + 1 + 1) = (k : Int) + 1 + 1 := IntWalk.i64_in _ (by omega)
                    have i5 : ((k : Int) + 1 + 1).toNat = k + 1 + 1 := by omega
                    clear hf c1 c2 c5 b1 b2 u34 h34
                    by_cases hl2 : k + 1 < s.size
                    · have i3 : (k : Int) + 1 + 1 ≤ s.size := by omega
                      have hx := ext2 s k hl2
                      have va := eqb_of (s.extract k (k + 1 + 1)) [60, 61]
                      have vb := eqb_of (s.extract k (k + 1 + 1)) [33, 61]
                      rw [hx] at va vb
                      by_cases ga : s[k] = 60 ∧ s[k + 1] = 61
                      · have va' : ((s.extract k (k + 1 + 1)).toList == [60, 61]) = true := by rw [va]; exact decide_eq_true (by rw [ga.1, ga.2])
                        have hT := sgn_two hl2 (.inl ga.1) ga.2
                        rw [← HF.out] at hT
                        have HT := Lib.hid hT
                        clear hT va vb ga hx hb5 h335 u33
                        go_wp2_with (first | (go_at_call 21; (with_reducible refine (C1.out _).mono ?_); rintro e w1 ⟨rfl, rfl⟩) | (go_at_call 23; (with_reducible refine (C2.out _).mono ?_); rintro e w1 ⟨rfl, rfl⟩))
                        go_meet
                        exact ⟨4, 0, 0, 0, k + 2, ⟨#[]⟩, rfl, by go_num, rfl, rfl, PInv.plain HT.out (by omega)⟩
                      · have va' : ((s.extract k (k + 1 + 1)).toList == [60, 61]) = false := by rw [va]; exact decide_eq_false (by simpa using ga)
                        by_cases gb : s[k] = 33 ∧ s[k + 1] = 61
                        · have vb' : ((s.extract k (k + 1 + 1)).toList == [33, 61]) = true := by rw [vb]; exact decide_eq_true (by rw [gb.1, gb.2])
                          have hT := sgn_two hl2 (.inr gb.1) gb.2
                          rw [← HF.out] at hT
                          have HT := Lib.hid hT
                          clear hT va vb ga gb hx hb5 h335 u33
                          go_wp2_with (first | (go_at_call 21; (with_reducible refine (C1.out _).mono ?_); rintro e w1 ⟨rfl, rfl⟩) | (go_at_call 23; (with_reducible refine (C2.out _).mono ?_); rintro e w1 ⟨rfl, rfl⟩))
                          go_meet
                          exact ⟨4, 0, 0, 0, k + 2, ⟨#[]⟩, rfl, by go_num, rfl, rfl, PInv.plain HT.out (by omega)⟩
                        · have vb' : ((s.extract k (k + 1 + 1)).toList == [33, 61]) = false := by rw [vb]; exact decide_eq_false (by simpa using gb)
                          have hT := sgn_one hlt (fun g => by
                            obtain ⟨g1 | g1, _, g2⟩ := g
                            · exact ga ⟨g1, g2⟩
                            · exact gb ⟨g1, g2⟩) b5 hb5
                          rw [← HF.out] at hT
                          have HT := Lib.hid hT
                          by_cases g33 : s[k] = 33
                          · have hb := h335 g33
                            subst hb
                            have t33 : ((s[k].toNat : Int) == 33) = true := by rw [u33]; exact decide_eq_true g33
                            clear hT va vb ga gb hx hb5 h335 u33 g33
                            go_wp2_with (first | (go_at_call 21; (with_reducible refine (C1.out _).mono ?_); rintro e w1 ⟨rfl, rfl⟩) | (go_at_call 23; (with_reducible refine (C2.out _).mono ?_); rintro e w1 ⟨rfl, rfl⟩))
                            go_meet
                            exact ⟨4, 0, 0, 3, k + 1, ⟨#[]⟩, rfl, by go_num, rfl, rfl, PInv.plain HT.out (by omega)⟩
                          · have t33 : ((s[k].toNat : Int) == 33) = false := by rw [u33]; exact decide_eq_false g33
                            clear hT va vb ga gb hx hb5 h335 u33 g33
                            cases b5
                            all_goals
                              go_wp2_with (first | (go_at_call 21; (with_reducible refine (C1.out _).mono ?_); rintro e w1 ⟨rfl, rfl⟩) | (go_at_call 23; (with_reducible refine (C2.out _).mono ?_); rintro e w1 ⟨rfl, rfl⟩) | (go_at_call 24; (with_reducible refine (C5.out _).mono ?_); rintro e w1 ⟨rfl, rfl⟩))
                              go_meet
                            all_goals exact ⟨4, 0, 0, _, k + 1, ⟨#[]⟩, rfl, by go_num, rfl, rfl, PInv.plain HT.out (by omega)⟩
                    · have hT := sgn_one hlt (fun g => by obtain ⟨_, g1, _⟩ := g; exact hl2 g1) b5 hb5
                      have hx := True.intro
                      have va := True.intro
                      have vb := True.intro
                      have ga := True.intro
                      have gb := True.intro
                      rw [← HF.out] at hT
                      have HT := Lib.hid hT
                      by_cases g33 : s[k] = 33
                      · have hb := h335 g33
                        subst hb
                        have t33 : ((s[k].toNat : Int) == 33) = true := by rw [u33]; exact decide_eq_true g33
                        clear hT va vb ga gb hx hb5 h335 u33 g33
                        go_wp2_with (first | (go_at_call 21; (with_reducible refine (C1.out _).mono ?_); rintro e w1 ⟨rfl, rfl⟩) | (go_at_call 23; (with_reducible refine (C2.out _).mono ?_); rintro e w1 ⟨rfl, rfl⟩))
                        go_meet
                        exact ⟨4, 0, 0, 3, k + 1, ⟨#[]⟩, rfl, by go_num, rfl, rfl, PInv.plain HT.out (by omega)⟩
                      · have t33 : ((s[k].toNat : Int) == 33) = false := by rw [u33]; exact decide_eq_false g33
                        clear hT va vb ga gb hx hb5 h335 u33 g33
                        cases b5
                        all_goals
                          go_wp2_with (first | (go_at_call 21; (with_reducible refine (C1.out _).mono ?_); rintro e w1 ⟨rfl, rfl⟩) | (go_at_call 23; (with_reducible refine (C2.out _).mono ?_); rintro e w1 ⟨rfl, rfl⟩) | (go_at_call 24; (with_reducible refine (C5.out _).mono ?_); rintro e w1 ⟨rfl, rfl⟩))
                          go_meet
                        all_goals exact ⟨4, 0, 0, _, k + 1, ⟨#[]⟩, rfl, by go_num, rfl, rfl, PInv.plain HT.out (by omega)⟩
          case rest =>
            obtain ⟨kd, vk, n, e, en, t, rfl, rfl, rfl, rfl, hP⟩ := hcut
            have hlt2 := hP.lt
            have hhi := hP.hi
            have ho := own_below HI.out.own hP.below
            have hL := HI.out.own.lt
            have hbw : Below w.heap.size w wc := HI.out.below.trans (hP.below.mono HI.out.below.size)
            have q0 := hP.c0
            have q1 := hP.c1
            have q2 := hP.c2
            have q3 := hP.c3
            have q4 := hP.c4
            have q5 := hP.c5
            have f2 := hP.free 2
            have ht := hP.tells
            have hbs := HI.out.below.size
            have HL := Lib.hid hL
            clear hP hL
            cases hf : firstF (s.data.toList.drop k) with
            | bad q =>
              rw [hf] at ht
              obtain ⟨rfl, hq⟩ := ht
              have hR := HI.out.bad (by omega) hlt H32.out hf
              have HR := Lib.hid hR
              have t2 : (e != 0) = true := bne_iff_ne.2 hq
              clear hR hf hq
              go_wp2_with fail
              go_ret3
              exact Out.mk_ HR.out rfl (World.ownsRow_nil _ _ _ _) hbw
            | tok T =>
              rw [hf] at ht
              obtain ⟨rfl, g1, g2, g3, g4, g5⟩ := ht
              have hl := first_len hf
              rw [List.length_drop, len_size] at hl
              have g6 : (s.extract k en).data.toList = (s.data.toList.drop k).take T.len := by
                rw [Lib.extract_data, show en - k = T.len by omega]
              have hus : k + (s.extract k en).size = en := by simp; omega
              have hcell := tkC_mk (k := k) g1 g6 g3 g4 g5
              obtain ⟨u, hu⟩ : ∃ u, s.extract k en = u := ⟨_, rfl⟩
              have hken : (k : Int) ≤ en := by omega
              have heni : (en : Int) ≤ s.size := by omega
              have hk0 : (0 : Int) ≤ k := by omega
              rw [hu] at g6 hus hcell
              have ho1 : (wc.setCell ⟨wr.heap.size, 2, none⟩ (.string u)).ownsRow w.heap.size 42 6 _ acc.length (tksC acc) := own_far ho _ (fun g hg e => by have := (HL.out g hg).2; rw [e] at this; exact Nat.lt_irrefl _ this)
              have HF := Lib.hid hf
              have HG2 := Lib.hid g6
              have HCell := Lib.hid hcell
              have HUS := Lib.hid hus
              have hkl : k < en := by omega
              clear hf g1 g2 g3 g4 g5 g6 hcell hus ho hl
              go_wp2_with (at_builtin; refine wpList_append_own _ rfl _ _ 32 rfl w.heap.size 42 i0 (.agg #[.int .i64 0, .int .i64 0, .string ⟨#[]⟩, .int .i64 0, .int .i64 0, .string ⟨#[]⟩]) 6 64 Tryz.underlying32 hi hz0 hz1 hz2 rfl (by decide) _ _ _ rfl (ho1.alloc _) ⟨wc.heap.size, 0, none⟩ 1 1 [.int .i64 kd, .int .i64 (k : Int), .string u, .int .i64 vk, .int .i64 n, .string t] rfl rfl ?c1 ?c2 ?c3 ?c4 ?c5 ?_)
              case c1 =>
                intro j y hj
                have hnew := heap_alloc_new (wc.setCell ⟨wr.heap.size, 2, none⟩ (.string u)) (.cells #[.int .i64 kd, .int .i64 (k : Int), .string u, .int .i64 vk, .int .i64 n, .string t] 42)
                rw [sz_set] at hnew
                rw [show (⟨wc.heap.size, 0, none⟩ : Addr).add j = ⟨wc.heap.size, j, none⟩ by unfold Addr.add; split <;> simp_all, Lib.cell_of_heap hnew, ← hj]
                simp
              case c2 => intro y hy; simp at hy; rcases hy with rfl | rfl | rfl | rfl | rfl | rfl <;> rfl
              case c3 => unfold maxLen; omega
              case c4 => omega
              case c5 => simp; omega
              intro v' w3 hown3 hgrow _
              rw [HCell.out, tksC_snoc] at hown3
              have hb3 : Below w.heap.size w w3 := ((hbw.setCell (p := ⟨wr.heap.size, 2, none⟩) hbs _).alloc (by simp; omega) _).grown hgrow (by simp; omega) (fun g hg => (HL.out g hg).1)
              have hN := HI.out.tok hlt H32.out HF.out HG2.out hown3 hb3
              rw [HUS.out] at hN
              have HN := Lib.hid hN
              clear hN hown3 hgrow hb3
              go_wp2
              go_roundw
              case rel => exact ⟨en, _, rfl, HN.out⟩
              case measure => simp [intOf]; omega
      · have hR := HI.out.end_ (by omega) hlt
        have HR := Lib.hid hR
        clear hR
        go_wp2_with fail
        go_ret3
        exact Out.mk_ HR.out rfl HI.out.own HI.out.below
end Go.Proofs.YtjjchbafobcofaaGreatDoor.LexRef
