/- The reference's ExprSize, argsOf, partFault, ExprFault. -/
import Derived.Test.YtdlfhldboagbeaaGreatDoorExCheck
import Derived.Test.YtdlfhldboagbeaaGreatDoorValue
import Derived.Deep.DeepCutAuto
import Derived.Deep.CutBlock
namespace Go.Proofs.YtdlfhldboagbeaaGreatDoor.ExR
open Go.RowKit
open ValM LexM ExM Kit ExL ExN
set_option linter.unusedVariables false

set_option maxHeartbeats 1000000 in
theorem refSize_any : ∀ (x : Ex) (d : Nd) (A : Option Addr) (n c : Nat) (w : World), x.nodes ≤ 1000000000000 → Is w x d A n →
    Calls Tryz.prog 123 #[.agg #[.int .i64 d.op, .int .i64 d.k, .int .i64 d.n, .string d.s, .string d.nm, .slice A n c]] w fun e w' => e = .returned (.tuple #[.int .i64 (x.nodes : Int), .int .i64 (x.depth : Int)]) ∧ Below w.heap.size w w' := by
  refine Ex.ind fun d l ih => ?_
  intro d' A n c w hx his
  rw [is_mk] at his
  obtain ⟨rfl, rfl, ⟨hm, _⟩, his⟩ := his
  have hlen := len_nodesL l
  have hdn := depth_le_nodes (Ex.mk d' l)
  rw [depth_mk] at hdn
  rw [nodes_mk] at hx hdn
  obtain ⟨N, hN⟩ : ∃ N, nodesL l = N := ⟨_, rfl⟩
  obtain ⟨D, hD⟩ : ∃ D, depthL l = D := ⟨_, rfl⟩
  have e1 : ((Ex.mk d' l).nodes : Int) = ((1 + N : Nat) : Int) := by rw [nodes_mk, hN]
  have e2 : ((Ex.mk d' l).depth : Int) = ((D + 1 : Nat) : Int) := by rw [depth_mk, hD]
  rw [e1, e2]
  rw [hN] at hx hdn hlen
  rw [hD] at hdn
  clear e1 e2
  have HN := Lib.hid hN
  have HD := Lib.hid hD
  have HS := Lib.hid his
  have HI := Lib.hid ih
  clear hN hD his ih
  unfold maxLen at hm
  go_enter Tryz.func123, Tryz.ntmps123
  go_wp2_with fail
  go_loopw [4, 5, 6] (fun cnt dp i wr => ∃ (k p q : Nat), i = .int .i64 k ∧ k ≤ l.length ∧ Below (w.heap.size + 1) (w.alloc (.cells #[.int .i64 d'.op, .int .i64 d'.k, .int .i64 d'.n, .string d'.s, .string d'.nm, .slice A l.length c] 48)) wr ∧ cnt = .int .i64 (p : Int) ∧ dp = .int .i64 (q : Int) ∧ p = 1 + nodesL (l.take k) ∧ q = depthL (l.take k)) (fun _ _ i _ => l.length - (intOf i).toNat)
  case atStart => exact ⟨0, 1, 0, rfl, Nat.zero_le _, Below.refl _ _, rfl, rfl, by simp [nodesL_nil], by simp [depthL_nil]⟩
  case round =>
    obtain ⟨k, p, q, rfl, hk, hb, rfl, rfl, hp, hq⟩ := hrel
    have hpb : p ≤ 1 + N := by rw [hp, ← HN.out]; have := nodesL_take l k; omega
    have hqb : q ≤ D := by rw [hq, ← HD.out]; exact depthL_take l k
    have HP := Lib.hid hp
    have HQ := Lib.hid hq
    clear hp hq
    have hcell := hb.cell (p := ⟨w.heap.size, 5, none⟩) (by simp)
    have hbw : Below w.heap.size w wr := (b_new w _).trans (hb.mono (by omega))
    by_cases hlt : k < l.length
    · obtain ⟨a, d2, B, m, c2, rfl, hat, hi⟩ := HS.out k hlt
      obtain ⟨h0, h1, h2, h3, h4, h5⟩ := hat.below hbw
      have hi2 := hi.below hbw
      have hxn : l[k].nodes ≤ N := by rw [← HN.out]; exact nodes_mem (List.getElem_mem _)
      have hxd : l[k].depth ≤ D := by rw [← HD.out]; exact depth_mem (List.getElem_mem _)
      obtain ⟨s, hs⟩ : ∃ s, l[k].nodes = s := ⟨_, rfl⟩
      obtain ⟨t, ht⟩ : ∃ t, l[k].depth = t := ⟨_, rfl⟩
      have hp2 : p + s = 1 + nodesL (l.take (k + 1)) := by rw [nodesL_at l k hlt, HP.out, hs]; omega
      have hq2 : max q t = depthL (l.take (k + 1)) := by rw [depthL_at l k hlt, HQ.out, ht]
      have hpb2 : p + s ≤ 1 + N := by rw [hp2, ← HN.out]; have := nodesL_take l (k + 1); omega
      have hc := HI.out _ (List.getElem_mem hlt) d2 B m c2 _ (by omega) hi2
      rw [hs, ht] at hc
      rw [hs] at hxn
      rw [ht] at hxd
      have HC := Lib.hid hc
      have HP2 := Lib.hid hp2
      have HQ2 := Lib.hid hq2
      have HB := Lib.hid hb
      clear hc hp2 hq2 hs ht hi hi2 hat hb hbw
      go_wp2_with fail
      refine HC.out.mono ?_; rintro e w2 ⟨rfl, hb2⟩
      have hs2 := HB.out.size
      simp only [World.size_alloc] at hs2
      have hb3 : Below (w.heap.size + 1) (w.alloc (.cells #[.int .i64 d'.op, .int .i64 d'.k, .int .i64 d'.n, .string d'.s, .string d'.nm, .slice (some a) l.length c] 48)) w2 := HB.out.trans (hb2.mono hs2)
      have HB3 := Lib.hid hb3
      clear hb2 hb3 hcell
      by_cases hqt : q < t
      · have e3 : max q t = t := Nat.max_eq_right (by omega)
        rw [e3] at HQ2
        have t1 : (q : Int) < (t : Int) := by omega
        clear e3
        go_wp2_with fail
        go_roundw
        case rel => exact ⟨k + 1, p + s, t, by go_num, by omega, HB3.out, by go_num, rfl, HP2.out, HQ2.out⟩
        case measure => simp [intOf]; omega
      · have e3 : max q t = q := Nat.max_eq_left (by omega)
        rw [e3] at HQ2
        have t1 : ¬ (q : Int) < (t : Int) := by omega
        clear e3
        go_wp2_with fail
        go_roundw
        case rel => exact ⟨k + 1, p + s, q, by go_num, by omega, HB3.out, by go_num, rfl, HP2.out, HQ2.out⟩
        case measure => simp [intOf]; omega
    · have hkl : k = l.length := by omega
      have hp2 : p = 1 + N := by rw [HP.out, hkl, List.take_length, HN.out]
      have hq2 : q = D := by rw [HQ.out, hkl, List.take_length, HD.out]
      have HP2 := Lib.hid hp2
      have HQ2 := Lib.hid hq2
      clear hkl hp2 hq2
      go_wp2_with fail
      go_ret2
      exact ⟨by rw [HP2.out, HQ2.out]; rfl, hbw⟩

theorem argsOf_any (op : Int) (w : World) : Calls Tryz.prog 134 #[.int .i64 op] w fun e w' => e = .returned (.int .i64 (arity op : Int)) ∧ w = w' := by
  by_cases h1 : op = 1
  · subst h1
    go_enter Tryz.func134, Tryz.ntmps134
    go_wp2
    go_ret
    exact ⟨rfl, rfl⟩
  by_cases h2 : op = 2
  · subst h2
    go_enter Tryz.func134, Tryz.ntmps134
    go_wp2
    go_ret
    exact ⟨rfl, rfl⟩
  by_cases h3 : op = 3
  · subst h3
    go_enter Tryz.func134, Tryz.ntmps134
    go_wp2
    go_ret
    exact ⟨rfl, rfl⟩
  by_cases h4 : op = 4
  · subst h4
    go_enter Tryz.func134, Tryz.ntmps134
    go_wp2
    go_ret
    exact ⟨rfl, rfl⟩
  by_cases h5 : op = 18
  · subst h5
    go_enter Tryz.func134, Tryz.ntmps134
    go_wp2
    go_ret
    exact ⟨rfl, rfl⟩
  by_cases h6 : op = 17
  · subst h6
    go_enter Tryz.func134, Tryz.ntmps134
    go_wp2
    go_ret
    exact ⟨rfl, rfl⟩
  have e : arity op = 2 := by unfold arity; rw [if_neg (by omega), if_neg (by omega), if_neg (by omega)]
  rw [e]
  have t1 : (op == 1) = false := beq_eq_false_iff_ne.2 h1
  have t2 : (op == 2) = false := beq_eq_false_iff_ne.2 h2
  have t3 : (op == 3) = false := beq_eq_false_iff_ne.2 h3
  have t4 : (op == 4) = false := beq_eq_false_iff_ne.2 h4
  have t5 : (op == 18) = false := beq_eq_false_iff_ne.2 h5
  have t6 : (op == 17) = false := beq_eq_false_iff_ne.2 h6
  clear h1 h2 h3 h4 h5 h6 e
  go_enter Tryz.func134, Tryz.ntmps134
  go_wp2
  go_ret
  exact ⟨rfl, rfl⟩

/-- A node is right, as the reference says it. -/
theorem good_const {k n : Int} {s nm : ByteArray} {m : Nat} : nodeE ⟨1, k, n, s, nm⟩ m = if (decide (m = 0) && nm.data.toList.isEmpty && knownB k n s.data.toList && (!decide (k = 1) || decide (0 ≤ n))) = true then 0 else 3 := by
  unfold nodeE vOk nmOk
  rw [if_neg (show ¬ ((1 : Int) < 1 ∨ 18 < (1 : Int)) by omega), if_pos rfl, if_neg (show ¬ (1 : Int) = 2 by omega)]
  rw [show arity 1 = 0 from rfl]
  simp only [Bool.and_eq_true, Bool.or_eq_true, decide_eq_true_eq, Bool.not_eq_true', decide_eq_false_iff_not, Bool.and_eq_false_imp]
  congr 1
  apply propext
  constructor
  · rintro ⟨h1, ⟨h2, h3⟩, h4⟩; exact ⟨⟨⟨h1, h4⟩, h2⟩, by by_cases h : k = 1; right; have := h3 h; omega; left; exact h⟩
  · rintro ⟨⟨⟨h1, h4⟩, h2⟩, h3⟩; exact ⟨h1, ⟨h2, fun h => by rcases h3 with h5 | h5; exact absurd h h5; omega⟩, h4⟩

theorem good_other {op k n : Int} {s nm : ByteArray} {m : Nat} (h1 : ¬ op < 1) (h2 : ¬ 18 < op) (h3 : op ≠ 1) : nodeE ⟨op, k, n, s, nm⟩ m = if (decide (m = arity op) && (decide (k = 0) && decide (n = 0) && s.data.toList.isEmpty) && (if op = 2 then decide (LexB.nameE nm.data.toList = 0) else nm.data.toList.isEmpty)) = true then 0 else 3 := by
  unfold nodeE vOk nmOk
  rw [if_neg (show ¬ (op < 1 ∨ 18 < op) by omega), if_neg h3, nmB_iff]
  simp only [Bool.and_eq_true, decide_eq_true_eq, and_assoc]
theorem ifz (b : Bool) : decide ((if b = true then (0 : Int) else 3) = 0) = b := by cases b <;> rfl
set_option maxHeartbeats 4000000 in
set_option maxRecDepth 100000 in
theorem part_any : ∀ (x : Ex) (d : Nd) (A : Option Addr) (n c : Nat) (w : World), Is w x d A n →
    Calls Tryz.prog 124 #[.agg #[.int .i64 d.op, .int .i64 d.k, .int .i64 d.n, .string d.s, .string d.nm, .slice A n c]] w fun e w' => e = .returned (.int .i64 (firstE x.pre)) ∧ Below w.heap.size w w' := by
  refine Ex.ind fun d l ih => ?_
  intro d' A m c w his
  rw [is_mk] at his
  obtain ⟨rfl, rfl, ⟨hm, hs1, hs2⟩, his⟩ := his
  obtain ⟨op, k, n, s, nm⟩ := d'
  obtain ⟨R, hR⟩ : ∃ R, firstE (Ex.mk ⟨op, k, n, s, nm⟩ l).pre = R := ⟨_, rfl⟩
  rw [hR]
  rw [firstE_mk] at hR
  dsimp only at hs1 hs2 ⊢
  have HR := Lib.hid hR
  have HS := Lib.hid his
  have HI := Lib.hid ih
  clear hR his ih
  have hm2 := hm
  unfold maxLen at hm
  by_cases hop : op < 1 ∨ 18 < op
  · have e : nodeE ⟨op, k, n, s, nm⟩ l.length = 2 := by unfold nodeE; rw [if_pos hop]
    obtain rfl : R = 2 := by rw [← HR.out, e, if_neg (by decide)]
    clear e
    rcases hop with h | h
    · have t1 : decide (op < 1) = true := decide_eq_true h
      go_enter Tryz.func124, Tryz.ntmps124
      go_wp2_with fail
      go_ret
      exact ⟨rfl, b_new _ _⟩
    · have t1 : ¬ op < 1 := by omega
      go_enter Tryz.func124, Tryz.ntmps124
      go_wp2_with fail
      go_ret
      exact ⟨rfl, b_new _ _⟩
  · have t1 : ¬ op < 1 := by omega
    have t2 : ¬ 18 < op := by omega
    obtain ⟨G, hG⟩ : ∃ G : Bool, decide (nodeE ⟨op, k, n, s, nm⟩ l.length = 0) = G := ⟨_, rfl⟩
    obtain ⟨kb, hkb⟩ : ∃ b, knownB k n s.data.toList = b := ⟨_, rfl⟩
    obtain ⟨ln, hln⟩ : ∃ b, LexB.nameE nm.data.toList = b := ⟨_, rfl⟩
    have hkn := fun W => ValRef.known_any k n s W
    have hlx := fun W => LexB.refName_any nm W hs2
    rw [hkb] at hkn
    rw [hln] at hlx
    have HKn := Lib.hid hkn
    have HLx := Lib.hid hlx
    have HKb := Lib.hid hkb
    have HLn := Lib.hid hln
    clear hkn hlx hkb hln
    have har := fun W => (argsOf_any op W).mono (fun e w' h => (⟨h.1, h.2.symm⟩ : e = .returned (.int .i64 (arity op : Int)) ∧ w' = W))
    obtain ⟨q, hq⟩ : ∃ q, arity op = q := ⟨_, rfl⟩
    rw [hq] at har
    have HA := Lib.hid har
    have HG := Lib.hid hG
    have HQ := Lib.hid hq
    obtain ⟨gm, t3⟩ : ∃ gm : Bool, ((l.length : Int) == (q : Int)) = gm := ⟨_, rfl⟩
    clear har hG hq hop
    go_enter Tryz.func124, Tryz.ntmps124
    go_wp2_with fail
    go_quiet ((go_at_call 134; exact Calls.quiet_of_same (HA.out _)))
    go_upto_if 24 with (fail)
    go_cut [0, 3] (fun _ g wx => g = .bool G ∧ Below (w.heap.size + 1) (w.alloc (.cells #[.int .i64 op, .int .i64 k, .int .i64 n, .string s, .string nm, .slice A l.length c] 48)) wx)
    case first =>
      by_cases ho : op = 1
      · have t4 : (op == 1) = true := beq_iff_eq.2 ho
        have hgood := good_const (k := k) (n := n) (s := s) (nm := nm) (m := l.length)
        have hG2 := HG.out
        rw [ho, hgood, HKb.out, ifz] at hG2
        have t5 : arity op = 0 := by rw [ho]; rfl
        have hgm : gm = decide (l.length = 0) := by rw [← t3, ← HQ.out, t5, Bool.eq_iff_iff]; simp
        rw [← hgm, ← ByteArray.toList_eq] at hG2
        have HG3 := Lib.hid hG2
        clear hG2 hgood t5 ho hgm
        cases gm
        · go_wp2_with (go_at_call 135; refine (HKn.out _).mono ?_; rintro e w1 ⟨rfl, hb1⟩; obtain ⟨c1, d1⟩ := bcell hb1)
          all_goals
            go_meet
            subst_vars
            first
              | exact ⟨by rw [← HG3.out]; simp [*], (b_undrewN hb1).mono (by simp)⟩
              | exact ⟨by rw [← HG3.out]; simp [*], b_drewN (Below.refl _ _) _⟩
        · by_cases hne : nm.toList = []
          · cases kb
            · go_wp2_with (go_at_call 135; refine (HKn.out _).mono ?_; rintro e w1 ⟨rfl, hb1⟩; obtain ⟨c1, d1⟩ := bcell hb1)
              all_goals
                go_meet
                subst_vars
                first
                  | exact ⟨by rw [← HG3.out]; simp [*], (b_undrewN hb1).mono (by simp)⟩
                  | exact ⟨by rw [← HG3.out]; simp [*], b_drewN (Below.refl _ _) _⟩
            · by_cases hk : k = 1
              · have t6 : (k != 1) = false := by rw [hk]; rfl
                have t8 : decide (k = 1) = true := decide_eq_true hk
                rw [t8] at HG3
                clear hk t8
                by_cases hn : 0 ≤ n
                · go_wp2_with (go_at_call 135; refine (HKn.out _).mono ?_; rintro e w1 ⟨rfl, hb1⟩; obtain ⟨c1, d1⟩ := bcell hb1)
                  all_goals
                    go_meet
                    subst_vars
                    first
                      | exact ⟨by rw [← HG3.out]; simp [*], (b_undrewN hb1).mono (by simp)⟩
                      | exact ⟨by rw [← HG3.out]; simp [*], b_drewN (Below.refl _ _) _⟩
                · go_wp2_with (go_at_call 135; refine (HKn.out _).mono ?_; rintro e w1 ⟨rfl, hb1⟩; obtain ⟨c1, d1⟩ := bcell hb1)
                  all_goals
                    go_meet
                    subst_vars
                    first
                      | exact ⟨by rw [← HG3.out]; simp [*], (b_undrewN hb1).mono (by simp)⟩
                      | exact ⟨by rw [← HG3.out]; simp [*], b_drewN (Below.refl _ _) _⟩
              · have t6 : (k != 1) = true := bne_iff_ne.2 hk
                have t8 : decide (k = 1) = false := decide_eq_false hk
                rw [t8] at HG3
                clear hk t8
                go_wp2_with (go_at_call 135; refine (HKn.out _).mono ?_; rintro e w1 ⟨rfl, hb1⟩; obtain ⟨c1, d1⟩ := bcell hb1)
                all_goals
                  go_meet
                  subst_vars
                  first
                    | exact ⟨by rw [← HG3.out]; simp [*], (b_undrewN hb1).mono (by simp)⟩
                    | exact ⟨by rw [← HG3.out]; simp [*], b_drewN (Below.refl _ _) _⟩
          · go_wp2_with (go_at_call 135; refine (HKn.out _).mono ?_; rintro e w1 ⟨rfl, hb1⟩; obtain ⟨c1, d1⟩ := bcell hb1)
            all_goals
              go_meet
              subst_vars
              first
                | exact ⟨by rw [← HG3.out]; simp [*], (b_undrewN hb1).mono (by simp)⟩
                | exact ⟨by rw [← HG3.out]; simp [*], b_drewN (Below.refl _ _) _⟩
      · have t4 : (op == 1) = false := beq_eq_false_iff_ne.2 ho
        have hgood := good_other (k := k) (n := n) (s := s) (nm := nm) (m := l.length) (by omega) (by omega) ho
        have hG2 := HG.out
        rw [hgood, ifz, HLn.out, HQ.out] at hG2
        have hgm : gm = decide (l.length = q) := by rw [← t3, Bool.eq_iff_iff]; simp; omega
        rw [← hgm, ← ByteArray.toList_eq, ← ByteArray.toList_eq] at hG2
        have HG3 := Lib.hid hG2
        clear hG2 hgood ho hgm
        by_cases h2 : op = 2
        · have t6 : (op == 2) = true := beq_iff_eq.2 h2
          have t7 : (op != 2) = false := by rw [h2]; rfl
          rw [if_pos h2] at HG3
          clear h2
          cases gm
          · go_wp2_with (go_at_call 60; refine (HLx.out _).mono ?_; rintro e w1 ⟨rfl, hb1⟩; obtain ⟨c1, d1⟩ := bcell hb1)
            all_goals
              go_meet
              subst_vars
              first
                | exact ⟨by rw [← HG3.out]; simp [*], (b_undrewN hb1).mono (by simp)⟩
                | exact ⟨by rw [← HG3.out]; simp [*], b_drewN (Below.refl _ _) _⟩
          · go_wp2_with (go_at_call 60; refine (HLx.out _).mono ?_; rintro e w1 ⟨rfl, hb1⟩; obtain ⟨c1, d1⟩ := bcell hb1)
            all_goals
              go_meet
              subst_vars
              first
                | exact ⟨by rw [← HG3.out]; simp [*], (b_undrewN hb1).mono (by simp)⟩
                | exact ⟨by rw [← HG3.out]; simp [*], b_drewN (Below.refl _ _) _⟩
        · have t6 : (op == 2) = false := beq_eq_false_iff_ne.2 h2
          have t7 : (op != 2) = true := bne_iff_ne.2 h2
          rw [if_neg h2] at HG3
          clear h2
          cases gm
          · go_wp2_with (go_at_call 60; refine (HLx.out _).mono ?_; rintro e w1 ⟨rfl, hb1⟩; obtain ⟨c1, d1⟩ := bcell hb1)
            all_goals
              go_meet
              subst_vars
              first
                | exact ⟨by rw [← HG3.out]; simp [*], (b_undrewN hb1).mono (by simp)⟩
                | exact ⟨by rw [← HG3.out]; simp [*], b_drewN (Below.refl _ _) _⟩
          · go_wp2_with (go_at_call 60; refine (HLx.out _).mono ?_; rintro e w1 ⟨rfl, hb1⟩; obtain ⟨c1, d1⟩ := bcell hb1)
            all_goals
              go_meet
              subst_vars
              first
                | exact ⟨by rw [← HG3.out]; simp [*], (b_undrewN hb1).mono (by simp)⟩
                | exact ⟨by rw [← HG3.out]; simp [*], b_drewN (Below.refl _ _) _⟩
    case rest =>
      obtain ⟨rfl, hb⟩ := hcut
      have hcell := hb.cell (p := ⟨w.heap.size, 5, none⟩) (by simp)
      have hbw : Below w.heap.size w wc := (b_new w _).trans (hb.mono (by omega))
      have hE : nodeE ⟨op, k, n, s, nm⟩ l.length = 0 ∨ nodeE ⟨op, k, n, s, nm⟩ l.length = 3 := by
        unfold nodeE; rw [if_neg (by show ¬ (op < 1 ∨ 18 < op); omega)]; split
        · exact .inl rfl
        · exact .inr rfl
      cases G
      · have h0 : nodeE ⟨op, k, n, s, nm⟩ l.length ≠ 0 := of_decide_eq_false HG.out
        obtain rfl : R = 3 := by
          rw [← HR.out, if_neg h0]
          rcases hE with h | h
          · exact absurd h h0
          · exact h
        clear hE h0
        go_wp2_with fail
        go_ret
        exact ⟨rfl, hbw⟩
      · have h0 : nodeE ⟨op, k, n, s, nm⟩ l.length = 0 := of_decide_eq_true HG.out
        have hR2 : firstE (preL l) = R := by rw [← HR.out, if_pos h0]
        have HR2 := Lib.hid hR2
        have HB := Lib.hid hbw
        clear hE h0 hR2 hb hbw
        go_wp2_with fail
        go_loopw [81] (fun i wr => ∃ j : Nat, i = .int .i64 (j : Int) ∧ j ≤ l.length ∧ Below w.heap.size w wr ∧ firstE (preL (l.take j)) = 0) (fun i _ => l.length - (intOf i).toNat)
        case atStart => exact ⟨0, rfl, Nat.zero_le _, HB.out, by simp [preL_nil, firstE]⟩
        case round =>
          obtain ⟨j, rfl, hj, hbr, hfe⟩ := hrel
          have HFe := Lib.hid hfe
          clear hfe
          by_cases hlt : j < l.length
          · obtain ⟨a, d2, B, m2, c2, rfl, hat, hi⟩ := HS.out j hlt
            obtain ⟨h0, h1, h2, h3, h4, h5⟩ := hat.below hbr
            have hi2 := (hi.below hbr).alloc (.cells #[.int .i64 d2.op, .int .i64 d2.k, .int .i64 d2.n, .string d2.s, .string d2.nm, .slice B m2 c2] 48)
            obtain ⟨r, hr⟩ : ∃ r, firstE l[j].pre = r := ⟨_, rfl⟩
            have hc := HI.out _ (List.getElem_mem hlt) d2 B m2 c2 _ hi2
            rw [hr] at hc
            have hp2 : firstE (preL (l.take (j + 1))) = r := by rw [preL_at l j hlt, firstE_append, if_pos HFe.out, hr]
            have HC := Lib.hid hc
            have HP2 := Lib.hid hp2
            have HBr := Lib.hid hbr
            clear hc hp2 hr hi hi2 hat hbr
            go_wp2_with fail
            refine HC.out.mono ?_; rintro e w2 ⟨rfl, hb2⟩
            have hb3 : Below w.heap.size w w2 := HBr.out.trans ((b_then hb2).mono HBr.out.size)
            have HB3 := Lib.hid hb3
            clear hb2 hb3
            by_cases hr0 : r = 0
            · subst hr0
              go_wp2_with fail
              go_roundw
              case rel => exact ⟨j + 1, by go_num, by omega, HB3.out, HP2.out⟩
              case measure => simp [intOf]; omega
            · have t9 : (r != 0) = true := bne_iff_ne.2 hr0
              have hR3 : r = R := by
                rw [← HR2.out, show l = l.take (j + 1) ++ l.drop (j + 1) from (List.take_append_drop _ _).symm, preL_append, firstE_append, HP2.out, if_neg hr0]
              have HR3 := Lib.hid hR3
              clear hr0 hR3
              go_wp2_with fail
              go_ret
              exact ⟨ret_int HR3.out, HB3.out⟩
          · have hjl : j = l.length := by omega
            have hR3 : R = 0 := by rw [← HR2.out, ← HFe.out, hjl, List.take_length]
            have HR3 := Lib.hid hR3
            clear hjl hR3
            go_wp2_with fail
            go_ret
            exact ⟨ret_int HR3.out.symm, hbr⟩

theorem fault_any (x : Ex) (d : Nd) (A : Option Addr) (m c : Nat) (w : World) (hn : x.nodes ≤ 1000000000000) (his : Is w x d A m) :
    Calls Tryz.prog 107 #[.agg #[.int .i64 d.op, .int .i64 d.k, .int .i64 d.n, .string d.s, .string d.nm, .slice A m c]] w fun e w' => e = .returned (.int .i64 x.checkE) ∧ Below w.heap.size w w' := by
  obtain ⟨R, hR⟩ : ∃ R, x.checkE = R := ⟨_, rfl⟩
  rw [hR]
  unfold Ex.checkE at hR
  obtain ⟨N, hN⟩ : ∃ N, x.nodes = N := ⟨_, rfl⟩
  obtain ⟨D, hD⟩ : ∃ D, x.depth = D := ⟨_, rfl⟩
  obtain ⟨r, hr⟩ : ∃ r, firstE x.pre = r := ⟨_, rfl⟩
  have h1 := his.alloc (.cells #[.int .i64 d.op, .int .i64 d.k, .int .i64 d.n, .string d.s, .string d.nm, .slice A m c] 48)
  have c1 := refSize_any x d A m c _ hn h1
  have c2 := fun W (hb : Below (w.alloc (.cells #[.int .i64 d.op, .int .i64 d.k, .int .i64 d.n, .string d.s, .string d.nm, .slice A m c] 48)).heap.size (w.alloc (.cells #[.int .i64 d.op, .int .i64 d.k, .int .i64 d.n, .string d.s, .string d.nm, .slice A m c] 48)) W) => part_any x d A m c W (h1.below hb)
  rw [hN, hD] at c1
  rw [hN, hD, hr] at hR
  rw [hr] at c2
  rw [hN] at hn
  have hdn := depth_le_nodes x
  rw [hN, hD] at hdn
  have C1 := Lib.hid c1
  have C2 := Lib.hid c2
  clear c1 c2 h1 his hr hN hD
  by_cases hn6 : 60 < N
  · obtain rfl : R = 1 := by rw [← hR, if_pos hn6]
    clear hR
    have t1 : (60 : Int) < (N : Int) := by omega
    go_enter Tryz.func107, Tryz.ntmps107
    go_wp2_with fail
    refine C1.out.mono ?_; rintro e w1 ⟨rfl, hb1⟩
    go_wp2_with fail
    go_ret
    exact ⟨rfl, b_then hb1⟩
  · have t1 : ¬ (60 : Int) < (N : Int) := by omega
    by_cases hd : 12 < D
    · obtain rfl : R = 4 := by rw [← hR, if_neg hn6, if_pos hd]
      clear hR
      have t2 : (12 : Int) < (D : Int) := by omega
      go_enter Tryz.func107, Tryz.ntmps107
      go_wp2_with fail
      refine C1.out.mono ?_; rintro e w1 ⟨rfl, hb1⟩
      go_wp2_with fail
      go_ret
      exact ⟨rfl, b_then hb1⟩
    · obtain rfl : R = r := by rw [← hR, if_neg hn6, if_neg hd]
      clear hR
      have t2 : ¬ (12 : Int) < (D : Int) := by omega
      go_enter Tryz.func107, Tryz.ntmps107
      go_wp2_with fail
      refine C1.out.mono ?_; rintro e w1 ⟨rfl, hb1⟩
      have C3 := Lib.hid (C2.out _ hb1)
      obtain ⟨c1, d1⟩ := bcell hb1
      go_wp2_with fail
      refine C3.out.mono ?_; rintro e w2 ⟨rfl, hb2⟩
      go_wp2_with fail
      go_ret
      exact ⟨rfl, b_trans (b_then hb1) hb2⟩
end Go.Proofs.YtdlfhldboagbeaaGreatDoor.ExR
