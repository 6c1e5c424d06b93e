/- A formula's node: hasRightV, hasRightName, checkNode; the notations' table. -/
import Derived.Test.YtehkebncdahmcaaGreatDoorEx
import Derived.Test.YtehkebncdahmcaaGreatDoorNotTab
import Derived.Test.YtehkebncdahmcaaGreatDoorValue
import Derived.Test.YtehkebncdahmcaaGreatDoorLexBytes
import Derived.Deep.RegionHeld3
import Derived.Deep.QuietTactic
import Derived.Deep.RegionWith
import Derived.ChangeOld
import Derived.Deep.DrawnRows
import Derived.LaidMore
import Derived.BigQuiet
namespace Go.Proofs.YtehkebncdahmcaaGreatDoor.ExN
open Go.RowKit
open ValM LexM ExM Kit ExL
set_option linter.unusedVariables false

theorem nmB_iff (l : List UInt8) : nmB l = decide (LexB.nameE l = 0) := by
  unfold nmB LexB.nameE
  by_cases h1 : l = [] ∨ 10 < l.length
  · rw [if_pos h1]
    rcases h1 with h | h
    · subst h; rfl
    · rw [decide_eq_false (show ¬ l.length ≤ 10 by omega)]; simp
  · rw [if_neg h1]
    have h2 : l.isEmpty = false := by cases l; exact absurd (.inl rfl) h1; rfl
    have h3 : l.length ≤ 10 := by
      rcases Nat.lt_or_ge 10 l.length with g | g
      · exact absurd (.inr g) h1
      · exact g
    rw [h2, decide_eq_true h3]
    cases nameB l <;> cases keyB l <;> rfl

/-- A struct of a value is the zero one. -/
theorem rightV_other (op k n : Int) (s nm : ByteArray) (A : Option Addr) (m c : Nat) (w : World) (h1 : op ≠ 1) :
    Calls Tryz.prog 56 #[.agg #[.int .i64 op, .int .i64 k, .int .i64 n, .string s, .string nm, .slice A m c]] w fun e w' => e = .returned (.bool (vOk ⟨op, k, n, s, nm⟩)) ∧ Below w.heap.size w w' := by
  have e : vOk ⟨op, k, n, s, nm⟩ = (decide (k = 0) && decide (n = 0) && s.data.toList.isEmpty) := by unfold vOk; rw [if_neg h1]
  rw [e]
  have t1 : (op != 1) = true := bne_iff_ne.2 h1
  clear e h1
  go_enter Tryz.func56, Tryz.ntmps56
  go_wp2_with fail
  all_goals go_ret
  all_goals refine ⟨?_, b_new _ _⟩
  all_goals simp_all [ByteArray.toList_eq]
theorem rightV_const (k n : Int) (s nm : ByteArray) (A : Option Addr) (m c : Nat) (w : World) :
    Calls Tryz.prog 56 #[.agg #[.int .i64 1, .int .i64 k, .int .i64 n, .string s, .string nm, .slice A m c]] w fun e w' => e = .returned (.bool (vOk ⟨1, k, n, s, nm⟩)) ∧ Below w.heap.size w w' := by
  obtain ⟨b, hb⟩ : ∃ b, knownB k n s.data.toList = b := ⟨_, rfl⟩
  have e : vOk ⟨1, k, n, s, nm⟩ = (b && !(decide (k = 1) && decide (n < 0))) := by unfold vOk; rw [if_pos rfl, ← hb]
  rw [e]
  have hc := fun W => Val.known_any k n s W
  rw [hb] at hc
  have HC := Lib.hid hc
  clear hc hb e
  cases b
  · go_enter Tryz.func56, Tryz.ntmps56
    go_wp2_with fail
    refine (HC.out _).mono ?_; rintro e w2 ⟨rfl, hb⟩
    go_wp2_with fail
    go_ret
    exact ⟨rfl, b_then hb⟩
  · by_cases hk : k = 1
    · subst hk
      go_enter Tryz.func56, Tryz.ntmps56
      go_wp2_with fail
      refine (HC.out _).mono ?_; rintro e w2 ⟨rfl, hb⟩
      obtain ⟨c1, c2⟩ := bcell hb
      go_wp2_with fail
      go_ret
      exact ⟨by simp, b_then hb⟩
    · have t1 : (k == 1) = false := beq_eq_false_iff_ne.2 hk
      have t2 : decide (k = 1) = false := decide_eq_false hk
      rw [t2]
      clear t2 hk
      go_enter Tryz.func56, Tryz.ntmps56
      go_wp2_with fail
      refine (HC.out _).mono ?_; rintro e w2 ⟨rfl, hb⟩
      obtain ⟨c1, c2⟩ := bcell hb
      go_wp2_with fail
      go_ret
      exact ⟨by simp, b_then hb⟩
theorem rightV_any (op k n : Int) (s nm : ByteArray) (A : Option Addr) (m c : Nat) (w : World) :
    Calls Tryz.prog 56 #[.agg #[.int .i64 op, .int .i64 k, .int .i64 n, .string s, .string nm, .slice A m c]] w fun e w' => e = .returned (.bool (vOk ⟨op, k, n, s, nm⟩)) ∧ Below w.heap.size w w' := by
  by_cases h : op = 1
  · subst h; exact rightV_const k n s nm A m c w
  · exact rightV_other op k n s nm A m c w h

theorem rightName_any (op k n : Int) (s nm : ByteArray) (A : Option Addr) (m c : Nat) (w : World) (hs : nm.size ≤ maxLen) :
    Calls Tryz.prog 57 #[.agg #[.int .i64 op, .int .i64 k, .int .i64 n, .string s, .string nm, .slice A m c]] w fun e w' => e = .returned (.bool (nmOk ⟨op, k, n, s, nm⟩)) ∧ Below w.heap.size w w' := by
  by_cases h : op = 2
  · subst h
    have e : nmOk ⟨2, k, n, s, nm⟩ = decide (LexB.nameE nm.data.toList = 0) := by unfold nmOk; rw [if_pos rfl, nmB_iff]
    rw [e]
    obtain ⟨q, hq⟩ : ∃ q, LexB.nameE nm.data.toList = q := ⟨_, rfl⟩
    have hc := fun W => LexB.name_any nm W hs
    rw [hq] at hc ⊢
    have HC := Lib.hid hc
    clear hc hq e
    go_enter Tryz.func57, Tryz.ntmps57
    go_wp2_with fail
    refine (HC.out _).mono ?_; rintro e w2 ⟨rfl, rfl⟩
    go_wp2_with fail
    go_ret
    exact ⟨ret_bool (by rfl), b_new _ _⟩
  · have e : nmOk ⟨op, k, n, s, nm⟩ = nm.data.toList.isEmpty := by unfold nmOk; rw [if_neg h]
    rw [e]
    have t1 : (op != 2) = true := bne_iff_ne.2 h
    clear h e
    go_enter Tryz.func57, Tryz.ntmps57
    go_wp2_with fail
    go_ret
    exact ⟨ret_bool (by rw [ByteArray.toList_eq]), b_new _ _⟩

/-! ### The table of the notations -/
theorem var_below {w w' : World} {n : String} {cs : Array Value} (h : w.var? Tryz.prog n = some cs) (hb : Below w.heap.size w w') : w'.var? Tryz.prog n = some cs := by
  have hg : ∃ g, Tryz.prog.globalNamed n = some g ∧ g < w.heap.size := by
    unfold World.var? at h
    cases hg : Tryz.prog.globalNamed n with
    | none => simp [hg] at h
    | some g =>
      refine ⟨g, rfl, ?_⟩
      rcases Nat.lt_or_ge g w.heap.size with hl | hl
      · exact hl
      · simp [hg, Array.getElem?_eq_none hl] at h
  obtain ⟨g, hg, hl⟩ := hg
  exact var?_below hb hg hl h
def Tab (w : World) : Prop := NotTab.Is Tryz.prog w "lychway/expr.notations" NotTab.rows
theorem Tab.below {w w' : World} (h : Tab w) (hb : Below w.heap.size w w') : Tab w' := var_below h hb
theorem Tab.alloc {w : World} (h : Tab w) (o : Obj) : Tab (w.alloc o) := h.below (b_new w o)
def rw_ (k : Nat) : NotTab.Rw := NotTab.rows.getD k ([], 0, 0)
theorem rw_at (k : Nat) (h : k < 19) : NotTab.rows[k]? = some (rw_ k) := by
  unfold rw_
  rw [List.getD, List.getElem?_eq_getElem (show k < NotTab.rows.length from h)]; rfl
theorem Tab.cells {w : World} (h : Tab w) (k : Nat) (hk : k < 19) : w.cell? ⟨0, k * 3, none⟩ = some (.string ⟨(rw_ k).1.toArray⟩) ∧ w.cell? ⟨0, k * 3 + 1, none⟩ = some (.int .i64 (rw_ k).2.1) ∧ w.cell? ⟨0, k * 3 + 2, none⟩ = some (.int .i64 (rw_ k).2.2) :=
  NotTab.Is.cell h (g := 0) (by kernel_rfl) k _ (rw_at k hk)
theorem rw_args (k : Nat) (h0 : 1 ≤ k) (h : k < 19) : (rw_ k).2.2 = (arity (k : Int) : Int) := by
  obtain rfl | rfl | rfl | rfl | rfl | rfl | rfl | rfl | rfl | rfl | rfl | rfl | rfl | rfl | rfl | rfl | rfl | rfl : k = 1 ∨ k = 2 ∨ k = 3 ∨ k = 4 ∨ k = 5 ∨ k = 6 ∨ k = 7 ∨ k = 8 ∨ k = 9 ∨ k = 10 ∨ k = 11 ∨ k = 12 ∨ k = 13 ∨ k = 14 ∨ k = 15 ∨ k = 16 ∨ k = 17 ∨ k = 18 := by omega
  all_goals rfl

/-! ### checkNode -/
theorem node_out (op k n : Int) (s nm : ByteArray) (A : Option Addr) (m c : Nat) (w : World) (h : op < 1 ∨ 18 < op) :
    Calls Tryz.prog 33 #[.agg #[.int .i64 op, .int .i64 k, .int .i64 n, .string s, .string nm, .slice A m c]] w fun e w' => e = .returned (.int .i64 2) ∧ Below w.heap.size w w' := by
  rcases h with h | h
  · have h1 : decide (op < 1) = true := decide_eq_true h
    go_enter Tryz.func33, Tryz.ntmps33
    go_wp2_with fail
    go_ret
    exact ⟨rfl, b_new _ _⟩
  · have h1 : ¬ op < 1 := by omega
    have h2 : 19 ≤ op := by omega
    go_enter Tryz.func33, Tryz.ntmps33
    go_wp2_with fail
    go_ret
    exact ⟨rfl, b_new _ _⟩
set_option maxHeartbeats 6000000 in
theorem node_in (j : Nat) (k n : Int) (s nm : ByteArray) (A : Option Addr) (m c : Nat) (w : World) (h0 : 1 ≤ j) (h1 : j ≤ 18) (hm : m ≤ maxLen) (hs : nm.size ≤ maxLen) (hT : Tab w) :
    Calls Tryz.prog 33 #[.agg #[.int .i64 (j : Int), .int .i64 k, .int .i64 n, .string s, .string nm, .slice A m c]] w fun e w' => e = .returned (.int .i64 (nodeE ⟨(j : Int), k, n, s, nm⟩ m)) ∧ Below w.heap.size w w' := by
  have e : nodeE ⟨(j : Int), k, n, s, nm⟩ m = if m = arity (j : Int) ∧ vOk ⟨(j : Int), k, n, s, nm⟩ = true ∧ nmOk ⟨(j : Int), k, n, s, nm⟩ = true then 0 else 3 := by unfold nodeE; rw [if_neg]; show ¬ ((j : Int) < 1 ∨ 18 < (j : Int)); omega
  rw [e]
  have hcell := (hT.cells j (by omega)).2.2
  rw [rw_args j h0 (by omega)] at hcell
  have har : arity (j : Int) ≤ 3 := by unfold arity; repeat' split
                                       all_goals omega
  obtain ⟨q, hq⟩ : ∃ q, arity (j : Int) = q := ⟨_, rfl⟩
  obtain ⟨bv, hv⟩ : ∃ b, vOk ⟨(j : Int), k, n, s, nm⟩ = b := ⟨_, rfl⟩
  obtain ⟨bn, hn⟩ : ∃ b, nmOk ⟨(j : Int), k, n, s, nm⟩ = b := ⟨_, rfl⟩
  have c1 := fun W => rightV_any (j : Int) k n s nm A m c W
  have c2 := fun W => rightName_any (j : Int) k n s nm A m c W hs
  rw [hv] at c1 ⊢
  rw [hn] at c2 ⊢
  rw [hq] at hcell har ⊢
  obtain ⟨R, hR⟩ : ∃ R : Int, (if m = q ∧ bv = true ∧ bn = true then 0 else 3) = R := ⟨_, rfl⟩
  rw [hR]
  have C1 := Lib.hid c1
  have C2 := Lib.hid c2
  clear c1 c2 hv hn hq e hT
  have g1 : ¬ (j : Int) < 1 := by omega
  have g2 : ¬ (19 : Int) ≤ (j : Int) := by omega
  have g3 : (0 : Int) ≤ (j : Int) := by omega
  have g4 : (j : Int) < 19 := by omega
  unfold maxLen at hm
  have hc0 : (w.alloc (.cells #[.int .i64 (j : Int), .int .i64 k, .int .i64 n, .string s, .string nm, .slice A m c] 26)).cell? ⟨0, j * 3 + 2, none⟩ = some (.int .i64 (q : Int)) := by
    rw [World.cell?_alloc_lt _ _ _ (cell_lt' hcell)]; exact hcell
  clear hcell
  by_cases hmq : m = q
  · have t1 : ((m : Int) != (q : Int)) = false := by rw [hmq]; simp
    subst hmq
    cases bv
    · obtain rfl : R = 3 := by rw [← hR, if_neg (by simp)]
      clear hR
      go_enter Tryz.func33, Tryz.ntmps33
      go_wp2_with fail
      go_region_with (go_at_call 56; refine (C1.out _).mono ?_; rintro e w1 ⟨rfl, hb1⟩; obtain ⟨c1, d1⟩ := bcell hb1)
      all_goals
        go_wp2_with fail
        go_ret
        refine ⟨rfl, ?_⟩
        clear C2 C1 hc0 c1 d1 h0 h1 hm hs g3 g4 har
        first | exact b_then hb1 | exact b_thenD hb1 | exact b_drew (b_thenD hb1)
    · cases bn
      · obtain rfl : R = 3 := by rw [← hR, if_neg (by simp)]
        clear hR
        go_enter Tryz.func33, Tryz.ntmps33
        go_wp2_with fail
        go_region_with (first | (go_at_call 56; refine (C1.out _).mono ?_; rintro e w1 ⟨rfl, hb1⟩; obtain ⟨c1, d1⟩ := bcell hb1; have z1 := zlt hb1) | (go_at_call 57; refine (C2.out _).mono ?_; rintro e w2 ⟨rfl, hb2⟩; obtain ⟨c2, d2⟩ := bcell hb2))
        all_goals
          go_wp2_with fail
          go_ret
          refine ⟨rfl, ?_⟩
          clear C2 C1 hc0 c1 d1 c2 d2 z1 h0 h1 hm hs g3 g4 har
          first | exact b_trans (b_thenD hb1) hb2 | exact b_trans (b_thenD hb1) (b_undrew hb2)
      · obtain rfl : R = 0 := by rw [← hR, if_pos (by simp)]
        clear hR
        go_enter Tryz.func33, Tryz.ntmps33
        go_wp2_with fail
        go_region_with (first | (go_at_call 56; refine (C1.out _).mono ?_; rintro e w1 ⟨rfl, hb1⟩; obtain ⟨c1, d1⟩ := bcell hb1; have z1 := zlt hb1) | (go_at_call 57; refine (C2.out _).mono ?_; rintro e w2 ⟨rfl, hb2⟩; obtain ⟨c2, d2⟩ := bcell hb2))
        all_goals
          go_wp2_with fail
          go_ret
          refine ⟨rfl, ?_⟩
          clear C2 C1 hc0 c1 d1 c2 d2 z1 h0 h1 hm hs g3 g4 har
          first | exact b_trans (b_thenD hb1) hb2 | exact b_trans (b_thenD hb1) (b_undrew hb2)
  · have t1 : ((m : Int) != (q : Int)) = true := bne_iff_ne.2 (by omega)
    obtain rfl : R = 3 := by rw [← hR, if_neg (fun g => hmq g.1)]
    clear hR
    go_enter Tryz.func33, Tryz.ntmps33
    go_wp2_with fail
    go_quiet (fail)
    go_wp2_with fail
    go_ret
    exact ⟨rfl, b_drewN (b_new _ _) _⟩
theorem node_any (op k n : Int) (s nm : ByteArray) (A : Option Addr) (m c : Nat) (w : World) (hm : m ≤ maxLen) (hs : nm.size ≤ maxLen) (hT : Tab w) :
    Calls Tryz.prog 33 #[.agg #[.int .i64 op, .int .i64 k, .int .i64 n, .string s, .string nm, .slice A m c]] w fun e w' => e = .returned (.int .i64 (nodeE ⟨op, k, n, s, nm⟩ m)) ∧ Below w.heap.size w w' := by
  by_cases h : op < 1 ∨ 18 < op
  · have e : nodeE ⟨op, k, n, s, nm⟩ m = 2 := by unfold nodeE; rw [if_pos h]
    rw [e]; exact node_out op k n s nm A m c w h
  · obtain ⟨j, rfl⟩ : ∃ j : Nat, op = j := ⟨op.toNat, by omega⟩
    exact node_in j k n s nm A m c w (by omega) (by omega) hm hs hT
end Go.Proofs.YtehkebncdahmcaaGreatDoor.ExN
