/- What is proved: the Go law lychwaykeep.NumGroups returns true for all its arguments, and leaves them as they were. No condition. -/
import Derived.Test.YtkolaillgopneaaRows
import Derived.Test.YtkolaillgopneaaNum
import Derived.Test.YtkolaillgopneaaWithin
import Derived.WalkKit
import Derived.ProofKit
import Derived.OpenShut
namespace Go.Proofs.Ytkolaillgopneaa.numGroups
open Go.ChangeShapes Go.WideShapes Go.ChangeAt Go.RowKit
set_option linter.unusedVariables false      -- a walk need not use every 'w<i>' (that an integer argument fits its kind)

theorem own : ownKnob Try.prog.godebug = none := by kernel_rfl

/-! ### STEP 1: THE WALK: the Go text returns true. 'Grown w w'': the world has at most new blocks (Derived/RowKit3.lean). Part the cases AHEAD of 'go_enter' where a test parts the walk; take each callee by a contract of your own. -/
theorem walk (a0 : Int) (a1 : Int) (a2 : Int) (w0 : (Lit.int .i64 a0).wf = true) (w1 : (Lit.int .i64 a1).wf = true) (w2 : (Lit.int .i64 a2).wf = true) (w : World) :
    Calls Try.prog 8 #[.int .i64 a0, .int .i64 a1, .int .i64 a2] w fun e w' => e = .returned (.bool true) ∧ Below w.heap.size w w' := by
  obtain ⟨a, ha1, ha2, hwa⟩ := Within.within_some a0 w0
  obtain ⟨b, hb1, hb2, hwb⟩ := Within.within_some a1 w1
  obtain ⟨c, hc1, hc2, hwc⟩ := Within.within_some a2 w2
  have HA := Lib.hid hwa
  have HB := Lib.hid hwb
  have HC := Lib.hid hwc
  clear hwa hwb hwc w0 w1 w2
  by_cases hs : (-1099511627776 ≤ a + b ∧ a + b ≤ 1099511627776) ∧ (-1099511627776 ≤ b + c ∧ b + c ≤ 1099511627776)
  · obtain ⟨⟨hs1, hs2⟩, hs3, hs4⟩ := hs
    go_enter Try.func8, Try.ntmps8
    go_wp2_with fail
    refine (HA.out _).mono ?_; rintro e w1 ⟨rfl, rfl⟩
    go_wp2_with fail
    refine (HB.out _).mono ?_; rintro e w1 ⟨rfl, rfl⟩
    go_wp2_with fail
    refine (HC.out _).mono ?_; rintro e w1 ⟨rfl, rfl⟩
    go_wp2_with fail
    refine (Num.add_in a b _ ha1 ha2 hb1 hb2 hs1 hs2).mono ?_; rintro e w1 ⟨rfl, k1⟩
    go_wp2_with fail
    refine (Num.add_in b c _ hb1 hb2 hc1 hc2 hs3 hs4).mono ?_; rintro e w2 ⟨rfl, k2⟩
    go_wp2_with fail
    refine (Num.sub_in 0 7 _ (by omega) (by omega) (by omega) (by omega) (by omega) (by omega)).mono ?_; rintro e w3 ⟨rfl, k3⟩
    have k := below_trans (below_trans k1 k2) k3
    clear k1 k2 k3
    by_cases ht : -1099511627776 ≤ a + b + c ∧ a + b + c ≤ 1099511627776
    · obtain ⟨ht1, ht2⟩ := ht
      go_wp2_with fail
      refine (Num.add_in (a + b) c _ hs1 hs2 hc1 hc2 ht1 ht2).mono ?_; rintro e w4 ⟨rfl, k4⟩
      go_wp2_with fail
      refine (Num.add_in a (b + c) _ ha1 ha2 hs3 hs4 (by omega) (by omega)).mono ?_; rintro e w5 ⟨rfl, k5⟩
      go_wp2_with fail
      refine (Num.sub_in 0 a _ (by omega) (by omega) ha1 ha2 (by omega) (by omega)).mono ?_; rintro e w6 ⟨rfl, k6⟩
      go_wp2_with fail
      refine (Num.sub_in 0 _ _ (by omega) (by omega) (by omega) (by omega) (by omega) (by omega)).mono ?_; rintro e w7 ⟨rfl, k7⟩
      go_wp2_with fail
      go_ret
      exact ⟨rfl, below_trans (below_trans (below_trans (below_trans k k4) k5) k6) k7⟩
    · go_wp2_with fail
      refine (Num.add_over (a + b) c _ hs1 hs2 hc1 hc2 (by omega)).mono ?_; rintro e w4 ⟨rfl, k4⟩
      go_wp2_with fail
      refine (Num.add_over a (b + c) _ ha1 ha2 hs3 hs4 (by omega)).mono ?_; rintro e w5 ⟨rfl, k5⟩
      go_wp2_with fail
      refine (Num.sub_in 0 a _ (by omega) (by omega) ha1 ha2 (by omega) (by omega)).mono ?_; rintro e w6 ⟨rfl, k6⟩
      go_wp2_with fail
      refine (Num.sub_in 0 _ _ (by omega) (by omega) (by omega) (by omega) (by omega) (by omega)).mono ?_; rintro e w7 ⟨rfl, k7⟩
      go_wp2_with fail
      go_ret
      exact ⟨rfl, below_trans (below_trans (below_trans (below_trans k k4) k5) k6) k7⟩
  · obtain ⟨u, x, hx, hadd1⟩ : ∃ u x : Int, (x = 0 → (-1099511627776 ≤ a + b ∧ a + b ≤ 1099511627776)) ∧ ∀ w : World, Calls Try.prog 10 #[.int .i64 a, .int .i64 b] w fun e w' => e = .returned (.tuple #[.int .i64 u, .int .i64 x]) ∧ Below w.heap.size w w' := by
      by_cases g : -1099511627776 ≤ a + b ∧ a + b ≤ 1099511627776
      · exact ⟨_, _, fun _ => g, fun w => Num.add_in a b w ha1 ha2 hb1 hb2 g.1 g.2⟩
      · exact ⟨0, 7, fun h => by omega, fun w => Num.add_over a b w ha1 ha2 hb1 hb2 (by omega)⟩
    obtain ⟨v, y, hy, hadd2⟩ : ∃ v y : Int, (y = 0 → (-1099511627776 ≤ b + c ∧ b + c ≤ 1099511627776)) ∧ ∀ w : World, Calls Try.prog 10 #[.int .i64 b, .int .i64 c] w fun e w' => e = .returned (.tuple #[.int .i64 v, .int .i64 y]) ∧ Below w.heap.size w w' := by
      by_cases g : -1099511627776 ≤ b + c ∧ b + c ≤ 1099511627776
      · exact ⟨_, _, fun _ => g, fun w => Num.add_in b c w hb1 hb2 hc1 hc2 g.1 g.2⟩
      · exact ⟨0, 7, fun h => by omega, fun w => Num.add_over b c w hb1 hb2 hc1 hc2 (by omega)⟩
    have hxy : ¬ (x = 0 ∧ y = 0) := fun h => hs ⟨hx h.1, hy h.2⟩
    have G1 := Lib.hid hadd1
    have G2 := Lib.hid hadd2
    have hq : (x == 0) = false ∨ ((x == 0) = true ∧ (y == 0) = false) := by
      by_cases h : x = 0
      · exact Or.inr ⟨beq_iff_eq.2 h, beq_eq_false_iff_ne.2 (fun g => hxy ⟨h, g⟩)⟩
      · exact Or.inl (beq_eq_false_iff_ne.2 h)
    clear hadd1 hadd2 hx hy hs hxy
    rcases hq with hq1 | ⟨hq1, hq2⟩
    all_goals
      go_enter Try.func8, Try.ntmps8
      go_wp2_with fail
      refine (HA.out _).mono ?_; rintro e w1 ⟨rfl, rfl⟩
      go_wp2_with fail
      refine (HB.out _).mono ?_; rintro e w1 ⟨rfl, rfl⟩
      go_wp2_with fail
      refine (HC.out _).mono ?_; rintro e w1 ⟨rfl, rfl⟩
      go_wp2_with fail
      refine (G1.out _).mono ?_; rintro e w1 ⟨rfl, k1⟩
      go_wp2_with fail
      refine (G2.out _).mono ?_; rintro e w2 ⟨rfl, k2⟩
      go_wp2_with fail
      refine (Num.sub_in 0 7 _ (by omega) (by omega) (by omega) (by omega) (by omega) (by omega)).mono ?_; rintro e w3 ⟨rfl, k3⟩
      go_wp2_with fail
      refine (Num.sub_in 0 a _ (by omega) (by omega) ha1 ha2 (by omega) (by omega)).mono ?_; rintro e w6 ⟨rfl, k6⟩
      go_wp2_with fail
      refine (Num.sub_in 0 _ _ (by omega) (by omega) (by omega) (by omega) (by omega) (by omega)).mono ?_; rintro e w7 ⟨rfl, k7⟩
      go_wp2_with fail
      go_ret
      exact ⟨rfl, below_trans (below_trans (below_trans (below_trans k1 k2) k3) k6) k7⟩

/-! ### THE ROW's STEP: WRITTEN OUT: LEAVE IT -/
set_option maxRecDepth 100000 in
theorem lifted (os : Os) (started : os.Started) (H : Type) (enc : TypeId × Value → H) :
    ReturnsInHanded {} Try.checked os 8 .any (Rows.numGroupsSpec.pre6 enc Try.prog Try.f8 Rows.numGroupsRow.domain false) (Rows.numGroupsSpec.post enc Try.prog Try.f8 false true false false) := by
  refine returnsInHanded_of_change (C := Try.checked) own started (by kernel_rfl) Try.func8
    (ChangeSpec.witness6 (enc := enc) (C := Try.checked) false ⟨#[], #[.int .i64 0, .int .i64 0, .int .i64 0], []⟩ 8 (by kernel_rfl) (by kernel_rfl) (by kernel_rfl) (by kernel_rfl)) ?_
  intro W base args ds gs before hval0 hW hcnd _
  have hval : ∀ (j : Nat) t v, Try.f8.params[j]? = some t → args[j]? = some v → Value.okWide Try.prog W .any base t v := hval0
  have hW' := hW
  obtain ⟨p, q, hA0, hV, rfl, hfz, hnd⟩ := hW
  have hA : DataW.TrodAll enc Try.prog W 0 (fun _ => true) true Try.f8.params.toList args.toList ds p := hA0
  rw [Try.params8] at hA hval
  obtain ⟨v0, vs0, d0, ds0, p0, q0, hargs, rfl, rfl, h0, r0⟩ := trodAll_cons hA
  obtain ⟨v1, vs1, d1, ds1, p1, q1, rfl, rfl, rfl, h1, r1⟩ := trodAll_cons r0
  obtain ⟨v2, vs2, d2, ds2, p2, q2, rfl, rfl, rfl, h2, r2⟩ := trodAll_cons r1
  obtain ⟨rfl, rfl, rfl⟩ := trodAll_nil r2
  obtain rfl : args = #[v0, v1, v2] := by cases args; simp_all
  obtain ⟨rfl, rfl⟩ := trodVars_none hV
  obtain ⟨a0, rfl, rfl, rfl, w0⟩ := open_int Try.underlying3 (hval 0 3 v0 rfl rfl) h0
  obtain ⟨a1, rfl, rfl, rfl, w1⟩ := open_int Try.underlying3 (hval 1 3 v1 rfl rfl) h1
  obtain ⟨a2, rfl, rfl, rfl, w2⟩ := open_int Try.underlying3 (hval 2 3 v2 rfl rfl) h2
  clear hA0 hval0
  simp only [List.append_nil] at hW'
  refine (walk a0 a1 a2 w0 w1 w2 W).mono fun e W' ⟨he, hg⟩ => ?_
  subst he
  exact ⟨_, rfl, _, _, _, [], _, [], hW', trodAll_mk1 (shut_bool Try.underlying4 _), (trodAll_cons_mk (shut_int Try.underlying3 w0) (trodAll_cons_mk (shut_int Try.underlying3 w1) (trodAll_cons_mk (shut_int Try.underlying3 w2) trodAll_mk0))), rfl, hg.frame _, fun h => by cases h⟩

theorem over : Rows.numGroupsRow.holds Try.pinned (OpenSpec.ofChange Rows.numGroupsSpec) :=
  OpenClaim.holds_of_wide 8 Try.f8 rfl rfl rfl rfl rfl rfl rfl ⟨rfl, rfl, rfl, rfl, rfl⟩ rfl rfl rfl rfl rfl (by kernel_rfl) Try.func8 (by kernel_rfl)
    (of_decide_eq_true (by kernel_rfl)) (by unfold Func.isWrapper; first | (rw [if_pos (by decide +kernel)]; kernel_rfl) | (rw [if_neg (by decide +kernel)]; exact ⟨rfl, rfl⟩))
    (fun os started H enc _ => lifted os started H enc)

/-- ████ THE STATEMENT ████ -/
theorem proved : Rows.NumGroupsSaid :=
  over
#print axioms proved
end Go.Proofs.Ytkolaillgopneaa.numGroups
