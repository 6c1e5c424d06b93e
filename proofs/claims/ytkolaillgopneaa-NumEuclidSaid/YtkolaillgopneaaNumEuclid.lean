/- What is proved: the Go law lychwaykeep.NumEuclid returns true for all its arguments, and leaves them as they were. No condition. -/
import Derived.Test.YtkolaillgopneaaRows
import Derived.Test.YtkolaillgopneaaNumQuo
import Derived.Test.YtkolaillgopneaaWithin
import Derived.WalkKit
import Derived.ProofKit
import Derived.OpenShut
namespace Go.Proofs.Ytkolaillgopneaa.numEuclid
open Go.ChangeShapes Go.WideShapes Go.ChangeAt Go.RowKit
set_option linter.unusedVariables false      -- a walk need not use every 'w<i>' (that an integer argument fits its kind)

theorem own : ownKnob Try.prog.godebug = none := by kernel_rfl

/-! ### STEP 1: THE WALK: the Go text returns true. 'Grown w w'': the world has at most new blocks (Derived/RowKit3.lean). Part the cases AHEAD of 'go_enter' where a test parts the walk; take each callee by a contract of your own. -/
theorem walk (a0 : Int) (a1 : Int) (w0 : (Lit.int .i64 a0).wf = true) (w1 : (Lit.int .i64 a1).wf = true) (w : World) :
    Calls Try.prog 6 #[.int .i64 a0, .int .i64 a1] w fun e w' => e = .returned (.bool true) ∧ Below w.heap.size w w' := by
  obtain ⟨a, ha1, ha2, hwa⟩ := Within.within_some a0 w0
  obtain ⟨b, hb1, hb2, hwb⟩ := Within.within_some a1 w1
  have HA := Lib.hid hwa
  have HB := Lib.hid hwb
  clear hwa hwb w0 w1
  have hseven : ∀ w : World, Calls Try.prog 15 #[.int .i64 (-7), .int .i64 2] w fun e w' => e = .returned (.tuple #[.int .i64 (-4), .int .i64 0]) ∧ Below w.heap.size w w' := fun w => by
    have := Num.div_in (-7) 2 w (by omega) (by omega) (by omega) (by omega) (by omega)
    rw [show Int.fdiv (-7) 2 = -4 from by decide] at this
    exact this
  have H7 := Lib.hid hseven
  clear hseven
  by_cases h0 : b = 0
  · subst h0
    go_enter Try.func6, Try.ntmps6
    go_wp2_with fail
    refine (HA.out _).mono ?_; rintro e w1 ⟨rfl, rfl⟩
    go_wp2_with fail
    refine (HB.out _).mono ?_; rintro e w1 ⟨rfl, rfl⟩
    go_wp2_with fail
    refine (Num.div_zero a _ ha1 ha2).mono ?_; rintro e w1 ⟨rfl, k1⟩
    go_wp2_with fail
    refine (Num.mod_zero a _ ha1 ha2).mono ?_; rintro e w2 ⟨rfl, k2⟩
    go_wp2_with fail
    refine (H7.out _).mono ?_; rintro e w3 ⟨rfl, k3⟩
    go_wp2_with fail
    go_ret
    exact ⟨rfl, below_trans (below_trans k1 k2) k3⟩
  · have hbb : (b == 0) = false := beq_eq_false_iff_ne.2 h0
    obtain ⟨q, hq⟩ : ∃ q : Int, a.fdiv b = q := ⟨_, rfl⟩
    obtain ⟨r, hr⟩ : ∃ r : Int, a.fmod b = r := ⟨_, rfl⟩
    have hqd := fun w => Num.div_in a b w ha1 ha2 hb1 hb2 h0
    have hrd := fun w => Num.mod_in a b w ha1 ha2 hb1 hb2 h0
    rw [hq] at hqd
    rw [hr] at hrd
    have hq1 := NumM.fdiv_bd a b 1099511627776 h0 ha1 ha2
    rw [hq] at hq1
    have hsum : q * b + r = a := by
      have := Int.mul_fdiv_add_fmod a b
      rw [hq, hr, Int.mul_comm] at this; exact this
    have hrs : (0 < b ∧ 0 ≤ r ∧ r < b) ∨ (b < 0 ∧ r ≤ 0 ∧ b < r) := by
      rcases Int.lt_or_gt_of_ne h0 with g | g
      · have := NumM.fdiv_neg a b g; rw [hq, hr] at this; omega
      · have := NumM.fdiv_pos a b g; rw [hq, hr] at this; omega
    obtain ⟨hq1, hq2⟩ := hq1
    have HQ := Lib.hid hqd
    have HR := Lib.hid hrd
    have HS := Lib.hid hsum
    have HRS := Lib.hid hrs
    clear hqd hrd hsum hrs hq hr
    go_enter Try.func6, Try.ntmps6
    go_wp2_with fail
    refine (HA.out _).mono ?_; rintro e w1 ⟨rfl, rfl⟩
    go_wp2_with fail
    refine (HB.out _).mono ?_; rintro e w1 ⟨rfl, rfl⟩
    go_wp2_with fail
    refine (HQ.out _).mono ?_; rintro e w1 ⟨rfl, k1⟩
    go_wp2_with fail
    refine (HR.out _).mono ?_; rintro e w2 ⟨rfl, k2⟩
    go_wp2_with fail
    refine (H7.out _).mono ?_; rintro e w3 ⟨rfl, k3⟩
    have k := below_trans (below_trans k1 k2) k3
    clear k1 k2 k3
    go_wp2_with fail
    obtain ⟨p, g, hpg, hpc⟩ : ∃ p g : Int, (g = 7 ∨ (g = 0 ∧ p + r = a ∧ -1099511627776 ≤ p ∧ p ≤ 1099511627776)) ∧ ∀ w : World, Calls Try.prog 12 #[.int .i64 q, .int .i64 b] w fun e w' => e = .returned (.tuple #[.int .i64 p, .int .i64 g]) ∧ Below w.heap.size w w' := by
      by_cases gg : -1099511627776 ≤ q * b ∧ q * b ≤ 1099511627776
      · exact ⟨_, _, Or.inr ⟨rfl, HS.out, gg⟩, fun w => Num.mul_in q b w hq1 hq2 hb1 hb2 gg.1 gg.2⟩
      · exact ⟨0, 7, Or.inl rfl, fun w => Num.mul_over q b w hq1 hq2 hb1 hb2 (by omega)⟩
    refine (hpc _).mono ?_; rintro e w4 ⟨rfl, k4⟩
    have kk := below_trans k k4
    clear k k4 hpc
    have HKK := Lib.hid kk
    clear kk
    rcases hpg with rfl | ⟨rfl, hp, hp1, hp2⟩
    all_goals
      by_cases hrz : r = 0
      · subst hrz
        go_wp2_with fail
        go_ret
        exact ⟨rfl, HKK.out⟩
      · have hrz' : (r == 0) = false := beq_eq_false_iff_ne.2 hrz
        rcases HRS.out with ⟨g1, g2, g3⟩ | ⟨g1, g2, g3⟩
        · have e1 : decide (r < 0) = false := decide_eq_false (by omega)
          have e2 : decide (b < 0) = false := decide_eq_false (by omega)
          go_wp2_with fail
          go_ret
          exact ⟨rfl, HKK.out⟩
        · have e1 : decide (r < 0) = true := decide_eq_true (by omega)
          have e2 : decide (b < 0) = true := decide_eq_true (by omega)
          go_wp2_with fail
          go_ret
          exact ⟨rfl, HKK.out⟩

/-! ### THE ROW's STEP: WRITTEN OUT: LEAVE IT -/
set_option maxRecDepth 100000 in
theorem lifted (os : Os) (started : os.Started) (H : Type) (enc : TypeId × Value → H) :
    ReturnsInHanded {} Try.checked os 6 .any (Rows.numEuclidSpec.pre6 enc Try.prog Try.f6 Rows.numEuclidRow.domain false) (Rows.numEuclidSpec.post enc Try.prog Try.f6 false true false false) := by
  refine returnsInHanded_of_change (C := Try.checked) own started (by kernel_rfl) Try.func6
    (ChangeSpec.witness6 (enc := enc) (C := Try.checked) false ⟨#[], #[.int .i64 0, .int .i64 0], []⟩ 8 (by kernel_rfl) (by kernel_rfl) (by kernel_rfl) (by kernel_rfl)) ?_
  intro W base args ds gs before hval0 hW hcnd _
  have hval : ∀ (j : Nat) t v, Try.f6.params[j]? = some t → args[j]? = some v → Value.okWide Try.prog W .any base t v := hval0
  have hW' := hW
  obtain ⟨p, q, hA0, hV, rfl, hfz, hnd⟩ := hW
  have hA : DataW.TrodAll enc Try.prog W 0 (fun _ => true) true Try.f6.params.toList args.toList ds p := hA0
  rw [Try.params6] at hA hval
  obtain ⟨v0, vs0, d0, ds0, p0, q0, hargs, rfl, rfl, h0, r0⟩ := trodAll_cons hA
  obtain ⟨v1, vs1, d1, ds1, p1, q1, rfl, rfl, rfl, h1, r1⟩ := trodAll_cons r0
  obtain ⟨rfl, rfl, rfl⟩ := trodAll_nil r1
  obtain rfl : args = #[v0, v1] := by cases args; simp_all
  obtain ⟨rfl, rfl⟩ := trodVars_none hV
  obtain ⟨a0, rfl, rfl, rfl, w0⟩ := open_int Try.underlying3 (hval 0 3 v0 rfl rfl) h0
  obtain ⟨a1, rfl, rfl, rfl, w1⟩ := open_int Try.underlying3 (hval 1 3 v1 rfl rfl) h1
  clear hA0 hval0
  simp only [List.append_nil] at hW'
  refine (walk a0 a1 w0 w1 W).mono fun e W' ⟨he, hg⟩ => ?_
  subst he
  exact ⟨_, rfl, _, _, _, [], _, [], hW', trodAll_mk1 (shut_bool Try.underlying4 _), (trodAll_cons_mk (shut_int Try.underlying3 w0) (trodAll_cons_mk (shut_int Try.underlying3 w1) trodAll_mk0)), rfl, hg.frame _, fun h => by cases h⟩

theorem over : Rows.numEuclidRow.holds Try.pinned (OpenSpec.ofChange Rows.numEuclidSpec) :=
  OpenClaim.holds_of_wide 6 Try.f6 rfl rfl rfl rfl rfl rfl rfl ⟨rfl, rfl, rfl, rfl, rfl⟩ rfl rfl rfl rfl rfl (by kernel_rfl) Try.func6 (by kernel_rfl)
    (of_decide_eq_true (by kernel_rfl)) (by unfold Func.isWrapper; first | (rw [if_pos (by decide +kernel)]; kernel_rfl) | (rw [if_neg (by decide +kernel)]; exact ⟨rfl, rfl⟩))
    (fun os started H enc _ => lifted os started H enc)

/-- ████ THE STATEMENT ████ -/
theorem proved : Rows.NumEuclidSaid :=
  over
#print axioms proved
end Go.Proofs.Ytkolaillgopneaa.numEuclid
