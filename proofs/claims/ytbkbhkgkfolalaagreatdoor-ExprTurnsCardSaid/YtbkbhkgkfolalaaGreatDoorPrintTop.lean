/- Contracts of expr.Print and of the reference's ExprText. -/
import Derived.Test.YtbkbhkgkfolalaaGreatDoorPrintRef
import Derived.Test.YtbkbhkgkfolalaaGreatDoorExRef
namespace Go.Proofs.YtbkbhkgkfolalaaGreatDoor.PrT
open Go.RowKit
open ValM LexM ExM ShowM PrM Kit ExL ExN ExV GenL Prn
set_option linter.unusedVariables false

set_option maxHeartbeats 2000000 in
theorem print_any (x : Ex) (d : Nd) (A : Option Addr) (n c : Nat) (w : World) (his : Is w x d A n) (hv : Vars w) :
    Calls Tryz.prog 9 #[.agg #[.int .i64 d.op, .int .i64 d.k, .int .i64 d.n, .string d.s, .string d.nm, .slice A n c]] w fun e w' => e = .returned (.tuple #[.string ⟨(if x.checkE = 0 then Ex.txt x else []).toArray⟩, .int .i64 x.checkE]) ∧ Below w.heap.size w w' := by
  obtain ⟨R, hR⟩ : ∃ R, x.checkE = R := ⟨_, rfl⟩
  rw [hR]
  have hc := fun W (hb : Below w.heap.size w W) => ExC.check_any x d A n c W (his.below hb) (hv.below hb).tab
  rw [hR] at hc
  have HC := Lib.hid hc
  clear hc
  by_cases h0 : R = 0
  · subst h0
    obtain ⟨q1, q2, q3⟩ := checkE_zero hR
    have hp := fun W (hb : Below w.heap.size w W) => printed_any x q3 q1 d A n c W (his.below hb) (hv.below hb)
    obtain ⟨t, ht⟩ : ∃ t : ByteArray, t = ⟨(Ex.txt x).toArray⟩ := ⟨_, rfl⟩
    rw [← ht] at hp
    rw [if_pos rfl, ← ht]
    have HP := Lib.hid hp
    clear hp ht hR his hv q1 q2 q3
    go_enter Tryz.func9, Tryz.ntmps9
    go_wp2_with fail
    refine (HC.out _ (b_new _ _)).mono ?_; rintro e w1 ⟨rfl, hb1⟩
    obtain ⟨c1, d1⟩ := bcell hb1
    go_wp2_with fail
    refine (HP.out _ (b_then hb1)).mono ?_; rintro e w2 ⟨rfl, hb2⟩
    go_wp2_with fail
    go_ret2
    exact ⟨rfl, (b_then hb1).trans (hb2.mono (b_then hb1).size)⟩
  · rw [if_neg h0]
    have t1 : (R == 0) = false := beq_eq_false_iff_ne.2 h0
    clear hR h0 his hv
    go_enter Tryz.func9, Tryz.ntmps9
    go_wp2_with fail
    refine (HC.out _ (b_new _ _)).mono ?_; rintro e w1 ⟨rfl, hb1⟩
    go_wp2_with fail
    go_ret2
    exact ⟨rfl, b_then hb1⟩

end Go.Proofs.YtbkbhkgkfolalaaGreatDoor.PrT
