/- The reference's TypeOf, TypeFits. -/
import Derived.Test.YthgcmficmodhiaaDoorTyRef
namespace Go.Proofs.YthgcmficmodhiaaDoor.TyRT
open Go.RowKit
open ExM Kit ExL GenL TyM Ty TyT TyO TyR ExN
set_option linter.unusedVariables false
attribute [local go_sem] Go.undef

set_option maxHeartbeats 2000000 in
theorem refOf_any (x : Ex) (fs : List GenL.Fd) (FA : Option Addr) (fc : Nat) (d : Nd) (A : Option Addr) (n c : Nat) (w : World) (hx : x.nodes ≤ 1048576) (hm : fs.length ≤ 1000000000000) (his : Is w x d A n) (hf : Flds w FA fs) :
    Calls Tryd.prog 42 #[.agg #[.int .i64 d.op, .int .i64 d.k, .int .i64 d.n, .string d.s, .string d.nm, .slice A n c], .slice FA fs.length fc] w fun e w' => e = .returned (.tuple #[.int .i64 (ofT (fts fs) x).1, .int .i64 (ofT (fts fs) x).2]) ∧ Below w.heap.size w w' := by
  obtain ⟨R, hR⟩ : ∃ R, ofT (fts fs) x = R := ⟨_, rfl⟩
  obtain ⟨e0, he0⟩ : ∃ e, x.checkE = e := ⟨_, rfl⟩
  rw [hR]
  have hck := fun W (hb : Below w.heap.size w W) => ExR.fault_any x d A n c W (by omega) (his.below hb)
  rw [he0] at hck
  have hty := fun W (hb : Below w.heap.size w W) (h0 : e0 = 0) => refTypeOf_any fs FA fc hm x d A n c W (checkE_zero (by rw [he0, h0])).2.2 (his.below hb) (hf.below hb)
  have hgood : e0 = 0 → Ex.ty (fts fs) x = R := fun h => by rw [← hR]; unfold ofT; rw [if_pos (by rw [he0, h])]
  have hbad : e0 ≠ 0 → R = (0, e0) := fun h => by rw [← hR]; unfold ofT; rw [he0, if_neg h]
  have HCk := Lib.hid hck
  have HTy := Lib.hid hty
  have HG := Lib.hid hgood
  have HB := Lib.hid hbad
  clear hck hty hgood hbad hR he0 his hf
  go_enter Tryd.func42, Tryd.ntmps42
  go_wp2_with fail
  refine (HCk.out _ (b_new w _)).mono ?_; rintro e w1 ⟨rfl, hb1⟩
  obtain ⟨c0, c1, c2, c3, c4, c5⟩ := ((ExV.Box.new w d A n c).below hb1).cells
  have HBW := Lib.hid (b_then hb1)
  clear hb1
  by_cases h0 : e0 = 0
  · subst h0
    have hg := HG.out (by first | rfl | trivial)
    have hty := HTy.out w1 HBW.out (by first | rfl | trivial)
    rw [hg] at hty
    have HT2 := Lib.hid hty
    clear hty hg HG HB HTy HCk
    go_wp2_with fail
    refine HT2.out.mono ?_; rintro e w2 ⟨rfl, hb2⟩
    have HB2 := Lib.hid (HBW.out.trans (hb2.mono HBW.out.size))
    clear hb2
    go_wp2_with fail
    go_ret2
    exact ⟨rfl, HB2.out⟩
  · have t1 : (e0 == 0) = false := beq_eq_false_iff_ne.2 h0
    obtain rfl := HB.out h0
    go_wp2_with fail
    go_ret2
    exact ⟨rfl, HBW.out⟩

set_option maxHeartbeats 2000000 in
theorem refFits_any (x : Ex) (fs : List GenL.Fd) (FA : Option Addr) (fc : Nat) (want : Int) (d : Nd) (A : Option Addr) (n c : Nat) (w : World) (hx : x.nodes ≤ 1048576) (hm : fs.length ≤ 1000000000000) (his : Is w x d A n) (hf : Flds w FA fs) :
    Calls Tryd.prog 25 #[.agg #[.int .i64 d.op, .int .i64 d.k, .int .i64 d.n, .string d.s, .string d.nm, .slice A n c], .slice FA fs.length fc, .int .i64 want] w fun e w' => e = .returned (.int .i64 (fitsT (fts fs) x want)) ∧ Below w.heap.size w w' := by
  obtain ⟨t, e0, hR⟩ : ∃ t e, ofT (fts fs) x = (t, e) := ⟨_, _, rfl⟩
  have hres : fitsT (fts fs) x want = if e0 = 0 then (if t = want then 0 else 9) else e0 := by unfold fitsT; rw [hR]
  have hc := fun W (hb : Below w.heap.size w W) => refOf_any x fs FA fc d A n c W hx hm (his.below hb) (hf.below hb)
  rw [hR] at hc
  rw [hres]
  have HC := Lib.hid hc
  clear hc hres hR his hf
  go_enter Tryd.func25, Tryd.ntmps25
  go_wp2_with fail
  refine (HC.out _ (b_new w _)).mono ?_; rintro e w1 ⟨rfl, hb1⟩
  have HBW := Lib.hid (b_then hb1)
  clear hb1
  by_cases h0 : e0 = 0
  · subst h0
    by_cases ht : t = want
    · subst ht
      go_wp2_with fail
      go_ret
      exact ⟨by simp, HBW.out⟩
    · have t1 : (t == want) = false := beq_eq_false_iff_ne.2 ht
      go_wp2_with fail
      go_ret
      exact ⟨by simp, HBW.out⟩
  · have t1 : (e0 == 0) = false := beq_eq_false_iff_ne.2 h0
    go_wp2_with fail
    go_ret
    exact ⟨by simp, HBW.out⟩
end Go.Proofs.YthgcmficmodhiaaDoor.TyRT
