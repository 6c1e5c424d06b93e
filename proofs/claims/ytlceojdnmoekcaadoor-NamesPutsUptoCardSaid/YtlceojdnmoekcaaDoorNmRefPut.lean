/- The reference's NamesPut. -/
import Derived.Test.YtlceojdnmoekcaaDoorNmSwap
import Derived.Test.YtlceojdnmoekcaaDoorExRef
namespace Go.Proofs.YtlceojdnmoekcaaDoor.NmU
open Go.RowKit
open ExM NmM Kit ExL ExP ExV ExN NmC NmP
set_option linter.unusedVariables false

set_option maxRecDepth 100000 in
set_option maxHeartbeats 2000000 in
theorem refPut_any (n : ByteArray) (hn : n.size ≤ maxLen) (x y : Ex) (hx8 : x.nodes ≤ 1048576) (hy8 : y.nodes ≤ 1048576) (d dy : Nd) (A Ay : Option Addr) (m c my cy : Nat) (w : World) (his : Is w x d A m) (hiy : Is w y dy Ay my) :
    Calls Tryd.prog 14 #[.agg #[.int .i64 d.op, .int .i64 d.k, .int .i64 d.n, .string d.s, .string d.nm, .slice A m c], .string n, .agg #[.int .i64 dy.op, .int .i64 dy.k, .int .i64 dy.n, .string dy.s, .string dy.nm, .slice Ay my cy]] w (PutOut n x y w) := by
  have hpn := put_nodes n y x
  obtain ⟨R1, hR1⟩ : ∃ q, x.checkE = q := ⟨_, rfl⟩
  obtain ⟨R2, hR2⟩ : ∃ q, y.checkE = q := ⟨_, rfl⟩
  obtain ⟨R3, hR3⟩ : ∃ q, LexB.nameE n.data.toList = q := ⟨_, rfl⟩
  obtain ⟨R4, hR4⟩ : ∃ q, (Ex.put n y x).checkE = q := ⟨_, rfl⟩
  have hF : putR n x y = if R1 = 0 then (if R2 = 0 then (if R3 = 0 then R4 else R3) else R2) else R1 := by unfold putR putE; rw [hR1, hR2, hR3, hR4]
  have c1 := fun V (hb : Below w.heap.size w V) => ExR.fault_any x d A m c V (by omega) (his.below hb)
  have c2 := fun V (hb : Below w.heap.size w V) => ExR.fault_any y dy Ay my cy V (by omega) (hiy.below hb)
  have c3 := fun V => LexB.refName_any n V (by unfold maxLen at hn; omega)
  have c4 := fun V (hb : Below w.heap.size w V) => NmS.swap_any n y hy8 x hx8 d dy A Ay m c my cy V (his.below hb) (hiy.below hb)
  rw [hR1] at c1
  rw [hR2] at c2
  rw [hR3] at c3
  have hR1' : R1 = 0 → x.nodes ≤ 60 := fun h => (checkE_zero (by rw [hR1, h])).1
  have hR2' : R2 = 0 → y.nodes ≤ 60 := fun h => (checkE_zero (by rw [hR2, h])).1
  have c5 : R1 = 0 → R2 = 0 → ∀ (V : World) (d : Nd) (A : Option Addr) (m c : Nat), Below w.heap.size w V → Is V (Ex.put n y x) d A m →
      Calls Tryd.prog 30 #[.agg #[.int .i64 d.op, .int .i64 d.k, .int .i64 d.n, .string d.s, .string d.nm, .slice A m c]] V fun e w' => e = .returned (.int .i64 R4) ∧ Below V.heap.size V w' := fun r1 r2 V d A m c hb hi => by
    have h6 : (Ex.put n y x).nodes ≤ 1000000000000 := Nat.le_trans hpn (Nat.le_trans (Nat.mul_le_mul (hR1' r1) (hR2' r2)) (by decide))
    rw [← hR4]; exact ExR.fault_any (Ex.put n y x) d A m c V h6 hi
  have C1 := Lib.hid c1
  have C2 := Lib.hid c2
  have C3 := Lib.hid c3
  have C4 := Lib.hid c4
  have C5 := Lib.hid c5
  have HF := Lib.hid hF
  have HR4 := Lib.hid hR4
  clear c1 c2 c3 c4 c5 hF hR1 hR2 hR3 hR4 his hiy hpn hx8 hy8 hn hR1' hR2'
  go_enter Tryd.func14, Tryd.ntmps14
  go_wp2_with fail
  have k0 := bx3_new w d dy A Ay m c my cy
  refine (C1.out _ (b_more (b_more (b_new w _) _) _)).mono ?_; rintro e w1 ⟨rfl, hb⟩
  have k1 := k0.below hb
  have hb1 : Below w.heap.size w w1 := b_then (b_then (b_then hb))
  obtain ⟨m0, m1, m2, m3⟩ := k1.cells
  have K1 := Lib.hid k1
  have HB1 := Lib.hid hb1
  clear hb k0 k1 hb1
  by_cases h1 : R1 = 0
  · subst h1
    rw [if_pos rfl] at HF
    go_wp2_with fail
    refine (C2.out _ HB1.out).mono ?_; rintro e w2 ⟨rfl, hb⟩
    have k2 := K1.out.below hb
    have hb2 := b_trans HB1.out hb
    clear m0 m1 m2 m3
    obtain ⟨m0, m1, m2, m3⟩ := k2.cells
    have K2 := Lib.hid k2
    have HB2 := Lib.hid hb2
    clear hb k2 hb2 K1 HB1
    by_cases h2 : R2 = 0
    · subst h2
      rw [if_pos rfl] at HF
      go_wp2_with fail
      refine (C3.out _).mono ?_; rintro e w3 ⟨rfl, hb⟩
      have k3 := K2.out.below hb
      have hb3 := b_trans HB2.out hb
      clear m0 m1 m2 m3
      obtain ⟨m0, m1, m2, m3⟩ := k3.cells
      have K3 := Lib.hid k3
      have HB3 := Lib.hid hb3
      clear hb k3 hb3 K2 HB2
      by_cases h3 : R3 = 0
      · subst h3
        rw [if_pos rfl] at HF
        go_wp2_with fail
        refine (C4.out _ HB3.out).mono ?_; rintro e w4 ⟨d4, B4, m4, c4, rfl, hi, hb⟩
        have k4 := K3.out.below hb
        have hb4 := b_trans HB3.out hb
        have hi4 := hi.imp (Q := fun b => w.heap.size + 3 ≤ b) fun b hb2 hl => by have := K3.out.b2.lt; have h5 : w3.heap.size ≤ b := hb2; omega
        have hal := Box.new w4 d4 B4 m4 c4
        have k5 := k4.below (b_new w4 (.cells #[.int .i64 d4.op, .int .i64 d4.k, .int .i64 d4.n, .string d4.s, .string d4.nm, .slice B4 m4 c4] 26))
        have c6 := C5.out (by first | trivial | rfl) (by first | trivial | rfl) (w4.alloc (.cells #[.int .i64 d4.op, .int .i64 d4.k, .int .i64 d4.n, .string d4.s, .string d4.nm, .slice B4 m4 c4] 26)) d4 B4 m4 c4 (b_more hb4 _) ((hi4.is).below (b_new _ _))
        have C6 := Lib.hid c6
        have HL4 := Lib.hid (k4.b2.lt)
        have K5 := Lib.hid k5
        have HAL := Lib.hid hal
        have HI4 := Lib.hid hi4
        have HB4 := Lib.hid hb4
        clear m0 m1 m2 m3 hb k4 k5 hi hi4 hal hb4 c6 K3 HB3
        go_wp2_with fail
        refine C6.out.mono ?_; rintro e w5 ⟨rfl, hb⟩
        obtain ⟨m0, m1, m2, m3⟩ := (K5.out.below hb).cells
        obtain ⟨z0, z1, z2, z3, z4, z5⟩ := (HAL.out.below hb).cells
        have hb5 : Below w.heap.size w w5 := HB4.out.trans ((b_then hb).mono HB4.out.size)
        have hl4 := HB4.out.size
        have hs5 := hb.size
        have hs5' : w4.heap.size < w5.heap.size := by simp at hs5; omega
        have hne : w.heap.size + 1 + 1 < w4.heap.size := HL4.out
        have HB5 := Lib.hid hb5
        have HX := Lib.hid (HI4.out.below (b_then hb))
        clear hb hb5 hs5
        by_cases h4 : R4 = 0
        · subst h4
          go_wp2_with fail
          refine bodyPost_ret (v := .tuple #[.agg #[.int .i64 d4.op, .int .i64 d4.k, .int .i64 d4.n, .string d4.s, .string d4.nm, .slice B4 m4 c4], .int .i64 0]) (by simp [results, Tryd.results14, go_sem, m2]) rfl ?_
          have hz : putZ n x y = Ex.put n y x := by unfold putZ; rw [HF.out, if_pos rfl]
          refine ⟨d4, B4, m4, c4, by rw [HF.out], ?_, set6_below (i := 0) HB5.out (by omega) _ _ _ _ _ _⟩
          rw [hz]
          exact IsP.keep (fun b hb hl => set6_block (i := 0) (by omega) _ _ _ _ _ _) (fun b hb hl => by omega) _ _ _ _ HX.out
        · have t1 : (R4 != 0) = true := bne_iff_ne.2 h4
          have H4 := Lib.hid h4
          clear h4
          go_wp2_with fail
          refine bodyPost_ret (v := .tuple #[.agg #[.int .i64 0, .int .i64 0, .int .i64 0, .string ⟨#[]⟩, .string ⟨#[]⟩, .slice none 0 0], .int .i64 R4]) (by simp [results, Tryd.results14, go_sem, m2]) rfl ?_
          exact putOut_bad HF.out H4.out (set6_below (i := 0) HB5.out (by omega) _ _ _ _ _ _)
      · rw [if_neg h3] at HF
        have t1 : (R3 != 0) = true := bne_iff_ne.2 h3
        have H3 := Lib.hid h3
        clear h3
        go_wp2_with fail
        refine bodyPost_ret (v := .tuple #[.agg #[.int .i64 0, .int .i64 0, .int .i64 0, .string ⟨#[]⟩, .string ⟨#[]⟩, .slice none 0 0], .int .i64 R3]) (by simp [results, Tryd.results14, go_sem, m2]) rfl ?_
        exact putOut_bad HF.out H3.out (set6_below (i := 0) HB3.out (by omega) _ _ _ _ _ _)
    · rw [if_neg h2] at HF
      have t1 : (R2 != 0) = true := bne_iff_ne.2 h2
      have H2 := Lib.hid h2
      clear h2
      go_wp2_with fail
      refine bodyPost_ret (v := .tuple #[.agg #[.int .i64 0, .int .i64 0, .int .i64 0, .string ⟨#[]⟩, .string ⟨#[]⟩, .slice none 0 0], .int .i64 R2]) (by simp [results, Tryd.results14, go_sem, m2]) rfl ?_
      exact putOut_bad HF.out H2.out (set6_below (i := 0) HB2.out (by omega) _ _ _ _ _ _)
  · rw [if_neg h1] at HF
    have t1 : (R1 != 0) = true := bne_iff_ne.2 h1
    have H1 := Lib.hid h1
    clear h1
    go_wp2_with fail
    refine bodyPost_ret (v := .tuple #[.agg #[.int .i64 0, .int .i64 0, .int .i64 0, .string ⟨#[]⟩, .string ⟨#[]⟩, .slice none 0 0], .int .i64 R1]) (by simp [results, Tryd.results14, go_sem, m2]) rfl ?_
    exact putOut_bad HF.out H1.out (set6_below (i := 0) HB1.out (by omega) _ _ _ _ _ _)
end Go.Proofs.YtlceojdnmoekcaaDoor.NmU
