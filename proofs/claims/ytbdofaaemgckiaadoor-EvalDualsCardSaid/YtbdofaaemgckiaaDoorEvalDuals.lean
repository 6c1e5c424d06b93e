/- What is proved: the Go law lychwaykeep.EvalDuals returns true for all its arguments, and leaves them as they were. No condition. -/
import Derived.Test.YtbdofaaemgckiaaDoorRows
import Derived.Test.YtbdofaaemgckiaaDoorEvDuo
import Derived.Test.YtbdofaaemgckiaaDoorRawOpen
import Derived.Test.YtbdofaaemgckiaaDoorKit
import Derived.WalkKit
import Derived.ProofKit
import Derived.OpenShut
import Derived.Deep.RegionHeld3
import Derived.Deep.DrawnRows
import Derived.Deep.DeepCutAuto
import Derived.Deep.QuietTactic
import Derived.BigQuiet
import Derived.WalkSpells
import Derived.WalkLawsBesides
import Derived.Lib.Hide
import Derived.Outline
import Derived.ShutString
import Derived.ChangeOld
import Derived.Below
import Derived.LaidMore
import Derived.SizedLaws
import Derived.Stop.Joined
import Derived.Stop.LaidErr
import Derived.Lib.LaidTab
import Derived.SevenTiedAt
import Derived.Lay
import Derived.LaidOnce
import Derived.Deep.DeepHandedRow
import Derived.Test.YtbdofaaemgckiaaDoorCards
import Derived.Test.YtbdofaaemgckiaaDoorTie
namespace Go.Proofs.YtbdofaaemgckiaaDoor.evalDuals
open ValM LexM ExM NmM TyM EvM EvP EvD Kit ExL ExP ExN ExV RawL RawV Within GenL Gen GenT NmG EvC EvO EvF EvG EvK EvW EvJ EvU
open Go.ChangeShapes Go.WideShapes Go.ChangeAt Go.RowKit
open Go.ChangeMaps (open_string shut_string)
set_option linter.unusedVariables false

theorem own : ownKnob Tryd.prog.godebug = none := by kernel_rfl
theorem laidOut : laidOutB Tryd.prog = true := by kernel_rfl


/-! ### The walk -/
set_option maxRecDepth 100000 in
set_option maxHeartbeats 16000000 in
theorem walk (A0 : Option Addr) (n0 : Nat) (c0 : Nat) (A1 : Option Addr) (n1 : Nat) (c1 : Nat) (A2 : Option Addr) (n2 : Nat) (c2 : Nat) (a3 : Int) (w3 : (Lit.int .i64 a3).wf = true) (w : World) (hraw0 : RawL.Raws w A0 n0 c0) (hraw1 : RawL.Raws w A1 n1 c1) (hraw2 : RawL.Raws w A2 n2 c2) (ht : ExN.Tab w) :
    Calls Tryd.prog 9 #[.slice A0 n0 c0, .slice A1 n1 c1, .slice A2 n2 c2, .int .i64 a3] w fun e w' => e = .returned (.bool true) ∧ Below w.heap.size w w' := by
  obtain ⟨pk, hpk⟩ : ∃ p, pick a3 3 = p := ⟨_, rfl⟩
  have hpb := pick_bd a3 3 (by decide)
  have hp := fun W => picked_any a3 3 W w3 (by decide) (by decide)
  rw [hpk] at hp hpb
  obtain ⟨pb0, pb1⟩ := hpb
  have HP := Lib.hid hp
  have HT := Lib.hid ht
  have HTwo := Lib.hid (two_any 2 n0 c0 n1 c1 n2 c2 A0 A1 A2 w hraw0 hraw1 hraw2)
  have HTwo2 := Lib.hid (fun V (hV : Below w.heap.size w V) => two_any (1 + pk) n1 c1 n0 c0 n2 c2 A1 A0 A2 V (hraw1.keep fun p v0 v1 v2 h0 h2 => hV.block _ (cell_lt' h0)) (hraw0.keep fun p v0 v1 v2 h0 h2 => hV.block _ (cell_lt' h0)) (hraw2.keep fun p v0 v1 v2 h0 h2 => hV.block _ (cell_lt' h0)))
  clear hp hpk ht hraw0 hraw1 hraw2 w3
  go_enter Tryd.func9, Tryd.ntmps9
  go_wp2_with fail
  refine HTwo.out.mono ?_; rintro e w2 ⟨p, dp, Bp, mp, cp, q, dq, Bq, mq, cq, vs, g, cap, rest, rfl, hgp, hip, hgq, hiq, hfit, hrow, hb2⟩
  have hbA : Below w2.heap.size w2 ((w2.alloc (.cells #[.int .i64 dp.op, .int .i64 dp.k, .int .i64 dp.n, .string dp.s, .string dp.nm, .slice Bp mp cp] 26)).alloc (.cells #[.int .i64 dq.op, .int .i64 dq.k, .int .i64 dq.n, .string dq.s, .string dq.nm, .slice Bq mq cq] 26)) := b_more (b_new _ _) _
  have zp := (Box.new w2 dp Bp mp cp).below (b_new _ (.cells #[.int .i64 dq.op, .int .i64 dq.k, .int .i64 dq.n, .string dq.s, .string dq.nm, .slice Bq mq cq] 26))
  have zq := Box.new (w2.alloc (.cells #[.int .i64 dp.op, .int .i64 dp.k, .int .i64 dp.n, .string dp.s, .string dp.nm, .slice Bp mp cp] 26)) dq Bq mq cq
  rw [World.size_alloc] at zq
  have kp := (el_ok (c := cp) hgp hip).below hbA
  have kq := (el_ok (c := cq) hgq hiq).below hbA
  have hF : Facts ((w2.alloc (.cells #[.int .i64 dp.op, .int .i64 dp.k, .int .i64 dp.n, .string dp.s, .string dp.nm, .slice Bp mp cp] 26)).alloc (.cells #[.int .i64 dq.op, .int .i64 dq.k, .int .i64 dq.n, .string dq.s, .string dq.nm, .slice Bq mq cq] 26)) g cap vs rest := ⟨hfit, hrow.below hbA, (HT.out.below hb2).below hbA⟩
  have hbU := b_trans hb2 hbA
  obtain ⟨U, hU⟩ : ∃ U, (w2.alloc (.cells #[.int .i64 dp.op, .int .i64 dp.k, .int .i64 dp.n, .string dp.s, .string dp.nm, .slice Bp mp cp] 26)).alloc (.cells #[.int .i64 dq.op, .int .i64 dq.k, .int .i64 dq.n, .string dq.s, .string dq.nm, .slice Bq mq cq] 26) = U := ⟨_, rfl⟩
  rw [hU] at zp zq kp kq hF hbU
  have HU := Lib.hid hU
  have HBU := Lib.hid hbU
  have HK := Lib.hid (And.intro zp (And.intro zq (And.intro kp (And.intro kq hF))))
  clear hU hbU zp zq kp kq hF hbA hgp hip hgq hiq hfit hrow hb2 HTwo HT
  go_upto_region 2 with fail
  rw [HU.out]
  go_wp2_with fail
  refine (HP.out _).mono ?_; rintro e w9 ⟨rfl, rfl⟩
  go_wp2_with fail
  refine (HTwo2.out _ HBU.out).mono ?_; rintro e w4 ⟨x, dx, Bx, mx, cx, y, dy, By, my, cy, us, gu, cu, ru, rfl, hgx, hix, hgy, hiy, hfu, hru, hb4⟩
  clear hfu hru HP HTwo2 HU
  have hbA : Below w4.heap.size w4 ((w4.alloc (.cells #[.int .i64 dx.op, .int .i64 dx.k, .int .i64 dx.n, .string dx.s, .string dx.nm, .slice Bx mx cx] 26)).alloc (.cells #[.int .i64 dy.op, .int .i64 dy.k, .int .i64 dy.n, .string dy.s, .string dy.nm, .slice By my cy] 26)) := b_more (b_new _ _) _
  have zx := (Box.new w4 dx Bx mx cx).below (b_new _ (.cells #[.int .i64 dy.op, .int .i64 dy.k, .int .i64 dy.n, .string dy.s, .string dy.nm, .slice By my cy] 26))
  have zy := Box.new (w4.alloc (.cells #[.int .i64 dx.op, .int .i64 dx.k, .int .i64 dx.n, .string dx.s, .string dx.nm, .slice Bx mx cx] 26)) dy By my cy
  rw [World.size_alloc] at zy
  have kx := (el_ok (c := cx) hgx hix).below hbA
  have ky := (el_ok (c := cy) hgy hiy).below hbA
  have hbB := b_trans hb4 hbA
  have hbW := b_trans HBU.out hbB
  obtain ⟨zp, zq, kp, kq, hF⟩ := HK.out
  have zp := zp.below hbB
  have zq := zq.below hbB
  have kp := kp.below hbB
  have kq := kq.below hbB
  have hF := hF.below hbB
  clear HK HBU
  obtain ⟨W, hW⟩ : ∃ W, (w4.alloc (.cells #[.int .i64 dx.op, .int .i64 dx.k, .int .i64 dx.n, .string dx.s, .string dx.nm, .slice Bx mx cx] 26)).alloc (.cells #[.int .i64 dy.op, .int .i64 dy.k, .int .i64 dy.n, .string dy.s, .string dy.nm, .slice By my cy] 26) = W := ⟨_, rfl⟩
  rw [hW] at zx zy kx ky zp zq kp kq hF hbW
  obtain ⟨a, c, d, ea, eb, ec, ed, ha0, hc0, hcd⟩ := four hF.fit.ok kp.ok kq.ok kx.ok ky.ok
  obtain ⟨ak, an, az⟩ := a
  obtain ⟨ck, cn, cz⟩ := c
  obtain ⟨dk, dn, dz⟩ := d
  have ha0 : (0 : Int) < ak := ha0
  have hc0 : (0 : Int) < ck := hc0
  have fA : ∀ V g1 g2, Below W.heap.size W V → RowE V g1 [⟨p, dp, Bp, mp, cp⟩, ⟨q, dq, Bq, mq, cq⟩] → RowE V g2 [nodeOf 15 g1 [⟨p, dp, Bp, mp, cp⟩, ⟨q, dq, Bq, mq, cq⟩]] → Calls Tryd.prog 11 #[.agg #[.int .i64 4, .int .i64 0, .int .i64 0, .string ⟨#[]⟩, .string ⟨#[]⟩, .slice (some ⟨g2, 0, none⟩) 1 1], .slice (some ⟨g, 0, none⟩) 5 cap] V fun e' w' => e' = .returned (.tuple #[.agg #[.int .i64 ak, .int .i64 an, .string az], .int .i64 0]) ∧ Below V.heap.size V w' := fun V g1 g2 hV h1 h2 => by
    have := not_and kp kq hF V g1 g2 hV h1 h2
    rw [ea] at this; exact this
  have fB : ∀ V g1 g2 g3, Below W.heap.size W V → RowE V g1 [⟨p, dp, Bp, mp, cp⟩] → RowE V g2 [⟨q, dq, Bq, mq, cq⟩] → RowE V g3 [nodeOf 4 g1 [⟨p, dp, Bp, mp, cp⟩], nodeOf 4 g2 [⟨q, dq, Bq, mq, cq⟩]] → Calls Tryd.prog 11 #[.agg #[.int .i64 16, .int .i64 0, .int .i64 0, .string ⟨#[]⟩, .string ⟨#[]⟩, .slice (some ⟨g3, 0, none⟩) 2 2], .slice (some ⟨g, 0, none⟩) 5 cap] V fun e' w' => e' = .returned (.tuple #[.agg #[.int .i64 ak, .int .i64 an, .string az], .int .i64 0]) ∧ Below V.heap.size V w' := fun V g1 g2 g3 hV h1 h2 h3 => by
    have := or_not kp kq hF V g1 g2 g3 hV h1 h2 h3
    rw [eb] at this; exact this
  have fC : ∀ V g1, Below W.heap.size W V → RowE V g1 [⟨x, dx, Bx, mx, cx⟩, ⟨y, dy, By, my, cy⟩] → Calls Tryd.prog 11 #[.agg #[.int .i64 11, .int .i64 0, .int .i64 0, .string ⟨#[]⟩, .string ⟨#[]⟩, .slice (some ⟨g1, 0, none⟩) 2 2], .slice (some ⟨g, 0, none⟩) 5 cap] V fun e' w' => e' = .returned (.tuple #[.agg #[.int .i64 ck, .int .i64 cn, .string cz], .int .i64 0]) ∧ Below V.heap.size V w' := fun V g1 hV h1 => by
    have := less_of kx ky hF V g1 hV h1
    rw [ec] at this; exact this
  have fD : ∀ V g1 g2, Below W.heap.size W V → RowE V g1 [⟨y, dy, By, my, cy⟩, ⟨x, dx, Bx, mx, cx⟩] → RowE V g2 [nodeOf 12 g1 [⟨y, dy, By, my, cy⟩, ⟨x, dx, Bx, mx, cx⟩]] → Calls Tryd.prog 11 #[.agg #[.int .i64 4, .int .i64 0, .int .i64 0, .string ⟨#[]⟩, .string ⟨#[]⟩, .slice (some ⟨g2, 0, none⟩) 1 1], .slice (some ⟨g, 0, none⟩) 5 cap] V fun e' w' => e' = .returned (.tuple #[.agg #[.int .i64 dk, .int .i64 dn, .string dz], .int .i64 0]) ∧ Below V.heap.size V w' := fun V g1 g2 hV h1 h2 => by
    have := not_most ky kx hF V g1 g2 hV h1 h2
    rw [ed] at this; exact this
  have hcp : ∀ V, Below W.heap.size W V → V.cell? ⟨w2.heap.size, 0, none⟩ = some (.int .i64 dp.op) ∧ V.cell? ⟨w2.heap.size, 1, none⟩ = some (.int .i64 dp.k) ∧ V.cell? ⟨w2.heap.size, 2, none⟩ = some (.int .i64 dp.n) ∧ V.cell? ⟨w2.heap.size, 3, none⟩ = some (.string dp.s) ∧ V.cell? ⟨w2.heap.size, 4, none⟩ = some (.string dp.nm) ∧ V.cell? ⟨w2.heap.size, 5, none⟩ = some (.slice Bp mp cp) ∧ V.cell? ⟨w2.heap.size + 1, 0, none⟩ = some (.int .i64 dq.op) ∧ V.cell? ⟨w2.heap.size + 1, 1, none⟩ = some (.int .i64 dq.k) ∧ V.cell? ⟨w2.heap.size + 1, 2, none⟩ = some (.int .i64 dq.n) ∧ V.cell? ⟨w2.heap.size + 1, 3, none⟩ = some (.string dq.s) ∧ V.cell? ⟨w2.heap.size + 1, 4, none⟩ = some (.string dq.nm) ∧ V.cell? ⟨w2.heap.size + 1, 5, none⟩ = some (.slice Bq mq cq) := fun V hV => by
    obtain ⟨a0, a1, a2, a3, a4, a5⟩ := (zp.below hV).cells
    obtain ⟨b0, b1, b2, b3, b4, b5⟩ := (zq.below hV).cells
    exact ⟨a0, a1, a2, a3, a4, a5, b0, b1, b2, b3, b4, b5⟩
  have hcx : ∀ V, Below W.heap.size W V → V.cell? ⟨w4.heap.size, 0, none⟩ = some (.int .i64 dx.op) ∧ V.cell? ⟨w4.heap.size, 1, none⟩ = some (.int .i64 dx.k) ∧ V.cell? ⟨w4.heap.size, 2, none⟩ = some (.int .i64 dx.n) ∧ V.cell? ⟨w4.heap.size, 3, none⟩ = some (.string dx.s) ∧ V.cell? ⟨w4.heap.size, 4, none⟩ = some (.string dx.nm) ∧ V.cell? ⟨w4.heap.size, 5, none⟩ = some (.slice Bx mx cx) ∧ V.cell? ⟨w4.heap.size + 1, 0, none⟩ = some (.int .i64 dy.op) ∧ V.cell? ⟨w4.heap.size + 1, 1, none⟩ = some (.int .i64 dy.k) ∧ V.cell? ⟨w4.heap.size + 1, 2, none⟩ = some (.int .i64 dy.n) ∧ V.cell? ⟨w4.heap.size + 1, 3, none⟩ = some (.string dy.s) ∧ V.cell? ⟨w4.heap.size + 1, 4, none⟩ = some (.string dy.nm) ∧ V.cell? ⟨w4.heap.size + 1, 5, none⟩ = some (.slice By my cy) := fun V hV => by
    obtain ⟨a0, a1, a2, a3, a4, a5⟩ := (zx.below hV).cells
    obtain ⟨b0, b1, b2, b3, b4, b5⟩ := (zy.below hV).cells
    exact ⟨a0, a1, a2, a3, a4, a5, b0, b1, b2, b3, b4, b5⟩
  have hcd : (ck = dk ∧ cn = dn ∧ cz = dz) ∨ (ck = 5 ∧ dk = 5) := by
    rcases hcd with h | h
    · injection h with h1 h2 h3; exact .inl ⟨h1, h2, h3⟩
    · exact .inr h
  have FA := Lib.hid fA
  have FB := Lib.hid fB
  have FC := Lib.hid fC
  have FD := Lib.hid fD
  have HCp := Lib.hid hcp
  have HCx := Lib.hid hcx
  have HA0 := Lib.hid (And.intro ha0 (And.intro hc0 hcd))
  have HBW := Lib.hid hbW
  have HW := Lib.hid hW
  clear fA fB fC fD hcp hcx ha0 hc0 hcd hbW hW zp zq zx zy kp kq kx ky hF ea eb ec ed hbA hbB hb4 hgx hix hgy hiy
  go_upto_region 3 with fail
  rw [HW.out]
  obtain ⟨q0, q1, q2, q3, q4, q5, p0, p1, p2, p3, p4, p5⟩ := HCp.out W (Below.refl _ _)
  have HBW' := Lib.hid (Below.refl W.heap.size W)
  go_wp2_with fail
  refine (EvW.with_any _ _ _ _ _).mono ?_; rintro e e5 ⟨rfl, hb5⟩
  have r1 : RowE (W.alloc (.cells #[.int .i64 dp.op, .int .i64 dp.k, .int .i64 dp.n, .string dp.s, .string dp.nm, .slice Bp mp cp, .int .i64 dq.op, .int .i64 dq.k, .int .i64 dq.n, .string dq.s, .string dq.nm, .slice Bq mq cq] 26)) W.heap.size [⟨p, dp, Bp, mp, cp⟩, ⟨q, dq, Bq, mq, cq⟩] := World.alloc_heap_new W _
  have r1 := r1.below hb5
  have b1 := b_trans (b_new W (.cells #[.int .i64 dp.op, .int .i64 dp.k, .int .i64 dp.n, .string dp.s, .string dp.nm, .slice Bp mp cp, .int .i64 dq.op, .int .i64 dq.k, .int .i64 dq.n, .string dq.s, .string dq.nm, .slice Bq mq cq] 26)) hb5
  clear hb5
  go_wp2_with fail
  refine (EvW.with_any _ _ _ _ _).mono ?_; rintro e e6 ⟨rfl, hb6⟩
  have r2 : RowE (e5.alloc (.cells #[.int .i64 15, .int .i64 0, .int .i64 0, .string ⟨#[]⟩, .string ⟨#[]⟩, .slice (some ⟨W.heap.size, 0, none⟩) 2 2] 26)) e5.heap.size [nodeOf 15 W.heap.size [⟨p, dp, Bp, mp, cp⟩, ⟨q, dq, Bq, mq, cq⟩]] := World.alloc_heap_new e5 _
  have r2 := r2.below hb6
  have r1 := (r1.below (b_new e5 (.cells #[.int .i64 15, .int .i64 0, .int .i64 0, .string ⟨#[]⟩, .string ⟨#[]⟩, .slice (some ⟨W.heap.size, 0, none⟩) 2 2] 26))).below hb6
  have b1 := b_trans b1 (b_trans (b_new e5 (.cells #[.int .i64 15, .int .i64 0, .int .i64 0, .string ⟨#[]⟩, .string ⟨#[]⟩, .slice (some ⟨W.heap.size, 0, none⟩) 2 2] 26)) hb6)
  clear hb6
  go_wp2_with fail
  refine (FA.out _ _ _ (b_trans HBW'.out b1) r1 r2).mono ?_; rintro e e7 ⟨rfl, hb7⟩
  have b1 := b_trans b1 hb7
  have Ba := Lib.hid (BV.new e7 ak an az)
  have b2 := b_more b1 (.cells #[.int .i64 ak, .int .i64 an, .string az] 23)
  clear hb7 b1 r1 r2
  go_upto_region 4 with fail
  obtain ⟨X, hX⟩ : ∃ X, e7.alloc (.cells #[.int .i64 ak, .int .i64 an, .string az] 23) = X := ⟨_, rfl⟩
  have KA := Lib.hid (show BV X e7.heap.size ak an az by rw [← hX]; exact Ba.out)
  have HBX := Lib.hid (show Below W.heap.size W X by rw [← hX]; exact b2)
  rw [hX]
  clear hX b2 Ba q0 q1 q2 q3 q4 q5 p0 p1 p2 p3 p4 p5 FA
  have hc4 : ∀ V, Below X.heap.size X V → V.cell? ⟨w2.heap.size, 0, none⟩ = some (.int .i64 dp.op) ∧ V.cell? ⟨w2.heap.size, 1, none⟩ = some (.int .i64 dp.k) ∧ V.cell? ⟨w2.heap.size, 2, none⟩ = some (.int .i64 dp.n) ∧ V.cell? ⟨w2.heap.size, 3, none⟩ = some (.string dp.s) ∧ V.cell? ⟨w2.heap.size, 4, none⟩ = some (.string dp.nm) ∧ V.cell? ⟨w2.heap.size, 5, none⟩ = some (.slice Bp mp cp) ∧ V.cell? ⟨w2.heap.size + 1, 0, none⟩ = some (.int .i64 dq.op) ∧ V.cell? ⟨w2.heap.size + 1, 1, none⟩ = some (.int .i64 dq.k) ∧ V.cell? ⟨w2.heap.size + 1, 2, none⟩ = some (.int .i64 dq.n) ∧ V.cell? ⟨w2.heap.size + 1, 3, none⟩ = some (.string dq.s) ∧ V.cell? ⟨w2.heap.size + 1, 4, none⟩ = some (.string dq.nm) ∧ V.cell? ⟨w2.heap.size + 1, 5, none⟩ = some (.slice Bq mq cq) := fun V hV => HCp.out V (b_trans HBX.out hV)
  have hs4 : ∀ (U : World) (B : Nat) (u0 u1 u2 : Value), Below X.heap.size X U → X.heap.size ≤ B → ∀ V, V = ((U.setCell ⟨B, 0, none⟩ u0).setCell ⟨B, 1, none⟩ u1).setCell ⟨B, 2, none⟩ u2 → V.cell? ⟨w2.heap.size, 0, none⟩ = some (.int .i64 dp.op) ∧ V.cell? ⟨w2.heap.size, 1, none⟩ = some (.int .i64 dp.k) ∧ V.cell? ⟨w2.heap.size, 2, none⟩ = some (.int .i64 dp.n) ∧ V.cell? ⟨w2.heap.size, 3, none⟩ = some (.string dp.s) ∧ V.cell? ⟨w2.heap.size, 4, none⟩ = some (.string dp.nm) ∧ V.cell? ⟨w2.heap.size, 5, none⟩ = some (.slice Bp mp cp) ∧ V.cell? ⟨w2.heap.size + 1, 0, none⟩ = some (.int .i64 dq.op) ∧ V.cell? ⟨w2.heap.size + 1, 1, none⟩ = some (.int .i64 dq.k) ∧ V.cell? ⟨w2.heap.size + 1, 2, none⟩ = some (.int .i64 dq.n) ∧ V.cell? ⟨w2.heap.size + 1, 3, none⟩ = some (.string dq.s) ∧ V.cell? ⟨w2.heap.size + 1, 4, none⟩ = some (.string dq.nm) ∧ V.cell? ⟨w2.heap.size + 1, 5, none⟩ = some (.slice Bq mq cq) := fun U B u0 u1 u2 hU hB V hV => by
    subst hV
    exact HCp.out _ (HBX.out.trans ((b_set3' hU B hB 0 1 2 u0 u1 u2).mono HBX.out.size))
  have hoB : ∀ V g1 g2 g3, Below X.heap.size X V → RowE V g1 [⟨p, dp, Bp, mp, cp⟩] → RowE V g2 [⟨q, dq, Bq, mq, cq⟩] → RowE V g3 [nodeOf 4 g1 [⟨p, dp, Bp, mp, cp⟩], nodeOf 4 g2 [⟨q, dq, Bq, mq, cq⟩]] → Calls Tryd.prog 11 #[.agg #[.int .i64 16, .int .i64 0, .int .i64 0, .string ⟨#[]⟩, .string ⟨#[]⟩, .slice (some ⟨g3, 0, none⟩) 2 2], .slice (some ⟨g, 0, none⟩) 5 cap] V fun e' w' => e' = .returned (.tuple #[.agg #[.int .i64 ak, .int .i64 an, .string az], .int .i64 0]) ∧ Below V.heap.size V w' := fun V g1 g2 g3 hV h1 h2 h3 => FB.out V g1 g2 g3 (b_trans HBX.out hV) h1 h2 h3
  have HC4 := Lib.hid hc4
  have HS4 := Lib.hid hs4
  have HOB := Lib.hid hoB
  have hrp : ∀ (V : World) (g : Nat), V.heap.size = g → RowE (V.alloc (.cells #[.int .i64 dp.op, .int .i64 dp.k, .int .i64 dp.n, .string dp.s, .string dp.nm, .slice Bp mp cp] 26)) g [⟨p, dp, Bp, mp, cp⟩] := fun V g h => row_at V g [⟨p, dp, Bp, mp, cp⟩] h
  have hrq : ∀ (V : World) (g : Nat), V.heap.size = g → RowE (V.alloc (.cells #[.int .i64 dq.op, .int .i64 dq.k, .int .i64 dq.n, .string dq.s, .string dq.nm, .slice Bq mq cq] 26)) g [⟨q, dq, Bq, mq, cq⟩] := fun V g h => row_at V g [⟨q, dq, Bq, mq, cq⟩] h
  have hrn : ∀ (g1 g2 : Nat) (V : World) (g : Nat), V.heap.size = g → RowE (V.alloc (.cells #[.int .i64 4, .int .i64 0, .int .i64 0, .string ⟨#[]⟩, .string ⟨#[]⟩, .slice (some ⟨g1, 0, none⟩) 1 1, .int .i64 4, .int .i64 0, .int .i64 0, .string ⟨#[]⟩, .string ⟨#[]⟩, .slice (some ⟨g2, 0, none⟩) 1 1] 26)) g [nodeOf 4 g1 [⟨p, dp, Bp, mp, cp⟩], nodeOf 4 g2 [⟨q, dq, Bq, mq, cq⟩]] := fun g1 g2 V g h => row_at V g [nodeOf 4 g1 [⟨p, dp, Bp, mp, cp⟩], nodeOf 4 g2 [⟨q, dq, Bq, mq, cq⟩]] h
  have HRp := Lib.hid hrp
  have HRq := Lib.hid hrq
  have HRn := Lib.hid hrn
  clear hc4 hs4 hoB hrp hrq hrn
  go_cut [17, 18] (fun sA sB wx => ∃ (B : Nat), sA = .pointer (some ⟨B, 0, none⟩) ∧ sB = .int .i64 0 ∧ BV wx B ak an az ∧ Below X.heap.size X wx)
  case first =>
    have hbl := Below.refl X.heap.size X
    obtain ⟨q0, q1, q2, q3, q4, q5, p0, p1, p2, p3, p4, p5⟩ := HC4.out X hbl
    go_region_held3 (fun V => V.cell? ⟨w2.heap.size, 0, none⟩ = some (.int .i64 dp.op) ∧ V.cell? ⟨w2.heap.size, 1, none⟩ = some (.int .i64 dp.k) ∧ V.cell? ⟨w2.heap.size, 2, none⟩ = some (.int .i64 dp.n) ∧ V.cell? ⟨w2.heap.size, 3, none⟩ = some (.string dp.s) ∧ V.cell? ⟨w2.heap.size, 4, none⟩ = some (.string dp.nm) ∧ V.cell? ⟨w2.heap.size, 5, none⟩ = some (.slice Bp mp cp) ∧ V.cell? ⟨w2.heap.size + 1, 0, none⟩ = some (.int .i64 dq.op) ∧ V.cell? ⟨w2.heap.size + 1, 1, none⟩ = some (.int .i64 dq.k) ∧ V.cell? ⟨w2.heap.size + 1, 2, none⟩ = some (.int .i64 dq.n) ∧ V.cell? ⟨w2.heap.size + 1, 3, none⟩ = some (.string dq.s) ∧ V.cell? ⟨w2.heap.size + 1, 4, none⟩ = some (.string dq.nm) ∧ V.cell? ⟨w2.heap.size + 1, 5, none⟩ = some (.slice Bq mq cq)) (first | (with_reducible exact HC4.out _ (by ((repeat (first | (with_reducible refine b_more ?_ _) | (with_reducible refine b_drew ?_))); (first | (with_reducible assumption) | (with_reducible exact Below.refl _ _))))) | (with_reducible exact HS4.out _ _ _ _ _ hbl (by first | exact Nat.le_refl _ | omega) _ rfl))
      (first | (go_at_call 23; first | ((with_reducible refine (withN hr1 hr2 ?_).mono ?_); (((repeat (with_reducible refine rowE_drew ?_)); first | (with_reducible assumption) | ((with_reducible refine HRn.out _ _ _ _ ?_); first | rfl | (exact World.size_alloc _ _) | (exact sz2 _ _ _)) | ((with_reducible refine rowE_alloc ?_ _); ((repeat (with_reducible refine rowE_drew ?_)); first | (with_reducible assumption) | ((with_reducible refine HRn.out _ _ _ _ ?_); first | rfl | (exact World.size_alloc _ _) | (exact sz2 _ _ _)) | ((with_reducible refine rowE_alloc ?_ _); ((repeat (with_reducible refine rowE_drew ?_)); first | (with_reducible assumption) | ((with_reducible refine HRn.out _ _ _ _ ?_); first | rfl | (exact World.size_alloc _ _) | (exact sz2 _ _ _)) | ((with_reducible refine rowE_alloc ?_ _); ((repeat (with_reducible refine rowE_drew ?_)); with_reducible assumption)))))))); rintro e wn ⟨rfl, hbn, hr3⟩; have hr1 := hr1.below (b_trans (by ((repeat (first | (with_reducible refine b_more ?_ _) | (with_reducible refine b_drew ?_))); (first | (with_reducible assumption) | (with_reducible exact Below.refl _ _)))) hbn); have hr2 := hr2.below (b_trans (by ((repeat (first | (with_reducible refine b_more ?_ _) | (with_reducible refine b_drew ?_))); (first | (with_reducible assumption) | (with_reducible exact Below.refl _ _)))) hbn); have hbl : Below X.heap.size X wn := b_trans (by ((repeat (first | (with_reducible refine b_more ?_ _) | (with_reducible refine b_drew ?_))); (first | (with_reducible assumption) | (with_reducible exact Below.refl _ _)))) hbn; have sn := hbl.size; (first | (have bx : BV wn X.heap.size 0 0 ⟨#[]⟩ := BV.below (by ((repeat (with_reducible refine bv_drew ?_)); first | (with_reducible assumption) | ((with_reducible refine bv_at _ _ ?_); first | rfl | (exact World.size_alloc _ _) | (exact sz2 _ _ _)) | ((with_reducible refine bv_alloc ?_ _); ((repeat (with_reducible refine bv_drew ?_)); first | (with_reducible assumption) | ((with_reducible refine bv_at _ _ ?_); first | rfl | (exact World.size_alloc _ _) | (exact sz2 _ _ _)) | ((with_reducible refine bv_alloc ?_ _); ((repeat (with_reducible refine bv_drew ?_)); first | (with_reducible assumption) | ((with_reducible refine bv_at _ _ ?_); first | rfl | (exact World.size_alloc _ _) | (exact sz2 _ _ _)) | ((with_reducible refine bv_alloc ?_ _); ((repeat (with_reducible refine bv_drew ?_)); with_reducible assumption)))))))) hbn) | (have bx : BV wn (X.heap.size + 1) 0 0 ⟨#[]⟩ := BV.below (by ((repeat (with_reducible refine bv_drew ?_)); first | (with_reducible assumption) | ((with_reducible refine bv_at _ _ ?_); first | rfl | (exact World.size_alloc _ _) | (exact sz2 _ _ _)) | ((with_reducible refine bv_alloc ?_ _); ((repeat (with_reducible refine bv_drew ?_)); first | (with_reducible assumption) | ((with_reducible refine bv_at _ _ ?_); first | rfl | (exact World.size_alloc _ _) | (exact sz2 _ _ _)) | ((with_reducible refine bv_alloc ?_ _); ((repeat (with_reducible refine bv_drew ?_)); first | (with_reducible assumption) | ((with_reducible refine bv_at _ _ ?_); first | rfl | (exact World.size_alloc _ _) | (exact sz2 _ _ _)) | ((with_reducible refine bv_alloc ?_ _); ((repeat (with_reducible refine bv_drew ?_)); with_reducible assumption)))))))) hbn) | (have bx : BV wn (X.heap.size + 1 + 1) 0 0 ⟨#[]⟩ := BV.below (by ((repeat (with_reducible refine bv_drew ?_)); first | (with_reducible assumption) | ((with_reducible refine bv_at _ _ ?_); first | rfl | (exact World.size_alloc _ _) | (exact sz2 _ _ _)) | ((with_reducible refine bv_alloc ?_ _); ((repeat (with_reducible refine bv_drew ?_)); first | (with_reducible assumption) | ((with_reducible refine bv_at _ _ ?_); first | rfl | (exact World.size_alloc _ _) | (exact sz2 _ _ _)) | ((with_reducible refine bv_alloc ?_ _); ((repeat (with_reducible refine bv_drew ?_)); first | (with_reducible assumption) | ((with_reducible refine bv_at _ _ ?_); first | rfl | (exact World.size_alloc _ _) | (exact sz2 _ _ _)) | ((with_reducible refine bv_alloc ?_ _); ((repeat (with_reducible refine bv_drew ?_)); with_reducible assumption)))))))) hbn) | (have bx : BV wn wk.heap.size 0 0 ⟨#[]⟩ := BV.below (by ((repeat (with_reducible refine bv_drew ?_)); first | (with_reducible assumption) | ((with_reducible refine bv_at _ _ ?_); first | rfl | (exact World.size_alloc _ _) | (exact sz2 _ _ _)) | ((with_reducible refine bv_alloc ?_ _); ((repeat (with_reducible refine bv_drew ?_)); first | (with_reducible assumption) | ((with_reducible refine bv_at _ _ ?_); first | rfl | (exact World.size_alloc _ _) | (exact sz2 _ _ _)) | ((with_reducible refine bv_alloc ?_ _); ((repeat (with_reducible refine bv_drew ?_)); first | (with_reducible assumption) | ((with_reducible refine bv_at _ _ ?_); first | rfl | (exact World.size_alloc _ _) | (exact sz2 _ _ _)) | ((with_reducible refine bv_alloc ?_ _); ((repeat (with_reducible refine bv_drew ?_)); with_reducible assumption)))))))) hbn) | (have bx : BV wn (wk.heap.size + 1) 0 0 ⟨#[]⟩ := BV.below (by ((repeat (with_reducible refine bv_drew ?_)); first | (with_reducible assumption) | ((with_reducible refine bv_at _ _ ?_); first | rfl | (exact World.size_alloc _ _) | (exact sz2 _ _ _)) | ((with_reducible refine bv_alloc ?_ _); ((repeat (with_reducible refine bv_drew ?_)); first | (with_reducible assumption) | ((with_reducible refine bv_at _ _ ?_); first | rfl | (exact World.size_alloc _ _) | (exact sz2 _ _ _)) | ((with_reducible refine bv_alloc ?_ _); ((repeat (with_reducible refine bv_drew ?_)); first | (with_reducible assumption) | ((with_reducible refine bv_at _ _ ?_); first | rfl | (exact World.size_alloc _ _) | (exact sz2 _ _ _)) | ((with_reducible refine bv_alloc ?_ _); ((repeat (with_reducible refine bv_drew ?_)); with_reducible assumption)))))))) hbn) | (have bx : BV wn wm.heap.size 0 0 ⟨#[]⟩ := BV.below (by ((repeat (with_reducible refine bv_drew ?_)); first | (with_reducible assumption) | ((with_reducible refine bv_at _ _ ?_); first | rfl | (exact World.size_alloc _ _) | (exact sz2 _ _ _)) | ((with_reducible refine bv_alloc ?_ _); ((repeat (with_reducible refine bv_drew ?_)); first | (with_reducible assumption) | ((with_reducible refine bv_at _ _ ?_); first | rfl | (exact World.size_alloc _ _) | (exact sz2 _ _ _)) | ((with_reducible refine bv_alloc ?_ _); ((repeat (with_reducible refine bv_drew ?_)); first | (with_reducible assumption) | ((with_reducible refine bv_at _ _ ?_); first | rfl | (exact World.size_alloc _ _) | (exact sz2 _ _ _)) | ((with_reducible refine bv_alloc ?_ _); ((repeat (with_reducible refine bv_drew ?_)); with_reducible assumption)))))))) hbn) | (have bx : BV wn (wm.heap.size + 1) 0 0 ⟨#[]⟩ := BV.below (by ((repeat (with_reducible refine bv_drew ?_)); first | (with_reducible assumption) | ((with_reducible refine bv_at _ _ ?_); first | rfl | (exact World.size_alloc _ _) | (exact sz2 _ _ _)) | ((with_reducible refine bv_alloc ?_ _); ((repeat (with_reducible refine bv_drew ?_)); first | (with_reducible assumption) | ((with_reducible refine bv_at _ _ ?_); first | rfl | (exact World.size_alloc _ _) | (exact sz2 _ _ _)) | ((with_reducible refine bv_alloc ?_ _); ((repeat (with_reducible refine bv_drew ?_)); first | (with_reducible assumption) | ((with_reducible refine bv_at _ _ ?_); first | rfl | (exact World.size_alloc _ _) | (exact sz2 _ _ _)) | ((with_reducible refine bv_alloc ?_ _); ((repeat (with_reducible refine bv_drew ?_)); with_reducible assumption)))))))) hbn) | skip)) | (have hh := hr1; clear hh; (with_reducible refine (withR (es := [⟨q, dq, Bq, mq, cq⟩]) ?_).mono ?_); (((repeat (with_reducible refine rowE_drew ?_)); first | (with_reducible assumption) | ((with_reducible refine HRq.out _ _ ?_); first | rfl | (exact World.size_alloc _ _) | (exact sz2 _ _ _)) | ((with_reducible refine rowE_alloc ?_ _); ((repeat (with_reducible refine rowE_drew ?_)); first | (with_reducible assumption) | ((with_reducible refine HRq.out _ _ ?_); first | rfl | (exact World.size_alloc _ _) | (exact sz2 _ _ _)) | ((with_reducible refine rowE_alloc ?_ _); ((repeat (with_reducible refine rowE_drew ?_)); first | (with_reducible assumption) | ((with_reducible refine HRq.out _ _ ?_); first | rfl | (exact World.size_alloc _ _) | (exact sz2 _ _ _)) | ((with_reducible refine rowE_alloc ?_ _); ((repeat (with_reducible refine rowE_drew ?_)); with_reducible assumption)))))))); rintro e wm ⟨rfl, hbm, hr2⟩; have hr1 := hr1.below (b_trans (by ((repeat (first | (with_reducible refine b_more ?_ _) | (with_reducible refine b_drew ?_))); (first | (with_reducible assumption) | (with_reducible exact Below.refl _ _)))) hbm); have hbl : Below X.heap.size X wm := b_trans (by ((repeat (first | (with_reducible refine b_more ?_ _) | (with_reducible refine b_drew ?_))); (first | (with_reducible assumption) | (with_reducible exact Below.refl _ _)))) hbm; have sm := hbl.size; (first | (have bx : BV wm X.heap.size 0 0 ⟨#[]⟩ := BV.below (by ((repeat (with_reducible refine bv_drew ?_)); first | (with_reducible assumption) | ((with_reducible refine bv_at _ _ ?_); first | rfl | (exact World.size_alloc _ _) | (exact sz2 _ _ _)) | ((with_reducible refine bv_alloc ?_ _); ((repeat (with_reducible refine bv_drew ?_)); first | (with_reducible assumption) | ((with_reducible refine bv_at _ _ ?_); first | rfl | (exact World.size_alloc _ _) | (exact sz2 _ _ _)) | ((with_reducible refine bv_alloc ?_ _); ((repeat (with_reducible refine bv_drew ?_)); first | (with_reducible assumption) | ((with_reducible refine bv_at _ _ ?_); first | rfl | (exact World.size_alloc _ _) | (exact sz2 _ _ _)) | ((with_reducible refine bv_alloc ?_ _); ((repeat (with_reducible refine bv_drew ?_)); with_reducible assumption)))))))) hbm) | (have bx : BV wm (X.heap.size + 1) 0 0 ⟨#[]⟩ := BV.below (by ((repeat (with_reducible refine bv_drew ?_)); first | (with_reducible assumption) | ((with_reducible refine bv_at _ _ ?_); first | rfl | (exact World.size_alloc _ _) | (exact sz2 _ _ _)) | ((with_reducible refine bv_alloc ?_ _); ((repeat (with_reducible refine bv_drew ?_)); first | (with_reducible assumption) | ((with_reducible refine bv_at _ _ ?_); first | rfl | (exact World.size_alloc _ _) | (exact sz2 _ _ _)) | ((with_reducible refine bv_alloc ?_ _); ((repeat (with_reducible refine bv_drew ?_)); first | (with_reducible assumption) | ((with_reducible refine bv_at _ _ ?_); first | rfl | (exact World.size_alloc _ _) | (exact sz2 _ _ _)) | ((with_reducible refine bv_alloc ?_ _); ((repeat (with_reducible refine bv_drew ?_)); with_reducible assumption)))))))) hbm) | (have bx : BV wm (X.heap.size + 1 + 1) 0 0 ⟨#[]⟩ := BV.below (by ((repeat (with_reducible refine bv_drew ?_)); first | (with_reducible assumption) | ((with_reducible refine bv_at _ _ ?_); first | rfl | (exact World.size_alloc _ _) | (exact sz2 _ _ _)) | ((with_reducible refine bv_alloc ?_ _); ((repeat (with_reducible refine bv_drew ?_)); first | (with_reducible assumption) | ((with_reducible refine bv_at _ _ ?_); first | rfl | (exact World.size_alloc _ _) | (exact sz2 _ _ _)) | ((with_reducible refine bv_alloc ?_ _); ((repeat (with_reducible refine bv_drew ?_)); first | (with_reducible assumption) | ((with_reducible refine bv_at _ _ ?_); first | rfl | (exact World.size_alloc _ _) | (exact sz2 _ _ _)) | ((with_reducible refine bv_alloc ?_ _); ((repeat (with_reducible refine bv_drew ?_)); with_reducible assumption)))))))) hbm) | (have bx : BV wm wk.heap.size 0 0 ⟨#[]⟩ := BV.below (by ((repeat (with_reducible refine bv_drew ?_)); first | (with_reducible assumption) | ((with_reducible refine bv_at _ _ ?_); first | rfl | (exact World.size_alloc _ _) | (exact sz2 _ _ _)) | ((with_reducible refine bv_alloc ?_ _); ((repeat (with_reducible refine bv_drew ?_)); first | (with_reducible assumption) | ((with_reducible refine bv_at _ _ ?_); first | rfl | (exact World.size_alloc _ _) | (exact sz2 _ _ _)) | ((with_reducible refine bv_alloc ?_ _); ((repeat (with_reducible refine bv_drew ?_)); first | (with_reducible assumption) | ((with_reducible refine bv_at _ _ ?_); first | rfl | (exact World.size_alloc _ _) | (exact sz2 _ _ _)) | ((with_reducible refine bv_alloc ?_ _); ((repeat (with_reducible refine bv_drew ?_)); with_reducible assumption)))))))) hbm) | (have bx : BV wm (wk.heap.size + 1) 0 0 ⟨#[]⟩ := BV.below (by ((repeat (with_reducible refine bv_drew ?_)); first | (with_reducible assumption) | ((with_reducible refine bv_at _ _ ?_); first | rfl | (exact World.size_alloc _ _) | (exact sz2 _ _ _)) | ((with_reducible refine bv_alloc ?_ _); ((repeat (with_reducible refine bv_drew ?_)); first | (with_reducible assumption) | ((with_reducible refine bv_at _ _ ?_); first | rfl | (exact World.size_alloc _ _) | (exact sz2 _ _ _)) | ((with_reducible refine bv_alloc ?_ _); ((repeat (with_reducible refine bv_drew ?_)); first | (with_reducible assumption) | ((with_reducible refine bv_at _ _ ?_); first | rfl | (exact World.size_alloc _ _) | (exact sz2 _ _ _)) | ((with_reducible refine bv_alloc ?_ _); ((repeat (with_reducible refine bv_drew ?_)); with_reducible assumption)))))))) hbm) | skip)) | ((with_reducible refine (withR (es := [⟨p, dp, Bp, mp, cp⟩]) ?_).mono ?_); (((repeat (with_reducible refine rowE_drew ?_)); first | (with_reducible assumption) | ((with_reducible refine HRp.out _ _ ?_); first | rfl | (exact World.size_alloc _ _) | (exact sz2 _ _ _)) | ((with_reducible refine rowE_alloc ?_ _); ((repeat (with_reducible refine rowE_drew ?_)); first | (with_reducible assumption) | ((with_reducible refine HRp.out _ _ ?_); first | rfl | (exact World.size_alloc _ _) | (exact sz2 _ _ _)) | ((with_reducible refine rowE_alloc ?_ _); ((repeat (with_reducible refine rowE_drew ?_)); first | (with_reducible assumption) | ((with_reducible refine HRp.out _ _ ?_); first | rfl | (exact World.size_alloc _ _) | (exact sz2 _ _ _)) | ((with_reducible refine rowE_alloc ?_ _); ((repeat (with_reducible refine rowE_drew ?_)); with_reducible assumption)))))))); rintro e wk ⟨rfl, hbk, hr1⟩; have hbl : Below X.heap.size X wk := b_trans (by ((repeat (first | (with_reducible refine b_more ?_ _) | (with_reducible refine b_drew ?_))); (first | (with_reducible assumption) | (with_reducible exact Below.refl _ _)))) hbk; have sk := hbl.size; (first | (have hrq : RowE wk X.heap.size [⟨q, dq, Bq, mq, cq⟩] := RowE.below (by ((repeat (with_reducible refine rowE_drew ?_)); first | (with_reducible assumption) | ((with_reducible refine HRq.out _ _ ?_); first | rfl | (exact World.size_alloc _ _) | (exact sz2 _ _ _)) | ((with_reducible refine rowE_alloc ?_ _); ((repeat (with_reducible refine rowE_drew ?_)); first | (with_reducible assumption) | ((with_reducible refine HRq.out _ _ ?_); first | rfl | (exact World.size_alloc _ _) | (exact sz2 _ _ _)) | ((with_reducible refine rowE_alloc ?_ _); ((repeat (with_reducible refine rowE_drew ?_)); first | (with_reducible assumption) | ((with_reducible refine HRq.out _ _ ?_); first | rfl | (exact World.size_alloc _ _) | (exact sz2 _ _ _)) | ((with_reducible refine rowE_alloc ?_ _); ((repeat (with_reducible refine rowE_drew ?_)); with_reducible assumption)))))))) hbk) | (have hrq : RowE wk (X.heap.size + 1) [⟨q, dq, Bq, mq, cq⟩] := RowE.below (by ((repeat (with_reducible refine rowE_drew ?_)); first | (with_reducible assumption) | ((with_reducible refine HRq.out _ _ ?_); first | rfl | (exact World.size_alloc _ _) | (exact sz2 _ _ _)) | ((with_reducible refine rowE_alloc ?_ _); ((repeat (with_reducible refine rowE_drew ?_)); first | (with_reducible assumption) | ((with_reducible refine HRq.out _ _ ?_); first | rfl | (exact World.size_alloc _ _) | (exact sz2 _ _ _)) | ((with_reducible refine rowE_alloc ?_ _); ((repeat (with_reducible refine rowE_drew ?_)); first | (with_reducible assumption) | ((with_reducible refine HRq.out _ _ ?_); first | rfl | (exact World.size_alloc _ _) | (exact sz2 _ _ _)) | ((with_reducible refine rowE_alloc ?_ _); ((repeat (with_reducible refine rowE_drew ?_)); with_reducible assumption)))))))) hbk) | (have hrq : RowE wk (X.heap.size + 1 + 1) [⟨q, dq, Bq, mq, cq⟩] := RowE.below (by ((repeat (with_reducible refine rowE_drew ?_)); first | (with_reducible assumption) | ((with_reducible refine HRq.out _ _ ?_); first | rfl | (exact World.size_alloc _ _) | (exact sz2 _ _ _)) | ((with_reducible refine rowE_alloc ?_ _); ((repeat (with_reducible refine rowE_drew ?_)); first | (with_reducible assumption) | ((with_reducible refine HRq.out _ _ ?_); first | rfl | (exact World.size_alloc _ _) | (exact sz2 _ _ _)) | ((with_reducible refine rowE_alloc ?_ _); ((repeat (with_reducible refine rowE_drew ?_)); first | (with_reducible assumption) | ((with_reducible refine HRq.out _ _ ?_); first | rfl | (exact World.size_alloc _ _) | (exact sz2 _ _ _)) | ((with_reducible refine rowE_alloc ?_ _); ((repeat (with_reducible refine rowE_drew ?_)); with_reducible assumption)))))))) hbk) | skip); (first | (have bx : BV wk X.heap.size 0 0 ⟨#[]⟩ := BV.below (by ((repeat (with_reducible refine bv_drew ?_)); first | (with_reducible assumption) | ((with_reducible refine bv_at _ _ ?_); first | rfl | (exact World.size_alloc _ _) | (exact sz2 _ _ _)) | ((with_reducible refine bv_alloc ?_ _); ((repeat (with_reducible refine bv_drew ?_)); first | (with_reducible assumption) | ((with_reducible refine bv_at _ _ ?_); first | rfl | (exact World.size_alloc _ _) | (exact sz2 _ _ _)) | ((with_reducible refine bv_alloc ?_ _); ((repeat (with_reducible refine bv_drew ?_)); first | (with_reducible assumption) | ((with_reducible refine bv_at _ _ ?_); first | rfl | (exact World.size_alloc _ _) | (exact sz2 _ _ _)) | ((with_reducible refine bv_alloc ?_ _); ((repeat (with_reducible refine bv_drew ?_)); with_reducible assumption)))))))) hbk) | (have bx : BV wk (X.heap.size + 1) 0 0 ⟨#[]⟩ := BV.below (by ((repeat (with_reducible refine bv_drew ?_)); first | (with_reducible assumption) | ((with_reducible refine bv_at _ _ ?_); first | rfl | (exact World.size_alloc _ _) | (exact sz2 _ _ _)) | ((with_reducible refine bv_alloc ?_ _); ((repeat (with_reducible refine bv_drew ?_)); first | (with_reducible assumption) | ((with_reducible refine bv_at _ _ ?_); first | rfl | (exact World.size_alloc _ _) | (exact sz2 _ _ _)) | ((with_reducible refine bv_alloc ?_ _); ((repeat (with_reducible refine bv_drew ?_)); first | (with_reducible assumption) | ((with_reducible refine bv_at _ _ ?_); first | rfl | (exact World.size_alloc _ _) | (exact sz2 _ _ _)) | ((with_reducible refine bv_alloc ?_ _); ((repeat (with_reducible refine bv_drew ?_)); with_reducible assumption)))))))) hbk) | (have bx : BV wk (X.heap.size + 1 + 1) 0 0 ⟨#[]⟩ := BV.below (by ((repeat (with_reducible refine bv_drew ?_)); first | (with_reducible assumption) | ((with_reducible refine bv_at _ _ ?_); first | rfl | (exact World.size_alloc _ _) | (exact sz2 _ _ _)) | ((with_reducible refine bv_alloc ?_ _); ((repeat (with_reducible refine bv_drew ?_)); first | (with_reducible assumption) | ((with_reducible refine bv_at _ _ ?_); first | rfl | (exact World.size_alloc _ _) | (exact sz2 _ _ _)) | ((with_reducible refine bv_alloc ?_ _); ((repeat (with_reducible refine bv_drew ?_)); first | (with_reducible assumption) | ((with_reducible refine bv_at _ _ ?_); first | rfl | (exact World.size_alloc _ _) | (exact sz2 _ _ _)) | ((with_reducible refine bv_alloc ?_ _); ((repeat (with_reducible refine bv_drew ?_)); with_reducible assumption)))))))) hbk) | skip))) | (go_at_call 11; (with_reducible refine (HOB.out _ _ _ _ ?_ (hr1.below ?_) (hr2.below ?_) (hr3.below ?_)).mono ?_); (((repeat (first | (with_reducible refine b_more ?_ _) | (with_reducible refine b_drew ?_))); (first | (with_reducible assumption) | (with_reducible exact Below.refl _ _)))); (((repeat (first | (with_reducible refine b_more ?_ _) | (with_reducible refine b_drew ?_))); (first | (with_reducible assumption) | (with_reducible exact Below.refl _ _)))); (((repeat (first | (with_reducible refine b_more ?_ _) | (with_reducible refine b_drew ?_))); (first | (with_reducible assumption) | (with_reducible exact Below.refl _ _)))); (((repeat (first | (with_reducible refine b_more ?_ _) | (with_reducible refine b_drew ?_))); (first | (with_reducible assumption) | (with_reducible exact Below.refl _ _)))); rintro e wz ⟨rfl, hbz⟩; have hbl : Below X.heap.size X wz := b_trans (by ((repeat (first | (with_reducible refine b_more ?_ _) | (with_reducible refine b_drew ?_))); (first | (with_reducible assumption) | (with_reducible exact Below.refl _ _)))) hbz; (first | (have bx : BV wz X.heap.size 0 0 ⟨#[]⟩ := BV.below (by ((repeat (with_reducible refine bv_drew ?_)); first | (with_reducible assumption) | ((with_reducible refine bv_at _ _ ?_); first | rfl | (exact World.size_alloc _ _) | (exact sz2 _ _ _)) | ((with_reducible refine bv_alloc ?_ _); ((repeat (with_reducible refine bv_drew ?_)); first | (with_reducible assumption) | ((with_reducible refine bv_at _ _ ?_); first | rfl | (exact World.size_alloc _ _) | (exact sz2 _ _ _)) | ((with_reducible refine bv_alloc ?_ _); ((repeat (with_reducible refine bv_drew ?_)); first | (with_reducible assumption) | ((with_reducible refine bv_at _ _ ?_); first | rfl | (exact World.size_alloc _ _) | (exact sz2 _ _ _)) | ((with_reducible refine bv_alloc ?_ _); ((repeat (with_reducible refine bv_drew ?_)); with_reducible assumption)))))))) hbz) | (have bx : BV wz (X.heap.size + 1) 0 0 ⟨#[]⟩ := BV.below (by ((repeat (with_reducible refine bv_drew ?_)); first | (with_reducible assumption) | ((with_reducible refine bv_at _ _ ?_); first | rfl | (exact World.size_alloc _ _) | (exact sz2 _ _ _)) | ((with_reducible refine bv_alloc ?_ _); ((repeat (with_reducible refine bv_drew ?_)); first | (with_reducible assumption) | ((with_reducible refine bv_at _ _ ?_); first | rfl | (exact World.size_alloc _ _) | (exact sz2 _ _ _)) | ((with_reducible refine bv_alloc ?_ _); ((repeat (with_reducible refine bv_drew ?_)); first | (with_reducible assumption) | ((with_reducible refine bv_at _ _ ?_); first | rfl | (exact World.size_alloc _ _) | (exact sz2 _ _ _)) | ((with_reducible refine bv_alloc ?_ _); ((repeat (with_reducible refine bv_drew ?_)); with_reducible assumption)))))))) hbz) | (have bx : BV wz (X.heap.size + 1 + 1) 0 0 ⟨#[]⟩ := BV.below (by ((repeat (with_reducible refine bv_drew ?_)); first | (with_reducible assumption) | ((with_reducible refine bv_at _ _ ?_); first | rfl | (exact World.size_alloc _ _) | (exact sz2 _ _ _)) | ((with_reducible refine bv_alloc ?_ _); ((repeat (with_reducible refine bv_drew ?_)); first | (with_reducible assumption) | ((with_reducible refine bv_at _ _ ?_); first | rfl | (exact World.size_alloc _ _) | (exact sz2 _ _ _)) | ((with_reducible refine bv_alloc ?_ _); ((repeat (with_reducible refine bv_drew ?_)); first | (with_reducible assumption) | ((with_reducible refine bv_at _ _ ?_); first | rfl | (exact World.size_alloc _ _) | (exact sz2 _ _ _)) | ((with_reducible refine bv_alloc ?_ _); ((repeat (with_reducible refine bv_drew ?_)); with_reducible assumption)))))))) hbz) | (have bx : BV wz wk.heap.size 0 0 ⟨#[]⟩ := BV.below (by ((repeat (with_reducible refine bv_drew ?_)); first | (with_reducible assumption) | ((with_reducible refine bv_at _ _ ?_); first | rfl | (exact World.size_alloc _ _) | (exact sz2 _ _ _)) | ((with_reducible refine bv_alloc ?_ _); ((repeat (with_reducible refine bv_drew ?_)); first | (with_reducible assumption) | ((with_reducible refine bv_at _ _ ?_); first | rfl | (exact World.size_alloc _ _) | (exact sz2 _ _ _)) | ((with_reducible refine bv_alloc ?_ _); ((repeat (with_reducible refine bv_drew ?_)); first | (with_reducible assumption) | ((with_reducible refine bv_at _ _ ?_); first | rfl | (exact World.size_alloc _ _) | (exact sz2 _ _ _)) | ((with_reducible refine bv_alloc ?_ _); ((repeat (with_reducible refine bv_drew ?_)); with_reducible assumption)))))))) hbz) | (have bx : BV wz (wk.heap.size + 1) 0 0 ⟨#[]⟩ := BV.below (by ((repeat (with_reducible refine bv_drew ?_)); first | (with_reducible assumption) | ((with_reducible refine bv_at _ _ ?_); first | rfl | (exact World.size_alloc _ _) | (exact sz2 _ _ _)) | ((with_reducible refine bv_alloc ?_ _); ((repeat (with_reducible refine bv_drew ?_)); first | (with_reducible assumption) | ((with_reducible refine bv_at _ _ ?_); first | rfl | (exact World.size_alloc _ _) | (exact sz2 _ _ _)) | ((with_reducible refine bv_alloc ?_ _); ((repeat (with_reducible refine bv_drew ?_)); first | (with_reducible assumption) | ((with_reducible refine bv_at _ _ ?_); first | rfl | (exact World.size_alloc _ _) | (exact sz2 _ _ _)) | ((with_reducible refine bv_alloc ?_ _); ((repeat (with_reducible refine bv_drew ?_)); with_reducible assumption)))))))) hbz) | (have bx : BV wz wm.heap.size 0 0 ⟨#[]⟩ := BV.below (by ((repeat (with_reducible refine bv_drew ?_)); first | (with_reducible assumption) | ((with_reducible refine bv_at _ _ ?_); first | rfl | (exact World.size_alloc _ _) | (exact sz2 _ _ _)) | ((with_reducible refine bv_alloc ?_ _); ((repeat (with_reducible refine bv_drew ?_)); first | (with_reducible assumption) | ((with_reducible refine bv_at _ _ ?_); first | rfl | (exact World.size_alloc _ _) | (exact sz2 _ _ _)) | ((with_reducible refine bv_alloc ?_ _); ((repeat (with_reducible refine bv_drew ?_)); first | (with_reducible assumption) | ((with_reducible refine bv_at _ _ ?_); first | rfl | (exact World.size_alloc _ _) | (exact sz2 _ _ _)) | ((with_reducible refine bv_alloc ?_ _); ((repeat (with_reducible refine bv_drew ?_)); with_reducible assumption)))))))) hbz) | (have bx : BV wz (wm.heap.size + 1) 0 0 ⟨#[]⟩ := BV.below (by ((repeat (with_reducible refine bv_drew ?_)); first | (with_reducible assumption) | ((with_reducible refine bv_at _ _ ?_); first | rfl | (exact World.size_alloc _ _) | (exact sz2 _ _ _)) | ((with_reducible refine bv_alloc ?_ _); ((repeat (with_reducible refine bv_drew ?_)); first | (with_reducible assumption) | ((with_reducible refine bv_at _ _ ?_); first | rfl | (exact World.size_alloc _ _) | (exact sz2 _ _ _)) | ((with_reducible refine bv_alloc ?_ _); ((repeat (with_reducible refine bv_drew ?_)); first | (with_reducible assumption) | ((with_reducible refine bv_at _ _ ?_); first | rfl | (exact World.size_alloc _ _) | (exact sz2 _ _ _)) | ((with_reducible refine bv_alloc ?_ _); ((repeat (with_reducible refine bv_drew ?_)); with_reducible assumption)))))))) hbz) | (have bx : BV wz wn.heap.size 0 0 ⟨#[]⟩ := BV.below (by ((repeat (with_reducible refine bv_drew ?_)); first | (with_reducible assumption) | ((with_reducible refine bv_at _ _ ?_); first | rfl | (exact World.size_alloc _ _) | (exact sz2 _ _ _)) | ((with_reducible refine bv_alloc ?_ _); ((repeat (with_reducible refine bv_drew ?_)); first | (with_reducible assumption) | ((with_reducible refine bv_at _ _ ?_); first | rfl | (exact World.size_alloc _ _) | (exact sz2 _ _ _)) | ((with_reducible refine bv_alloc ?_ _); ((repeat (with_reducible refine bv_drew ?_)); first | (with_reducible assumption) | ((with_reducible refine bv_at _ _ ?_); first | rfl | (exact World.size_alloc _ _) | (exact sz2 _ _ _)) | ((with_reducible refine bv_alloc ?_ _); ((repeat (with_reducible refine bv_drew ?_)); with_reducible assumption)))))))) hbz) | skip); (first | (obtain ⟨x0, x1, x2⟩ := bx.cells; have xf := bx.frozen; have xl := bx.lt) | skip)))
    all_goals (go_wp2_with fail; go_meet)
    all_goals (first | (with_reducible exact ⟨_, rfl, rfl, bx.set3 ak an az, b_set3' hbl _ (by first | exact Nat.le_refl _ | omega) 0 1 2 _ _ _⟩) | (with_reducible exact ⟨_, rfl, rfl, BV.new wz ak an az, b_more hbl _⟩))
  case rest =>
    obtain ⟨B17, rfl, rfl, hbx, hb⟩ := hcut
    obtain ⟨Y, rfl⟩ : ∃ V, V = wc := ⟨_, rfl⟩
    have KB := Lib.hid hbx
    have KA := Lib.hid (KA.out.below hb)
    have HBY := Lib.hid (b_trans HBX.out hb)
    clear hbx hb HC4 HS4 HOB HRp HRq HRn FB
    go_upto_region 5 with fail
    obtain ⟨q0, q1, q2, q3, q4, q5, p0, p1, p2, p3, p4, p5⟩ := HCx.out Y HBY.out
    have HBY0 := Lib.hid (Below.refl Y.heap.size Y)
    go_wp2_with fail
    refine (EvW.with_any _ _ _ _ _).mono ?_; rintro e f5 ⟨rfl, hb5⟩
    have r1 : RowE (Y.alloc (.cells #[.int .i64 dx.op, .int .i64 dx.k, .int .i64 dx.n, .string dx.s, .string dx.nm, .slice Bx mx cx, .int .i64 dy.op, .int .i64 dy.k, .int .i64 dy.n, .string dy.s, .string dy.nm, .slice By my cy] 26)) Y.heap.size [⟨x, dx, Bx, mx, cx⟩, ⟨y, dy, By, my, cy⟩] := World.alloc_heap_new Y _
    have r1 := r1.below hb5
    have b1 := b_trans (b_new Y (.cells #[.int .i64 dx.op, .int .i64 dx.k, .int .i64 dx.n, .string dx.s, .string dx.nm, .slice Bx mx cx, .int .i64 dy.op, .int .i64 dy.k, .int .i64 dy.n, .string dy.s, .string dy.nm, .slice By my cy] 26)) hb5
    clear hb5
    go_wp2_with fail
    refine (FC.out _ _ (b_trans HBY.out b1) r1).mono ?_; rintro e f7 ⟨rfl, hb7⟩
    have b1 := b_trans b1 hb7
    have Bc := Lib.hid (BV.new f7 ck cn cz)
    have b2 := b_more b1 (.cells #[.int .i64 ck, .int .i64 cn, .string cz] 23)
    clear hb7 b1 r1 
    go_upto_region 6 with fail
    obtain ⟨Y2, hY2⟩ : ∃ X, f7.alloc (.cells #[.int .i64 ck, .int .i64 cn, .string cz] 23) = X := ⟨_, rfl⟩
    have KC := Lib.hid (show BV Y2 f7.heap.size ck cn cz by rw [← hY2]; exact Bc.out)
    have b2 : Below Y.heap.size Y Y2 := by rw [← hY2]; exact b2
    rw [hY2]
    have KA := Lib.hid (KA.out.below b2)
    have KB := Lib.hid (KB.out.below b2)
    have HBY2 := Lib.hid (b_trans HBY.out b2)
    clear hY2 b2 Bc q0 q1 q2 q3 q4 q5 p0 p1 p2 p3 p4 p5 FC HBY0
    obtain ⟨q0, q1, q2, q3, q4, q5, p0, p1, p2, p3, p4, p5⟩ := HCx.out Y2 HBY2.out
    go_wp2_with fail
    refine (EvW.with_any _ _ _ _ _).mono ?_; rintro e h5 ⟨rfl, hb5⟩
    have r1 : RowE (Y2.alloc (.cells #[.int .i64 dy.op, .int .i64 dy.k, .int .i64 dy.n, .string dy.s, .string dy.nm, .slice By my cy, .int .i64 dx.op, .int .i64 dx.k, .int .i64 dx.n, .string dx.s, .string dx.nm, .slice Bx mx cx] 26)) Y2.heap.size [⟨y, dy, By, my, cy⟩, ⟨x, dx, Bx, mx, cx⟩] := World.alloc_heap_new Y2 _
    have r1 := r1.below hb5
    have b1 := b_trans (b_new Y2 (.cells #[.int .i64 dy.op, .int .i64 dy.k, .int .i64 dy.n, .string dy.s, .string dy.nm, .slice By my cy, .int .i64 dx.op, .int .i64 dx.k, .int .i64 dx.n, .string dx.s, .string dx.nm, .slice Bx mx cx] 26)) hb5
    clear hb5
    go_wp2_with fail
    refine (EvW.with_any _ _ _ _ _).mono ?_; rintro e h6 ⟨rfl, hb6⟩
    have r2 : RowE (h5.alloc (.cells #[.int .i64 12, .int .i64 0, .int .i64 0, .string ⟨#[]⟩, .string ⟨#[]⟩, .slice (some ⟨Y2.heap.size, 0, none⟩) 2 2] 26)) h5.heap.size [nodeOf 12 Y2.heap.size [⟨y, dy, By, my, cy⟩, ⟨x, dx, Bx, mx, cx⟩]] := World.alloc_heap_new h5 _
    have r2 := r2.below hb6
    have r1 := (r1.below (b_new h5 (.cells #[.int .i64 12, .int .i64 0, .int .i64 0, .string ⟨#[]⟩, .string ⟨#[]⟩, .slice (some ⟨Y2.heap.size, 0, none⟩) 2 2] 26))).below hb6
    have b1 := b_trans b1 (b_trans (b_new h5 (.cells #[.int .i64 12, .int .i64 0, .int .i64 0, .string ⟨#[]⟩, .string ⟨#[]⟩, .slice (some ⟨Y2.heap.size, 0, none⟩) 2 2] 26)) hb6)
    clear hb6
    go_wp2_with fail
    refine (FD.out _ _ _ (b_trans HBY2.out b1) r1 r2).mono ?_; rintro e h7 ⟨rfl, hb7⟩
    have b1 := b_trans b1 hb7
    have Bd := Lib.hid (BV.new h7 dk dn dz)
    have b2 := b_more b1 (.cells #[.int .i64 dk, .int .i64 dn, .string dz] 23)
    clear hb7 b1 r1 r2
    go_upto_region 7 with fail
    obtain ⟨Y3, hY3⟩ : ∃ X, h7.alloc (.cells #[.int .i64 dk, .int .i64 dn, .string dz] 23) = X := ⟨_, rfl⟩
    have kd : BV Y3 h7.heap.size dk dn dz := by rw [← hY3]; exact Bd.out
    have b2 : Below Y2.heap.size Y2 Y3 := by rw [← hY3]; exact b2
    rw [hY3]
    have HBF := Lib.hid (b_trans HBW.out (b_trans HBY2.out b2))
    obtain ⟨a0, a1, a2⟩ := (KA.out.below b2).cells
    obtain ⟨b0, b1, b2'⟩ := (KB.out.below b2).cells
    obtain ⟨c0', c1', c2'⟩ := (KC.out.below b2).cells
    obtain ⟨d0, d1, d2⟩ := kd.cells
    clear hY3 b2 Bd q0 q1 q2 q3 q4 q5 p0 p1 p2 p3 p4 p5 FD kd
    obtain ⟨ha0, hc0, hcd⟩ := HA0.out
    have ha1 : ¬ ak = 0 := by omega
    have hc1 : ¬ ck = 0 := by omega
    go_upto_region 9 with fail
    · rename_i h; clear HA0 hcd; simp at h; omega
    rcases hcd with ⟨rfl, rfl, rfl⟩ | ⟨rfl, rfl⟩
    · go_wp2_with fail
      go_ret; exact ⟨by simp, HBF.out⟩
    · by_cases he : cn = dn ∧ cz = dz
      · obtain ⟨rfl, rfl⟩ := he
        go_wp2_with fail
        go_ret; exact ⟨by simp, HBF.out⟩
      · go_wp2_with fail
        all_goals (go_ret; exact ⟨by simp, HBF.out⟩)

theorem not_of {W : World} (h : laidMetH Tryd.prog Rows.evalDualsRow.laid W) : ExN.Tab W := by
  have h0 : laidMet Tryd.prog Rows.evalDualsRow.laid W := by rw [MakeChecks.laidMetH_plain _ _ _ (by kernel_rfl)] at h; exact h
  have h1 := h0
  exact NotTab.is_of_head (g := 0) (t := 113) (e := 112) (n := 19) (by kernel_rfl) (by kernel_rfl) Tryd.underlying113 (by kernel_rfl) Tryd.underlying112 (by kernel_rfl) rfl rfl rfl Tryd.underlying9 Tryd.underlying3 Tryd.underlying3 (by kernel_rfl) (by kernel_rfl) (by kernel_rfl) h1

/-! ### The row's step -/
set_option maxRecDepth 100000 in
theorem lifted (os : Os) (started : os.Started) (H : Type) (enc : TypeId × Value → H) :
    ReturnsInHanded {} Tryd.checked os 9 .any (fun w args => (Rows.evalDualsSpec.pre enc Tryd.prog Tryd.f9 [] false w args ∧ laidMetH Tryd.prog Rows.evalDualsRow.laid w) ∧ sizedMet enc Tryd.prog Tryd.f9 (OpenSpec.ofChange Rows.evalDualsSpec) false w args) (Rows.evalDualsSpec.post enc Tryd.prog Tryd.f9 false true false false) := by
  refine returnsInHanded_of_change_and (C := Tryd.checked) (X := fun w _ => laidMetH Tryd.prog Rows.evalDualsRow.laid w) (fun _ _ _ hh h => h.of_heap hh) own started (by kernel_rfl) Tryd.func9
    (ChangeSpec.witness_shaped (enc := enc) (C := Tryd.checked) (os := os) (X := fun w _ => laidMetH Tryd.prog Rows.evalDualsRow.laid w) false (World.laidAll Tryd.prog os Rows.evalDualsRow.laid) #[.slice none 0 0, .slice none 0 0, .slice none 0 0, .int .i64 0] 8 (World.laidAll_os _ _ _) (World.shaped_of_ZipB (by kernel_rfl) (by kernel_rfl)) (by kernel_rfl) (by kernel_rfl) (by kernel_rfl) (by rw [MakeChecks.laidMetH_plain _ _ _ (by kernel_rfl)]; exact laidMet_laidAll _ (by kernel_rfl) (by kernel_rfl))) ?_
  intro W base args ds gs before hval0 hW hcnd hsz hL _
  have hval : ∀ (j : Nat) t v, Tryd.f9.params[j]? = some t → args[j]? = some v → Value.okWide Tryd.prog W .any base t v := hval0
  have hW' := hW
  obtain ⟨p, q, hA0, hV, rfl, hfz, hnd⟩ := hW
  have hA : DataW.TrodAll enc Tryd.prog W 0 (fun _ => true) true Tryd.f9.params.toList args.toList ds p := hA0
  rw [Tryd.params9] at hA hval
  obtain ⟨v0, vs0, d0, ds0, p0, q0, hargs, rfl, rfl, h0, r0⟩ := trodAll_cons hA
  obtain ⟨v1, vs1, d1, ds1, p1, q1, rfl, rfl, rfl, h1, r1⟩ := trodAll_cons r0
  obtain ⟨v2, vs2, d2, ds2, p2, q2, rfl, rfl, rfl, h2, r2⟩ := trodAll_cons r1
  obtain ⟨v3, vs3, d3, ds3, p3, q3, rfl, rfl, rfl, h3, r3⟩ := trodAll_cons r2
  obtain ⟨rfl, rfl, rfl⟩ := trodAll_nil r3
  obtain rfl : args = #[v0, v1, v2, v3] := by cases args; simp_all
  obtain ⟨rfl, rfl⟩ := trodVars_none hV
  have k0 := h0
  have lt0 : ∀ x ∈ p0, x.block < W.heap.size := by obtain ⟨m, hm⟩ := k0; exact DataW.trod_lt m _ _ _ hm
  obtain ⟨A0, n0, c0, rfl, hraw0⟩ := RawO.open_raws (hval 0 32 v0 rfl rfl) h0
  have k1 := h1
  have lt1 : ∀ x ∈ p1, x.block < W.heap.size := by obtain ⟨m, hm⟩ := k1; exact DataW.trod_lt m _ _ _ hm
  obtain ⟨A1, n1, c1, rfl, hraw1⟩ := RawO.open_raws (hval 1 32 v1 rfl rfl) h1
  have k2 := h2
  have lt2 : ∀ x ∈ p2, x.block < W.heap.size := by obtain ⟨m, hm⟩ := k2; exact DataW.trod_lt m _ _ _ hm
  obtain ⟨A2, n2, c2, rfl, hraw2⟩ := RawO.open_raws (hval 2 32 v2 rfl rfl) h2
  have k3 := h3
  have lt3 : ∀ x ∈ p3, x.block < W.heap.size := by obtain ⟨m, hm⟩ := k3; exact DataW.trod_lt m _ _ _ hm
  obtain ⟨a3, rfl, rfl, rfl, w3⟩ := open_int Tryd.underlying3 (hval 3 3 v3 rfl rfl) h3
  clear hA0 hval0
  refine (walk A0 n0 c0 A1 n1 c1 A2 n2 c2 a3 w3 W hraw0 hraw1 hraw2 (not_of hL)).mono fun e W' ⟨he, bel⟩ => ?_
  subst he
  exact ⟨_, rfl, _, _, _, [], _, [], hW', trodAll_mk1 (shut_bool Tryd.underlying4 _), (trodAll_cons_mk (Below.trod laidOut (by kernel_rfl) (of_decide_eq_true (by kernel_rfl)) k0 bel lt0) (trodAll_cons_mk (Below.trod laidOut (by kernel_rfl) (of_decide_eq_true (by kernel_rfl)) k1 bel lt1) (trodAll_cons_mk (Below.trod laidOut (by kernel_rfl) (of_decide_eq_true (by kernel_rfl)) k2 bel lt2) (trodAll_cons_mk (Below.trod laidOut (by kernel_rfl) (of_decide_eq_true (by kernel_rfl)) k3 bel lt3) trodAll_mk0)))), rfl, bel.frame _, fun h => by cases h⟩

theorem over : Rows.evalDualsRow.holds Tryd.pinned (OpenSpec.ofChange Rows.evalDualsSpec) :=
  OpenClaim.holds_of_wide 9 Tryd.f9 rfl rfl rfl rfl rfl rfl rfl ⟨rfl, rfl, rfl, rfl, rfl⟩ rfl rfl rfl rfl rfl (by kernel_rfl) Tryd.func9 (by kernel_rfl)
    (of_decide_eq_true (by kernel_rfl)) (by unfold Func.isWrapper; first | (rw [if_pos (by decide +kernel)]; kernel_rfl) | (rw [if_neg (by decide +kernel)]; exact ⟨rfl, rfl⟩))
    (fun os started H enc _ => lifted os started H enc)

/-- The tied card. -/
theorem proved : Rows.EvalDualsCardSaid :=
  Claim7.holds_tied_plain_at .later [] [.data] true (true, "e7e778849e5474a99cfe14a85150a9c1848083beaff400444cc53060f832e11e") false
    over (fun _ h => by cases h) (by kernel_rfl) (fun _ h => by cases h) evalDuals_row_tie rfl ⟨rfl, rfl⟩ (by kernel_rfl) rfl
    (fun f fn hf hfn => by
      obtain rfl : f = 9 := Option.some.inj ((show Tryd.prog.funcNamed "lychway/lychwaykeep.EvalDuals" = some 9 by kernel_rfl).symm.trans hf) |>.symm
      obtain rfl : fn = Tryd.f9 := (Option.some.inj (Tryd.func9.symm.trans hfn)).symm
      exact ⟨by kernel_rfl, fun j t ht => by
        rw [Tryd.params9] at ht
        have hm : t ∈ [32, 32, 32, 3] := by simpa using Array.mem_of_getElem? ht
        have hall : ([32, 32, 32, 3].all fun u => !Tryd.prog.wantsStandIn u) = true := by kernel_rfl
        exact (show Tryd.prog.wantsStandIn t = false by simpa using List.all_eq_true.1 hall t hm)⟩)
    (by kernel_rfl)
#print axioms proved
end Go.Proofs.YtbdofaaemgckiaaDoor.evalDuals
