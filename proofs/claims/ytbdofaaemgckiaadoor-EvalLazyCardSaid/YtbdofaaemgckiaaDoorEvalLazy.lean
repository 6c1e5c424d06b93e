/- What is proved: the Go law lychwaykeep.EvalLazy returns true for all its arguments, and leaves them as they were. No condition. -/
import Derived.Test.YtbdofaaemgckiaaDoorRows
import Derived.Test.YtbdofaaemgckiaaDoorEvPair
import Derived.Test.YtbdofaaemgckiaaDoorRawOpen
import Derived.Test.YtbdofaaemgckiaaDoorKit
import Derived.WalkKit
import Derived.ProofKit
import Derived.OpenShut
import Derived.Deep.RegionHeld3
import Derived.Deep.DrawnRows
import Derived.Deep.DeepCutAuto
import Derived.Deep.QuietTactic
import Derived.BigQuiet
import Derived.WalkSpells
import Derived.WalkLawsBesides
import Derived.Lib.Hide
import Derived.Outline
import Derived.ShutString
import Derived.ChangeOld
import Derived.Below
import Derived.LaidMore
import Derived.SizedLaws
import Derived.Stop.Joined
import Derived.Stop.LaidErr
import Derived.Lib.LaidTab
import Derived.SevenTiedAt
import Derived.Lay
import Derived.LaidOnce
import Derived.Deep.DeepHandedRow
import Derived.Test.YtbdofaaemgckiaaDoorCards
import Derived.Test.YtbdofaaemgckiaaDoorTie
namespace Go.Proofs.YtbdofaaemgckiaaDoor.evalLazy
open ValM LexM ExM NmM TyM EvM EvP Kit ExL ExP ExN ExV RawL RawV Within GenL Gen GenT NmG EvC EvO EvF EvG EvK EvW EvJ
open Go.ChangeShapes Go.WideShapes Go.ChangeAt Go.RowKit
open Go.ChangeMaps (open_string shut_string)
set_option linter.unusedVariables false

theorem own : ownKnob Tryd.prog.godebug = none := by kernel_rfl
theorem laidOut : laidOutB Tryd.prog = true := by kernel_rfl


/-! ### The walk -/
theorem keepT (w : World) : Calls Tryd.prog 24 #[.bool true] w fun e w' => e = .returned (.agg #[.int .i64 1, .int .i64 2, .int .i64 1, .string ⟨#[]⟩, .string ⟨#[]⟩, .slice none 0 0]) ∧ Below w.heap.size w w' := EvW.keepTruth_any true w
theorem keepF (w : World) : Calls Tryd.prog 24 #[.bool false] w fun e w' => e = .returned (.agg #[.int .i64 1, .int .i64 2, .int .i64 0, .string ⟨#[]⟩, .string ⟨#[]⟩, .slice none 0 0]) ∧ Below w.heap.size w w' := EvW.keepTruth_any false w
theorem fT (w : World) : (Instr.field 26 (.agg #[.int .i64 1, .int .i64 2, .int .i64 1, .string ⟨#[]⟩, .string ⟨#[]⟩, .slice none 0 0]) 1).run Tryd.prog w = .ok (.agg #[.int .i64 2, .int .i64 1, .string ⟨#[]⟩]) w := by kernel_rfl
theorem fF (w : World) : (Instr.field 26 (.agg #[.int .i64 1, .int .i64 2, .int .i64 0, .string ⟨#[]⟩, .string ⟨#[]⟩, .slice none 0 0]) 1).run Tryd.prog w = .ok (.agg #[.int .i64 2, .int .i64 0, .string ⟨#[]⟩]) w := by kernel_rfl
def kb (n : Int) : ExM.Nd := ⟨1, 2, n, ⟨#[]⟩, ⟨#[]⟩⟩
def lost : ExM.Nd := ⟨2, 0, 0, ⟨#[]⟩, ⟨#[110, 111, 110, 101]⟩⟩
theorem kb_ok (n : Int) (h : n = 0 ∨ n = 1) : (ExM.Ex.mk (kb n) []).okN := EvW.leaf_ok (by rcases h with rfl | rfl <;> decide)
theorem lost_ok : (ExM.Ex.mk lost []).okN := EvW.leaf_ok (by
  unfold ExM.nodeE lost
  have hv : ExM.vOk ⟨2, 0, 0, ⟨#[]⟩, ⟨#[110, 111, 110, 101]⟩⟩ = true := by unfold ExM.vOk; rw [if_neg (show ¬ (2 : Int) = 1 by decide)]; rfl
  have hm : ExM.nmOk ⟨2, 0, 0, ⟨#[]⟩, ⟨#[110, 111, 110, 101]⟩⟩ = true := by unfold ExM.nmOk; rw [if_pos rfl]; decide
  show (if (2 : Int) < 1 ∨ 18 < (2 : Int) then (2 : Int) else if 0 = ExM.arity 2 ∧ _ ∧ _ then 0 else 3) = 0
  rw [if_neg (by decide), if_pos ⟨by decide, hv, hm⟩])
theorem ev_kb (fs : List (ByteArray × EvM.Vl)) (n : Int) : EvM.Ex.ev fs (.mk (kb n) []) = ⟨2, n, ⟨#[]⟩⟩ := by rw [EvM.ev_mk]; rfl
theorem ev_if (fs : List (ByteArray × EvM.Vl)) (n : Int) (p q : ExM.Ex) : EvM.Ex.ev fs (.mk (EvW.opD 17) [.mk (kb n) [], p, q]) = if n = 1 then EvM.Ex.ev fs p else EvM.Ex.ev fs q := by
  rw [EvM.ev_mk, EvM.evL_cons, EvM.evL_cons, EvM.evL_cons, EvM.evL_nil, ev_kb]
  show EvM.choV [⟨2, n, ⟨#[]⟩⟩, EvM.Ex.ev fs p, EvM.Ex.ev fs q] = _
  rfl
theorem ev_and0 (fs : List (ByteArray × EvM.Vl)) (p : ExM.Ex) : EvM.Ex.ev fs (.mk (EvW.opD 15) [.mk (kb 0) [], p]) = ⟨2, 0, ⟨#[]⟩⟩ := by
  rw [EvM.ev_mk, EvM.evL_cons, EvM.evL_cons, EvM.evL_nil, ev_kb]; rfl
theorem ev_or1 (fs : List (ByteArray × EvM.Vl)) (p : ExM.Ex) : EvM.Ex.ev fs (.mk (EvW.opD 16) [.mk (kb 1) [], p]) = ⟨2, 1, ⟨#[]⟩⟩ := by
  rw [EvM.ev_mk, EvM.evL_cons, EvM.evL_cons, EvM.evL_nil, ev_kb]; rfl
theorem ck3 {n : Int} (hn : n = 0 ∨ n = 1) {p q : ExM.Ex} (hp : p.okN ∧ p.depth ≤ 3 ∧ p.nodes ≤ 13) (hq : q.okN ∧ q.depth ≤ 3 ∧ q.nodes ≤ 13) : (ExM.Ex.mk (EvW.opD 17) [.mk (kb n) [], p, q]).checkE = 0 := by
  refine EvW.check_op (by decide) (by decide) rfl (fun x hx => ?_) ?_ ?_
  · simp only [List.mem_cons, List.not_mem_nil, or_false] at hx
    rcases hx with rfl | rfl | rfl
    · exact kb_ok n hn
    · exact hp.1
    · exact hq.1
  · rw [ExM.nodesL_cons, ExM.nodesL_cons, ExM.nodesL_cons, ExM.nodesL_nil, (EvW.leaf_nodes _).1]; omega
  · rw [ExM.depthL_cons, ExM.depthL_cons, ExM.depthL_cons, ExM.depthL_nil, (EvW.leaf_nodes _).2]; omega
theorem ck2 {op n : Int} (ho : op = 15 ∨ op = 16) (hn : n = 0 ∨ n = 1) : (ExM.Ex.mk (EvW.opD op) [.mk (kb n) [], .mk lost []]).checkE = 0 := by
  refine EvW.check_op (by omega) (by omega) ?_ (fun x hx => ?_) ?_ ?_
  · rcases ho with rfl | rfl <;> rfl
  · simp only [List.mem_cons, List.not_mem_nil, or_false] at hx
    rcases hx with rfl | rfl
    · exact kb_ok n hn
    · exact lost_ok
  · rw [ExM.nodesL_cons, ExM.nodesL_cons, ExM.nodesL_nil, (EvW.leaf_nodes _).1, (EvW.leaf_nodes _).1]; decide
  · rw [ExM.depthL_cons, ExM.depthL_cons, ExM.depthL_nil, (EvW.leaf_nodes _).2, (EvW.leaf_nodes _).2]; decide
set_option maxRecDepth 100000 in
set_option maxHeartbeats 16000000 in
theorem walk (A0 : Option Addr) (n0 : Nat) (c0 : Nat) (A1 : Option Addr) (n1 : Nat) (c1 : Nat) (A2 : Option Addr) (n2 : Nat) (c2 : Nat) (a3 : Int) (w3 : (Lit.int .i64 a3).wf = true) (w : World) (hraw0 : RawL.Raws w A0 n0 c0) (hraw1 : RawL.Raws w A1 n1 c1) (hraw2 : RawL.Raws w A2 n2 c2) (ht : ExN.Tab w) :
    Calls Tryd.prog 8 #[.slice A0 n0 c0, .slice A1 n1 c1, .slice A2 n2 c2, .int .i64 a3] w fun e w' => e = .returned (.bool true) ∧ Below w.heap.size w w' := by
  obtain ⟨pk, hpk⟩ : ∃ p, pick a3 3 = p := ⟨_, rfl⟩
  have hpb := pick_bd a3 3 (by decide)
  have hp := fun W => picked_any a3 3 W w3 (by decide) (by decide)
  rw [hpk] at hp hpb
  obtain ⟨pb0, pb1⟩ := hpb
  have HP := Lib.hid hp
  have HT := Lib.hid ht
  have HTwo := Lib.hid (two_any (1 + pk) n0 c0 n1 c1 n2 c2 A0 A1 A2 w hraw0 hraw1 hraw2)
  clear hp hpk ht hraw0 hraw1 hraw2 w3
  go_enter Tryd.func8, Tryd.ntmps8
  go_wp2_with fail
  refine (HP.out _).mono ?_; rintro e w9 ⟨rfl, rfl⟩
  go_wp2_with fail
  refine HTwo.out.mono ?_; rintro e w2 ⟨x, dx, Bx, mx, cx, y, dy, By, my, cy, vs, g, cap, rest, rfl, hgx, hix, hgy, hiy, hfit, hrow, hb2⟩
  have hokx := gn_ok someF_nm 2 _ x hgx
  have hoky := gn_ok someF_nm 2 _ y hgy
  rw [show nb 2 = 13 from rfl] at hokx hoky
  have hbA : Below w2.heap.size w2 ((w2.alloc (.cells #[.int .i64 dx.op, .int .i64 dx.k, .int .i64 dx.n, .string dx.s, .string dx.nm, .slice Bx mx cx] 26)).alloc (.cells #[.int .i64 dy.op, .int .i64 dy.k, .int .i64 dy.n, .string dy.s, .string dy.nm, .slice By my cy] 26)) := b_more (b_new _ _) _
  have z1 := (Box.new w2 dx Bx mx cx).below (b_new _ (.cells #[.int .i64 dy.op, .int .i64 dy.k, .int .i64 dy.n, .string dy.s, .string dy.nm, .slice By my cy] 26))
  have z2 := Box.new (w2.alloc (.cells #[.int .i64 dx.op, .int .i64 dx.k, .int .i64 dx.n, .string dx.s, .string dx.nm, .slice Bx mx cx] 26)) dy By my cy
  rw [World.size_alloc] at z2
  have ix := hix.below hbA
  have iy := hiy.below hbA
  have rw1 := hrow.below hbA
  have hbW := b_trans hb2 hbA
  obtain ⟨W, hW⟩ : ∃ W, (w2.alloc (.cells #[.int .i64 dx.op, .int .i64 dx.k, .int .i64 dx.n, .string dx.s, .string dx.nm, .slice Bx mx cx] 26)).alloc (.cells #[.int .i64 dy.op, .int .i64 dy.k, .int .i64 dy.n, .string dy.s, .string dy.nm, .slice By my cy] 26) = W := ⟨_, rfl⟩
  rw [hW] at z1 z2 ix iy rw1 hbW
  have hT := HT.out.below hbW
  have hckx : x.checkE = 0 := by rw [checkE_ok (by omega) (by omega)]; exact hokx.1
  have fx : ∀ V, Below W.heap.size W V → Calls Tryd.prog 11 #[.agg #[.int .i64 dx.op, .int .i64 dx.k, .int .i64 dx.n, .string dx.s, .string dx.nm, .slice Bx mx cx], .slice (some ⟨g, 0, none⟩) 5 cap] V fun e w' => e = .returned (.tuple #[.agg #[.int .i64 (Ex.ev (fcs vs) x).k, .int .i64 (Ex.ev (fcs vs) x).n, .string (Ex.ev (fcs vs) x).s], .int .i64 0]) ∧ Below V.heap.size V w' := fun V hV => by
    have := of_good x vs (some ⟨g, 0, none⟩) cap dx Bx mx cx V (by rw [hfit.1]; decide) hfit.names (ix.below hV) (rw1.below hV).fcs (hT.below hV) hckx hfit.ok
    rw [hfit.1] at this; exact this
  have els : ∀ V (n : Int), Below W.heap.size W V → (∀ e ∈ ([leafEl (kb n), ⟨x, dx, Bx, mx, cx⟩, ⟨y, dy, By, my, cy⟩] : List El), Is V e.x e.d e.A e.n) := fun V n hV e he => by
    simp only [List.mem_cons, List.not_mem_nil, or_false] at he
    rcases he with rfl | rfl | rfl
    · exact leaf_is V (kb n) (Nat.zero_le _) (Nat.zero_le _)
    · exact ix.below hV
    · exact iy.below hV
  have els2 : ∀ V (n : Int), (∀ e ∈ ([leafEl (kb n), leafEl lost] : List El), Is V e.x e.d e.A e.n) := fun V n e he => by
    simp only [List.mem_cons, List.not_mem_nil, or_false] at he
    rcases he with rfl | rfl
    · exact leaf_is V (kb n) (Nat.zero_le _) (Nat.zero_le _)
    · exact leaf_is V lost (Nat.zero_le _) (by decide)
  have f3 : ∀ V gr, Below W.heap.size W V → RowE V gr [leafEl (kb 1), ⟨x, dx, Bx, mx, cx⟩, ⟨y, dy, By, my, cy⟩] → Calls Tryd.prog 11 #[.agg #[.int .i64 17, .int .i64 0, .int .i64 0, .string ⟨#[]⟩, .string ⟨#[]⟩, .slice (some ⟨gr, 0, none⟩) 3 3], .slice (some ⟨g, 0, none⟩) 5 cap] V fun e w' => e = .returned (.tuple #[.agg #[.int .i64 (Ex.ev (fcs vs) x).k, .int .i64 (Ex.ev (fcs vs) x).n, .string (Ex.ev (fcs vs) x).s], .int .i64 0]) ∧ Below V.heap.size V w' := fun V gr hV hr => by
    have his := is_row 17 hr (by unfold maxLen; simp) (els V 1 hV)
    have := of_good (.mk (opD 17) [.mk (kb 1) [], x, y]) vs (some ⟨g, 0, none⟩) cap (opD 17) (some ⟨gr, 0, none⟩) 3 3 V (by rw [hfit.1]; decide) hfit.names his (rw1.below hV).fcs (hT.below hV) (ck3 (.inr rfl) hokx hoky) hfit.ok
    rw [hfit.1, ev_if, if_pos rfl] at this; exact this
  have f4 : ∀ V gr, Below W.heap.size W V → RowE V gr [leafEl (kb 0), ⟨y, dy, By, my, cy⟩, ⟨x, dx, Bx, mx, cx⟩] → Calls Tryd.prog 11 #[.agg #[.int .i64 17, .int .i64 0, .int .i64 0, .string ⟨#[]⟩, .string ⟨#[]⟩, .slice (some ⟨gr, 0, none⟩) 3 3], .slice (some ⟨g, 0, none⟩) 5 cap] V fun e w' => e = .returned (.tuple #[.agg #[.int .i64 (Ex.ev (fcs vs) x).k, .int .i64 (Ex.ev (fcs vs) x).n, .string (Ex.ev (fcs vs) x).s], .int .i64 0]) ∧ Below V.heap.size V w' := fun V gr hV hr => by
    have his := is_row 17 hr (by unfold maxLen; simp) (fun e he => els V 0 hV e (by
      simp only [List.mem_cons, List.not_mem_nil, or_false] at he ⊢
      rcases he with h | h | h
      · exact .inl h
      · exact .inr (.inr h)
      · exact .inr (.inl h)))
    have := of_good (.mk (opD 17) [.mk (kb 0) [], y, x]) vs (some ⟨g, 0, none⟩) cap (opD 17) (some ⟨gr, 0, none⟩) 3 3 V (by rw [hfit.1]; decide) hfit.names his (rw1.below hV).fcs (hT.below hV) (ck3 (.inl rfl) hoky hokx) hfit.ok
    rw [hfit.1, ev_if, if_neg (by decide)] at this; exact this
  have f6 : ∀ V gr, Below W.heap.size W V → RowE V gr [leafEl (kb 0), leafEl lost] → Calls Tryd.prog 11 #[.agg #[.int .i64 15, .int .i64 0, .int .i64 0, .string ⟨#[]⟩, .string ⟨#[]⟩, .slice (some ⟨gr, 0, none⟩) 2 2], .slice (some ⟨g, 0, none⟩) 5 cap] V fun e w' => e = .returned (.tuple #[.agg #[.int .i64 2, .int .i64 0, .string ⟨#[]⟩], .int .i64 0]) ∧ Below V.heap.size V w' := fun V gr hV hr => by
    have his := is_row 15 hr (by unfold maxLen; simp) (els2 V 0)
    have := of_good (.mk (opD 15) [.mk (kb 0) [], .mk lost []]) vs (some ⟨g, 0, none⟩) cap (opD 15) (some ⟨gr, 0, none⟩) 2 2 V (by rw [hfit.1]; decide) hfit.names his (rw1.below hV).fcs (hT.below hV) (ck2 (.inl rfl) (.inl rfl)) hfit.ok
    rw [hfit.1, ev_and0] at this; exact this
  have f7 : ∀ V gr, Below W.heap.size W V → RowE V gr [leafEl (kb 1), leafEl lost] → Calls Tryd.prog 11 #[.agg #[.int .i64 16, .int .i64 0, .int .i64 0, .string ⟨#[]⟩, .string ⟨#[]⟩, .slice (some ⟨gr, 0, none⟩) 2 2], .slice (some ⟨g, 0, none⟩) 5 cap] V fun e w' => e = .returned (.tuple #[.agg #[.int .i64 2, .int .i64 1, .string ⟨#[]⟩], .int .i64 0]) ∧ Below V.heap.size V w' := fun V gr hV hr => by
    have his := is_row 16 hr (by unfold maxLen; simp) (els2 V 1)
    have := of_good (.mk (opD 16) [.mk (kb 1) [], .mk lost []]) vs (some ⟨g, 0, none⟩) cap (opD 16) (some ⟨gr, 0, none⟩) 2 2 V (by rw [hfit.1]; decide) hfit.names his (rw1.below hV).fcs (hT.below hV) (ck2 (.inr rfl) (.inr rfl)) hfit.ok
    rw [hfit.1, ev_or1] at this; exact this
  have hkind := (ok_kind (ev_ok hfit.ok x hokx.1)).1
  obtain ⟨v, hv⟩ : ∃ v, Ex.ev (fcs vs) x = v := ⟨_, rfl⟩
  rw [hv] at fx f3 f4 hkind
  obtain ⟨vk, vn, vz⟩ := v
  simp only at fx f3 f4 hkind
  have hcl : ∀ V, Below W.heap.size W V → V.cell? ⟨w2.heap.size, 0, none⟩ = some (.int .i64 dx.op) ∧ V.cell? ⟨w2.heap.size, 1, none⟩ = some (.int .i64 dx.k) ∧ V.cell? ⟨w2.heap.size, 2, none⟩ = some (.int .i64 dx.n) ∧ V.cell? ⟨w2.heap.size, 3, none⟩ = some (.string dx.s) ∧ V.cell? ⟨w2.heap.size, 4, none⟩ = some (.string dx.nm) ∧ V.cell? ⟨w2.heap.size, 5, none⟩ = some (.slice Bx mx cx) ∧ V.cell? ⟨w2.heap.size + 1, 0, none⟩ = some (.int .i64 dy.op) ∧ V.cell? ⟨w2.heap.size + 1, 1, none⟩ = some (.int .i64 dy.k) ∧ V.cell? ⟨w2.heap.size + 1, 2, none⟩ = some (.int .i64 dy.n) ∧ V.cell? ⟨w2.heap.size + 1, 3, none⟩ = some (.string dy.s) ∧ V.cell? ⟨w2.heap.size + 1, 4, none⟩ = some (.string dy.nm) ∧ V.cell? ⟨w2.heap.size + 1, 5, none⟩ = some (.slice By my cy) := fun V hV => by
    obtain ⟨a0, a1, a2, a3, a4, a5⟩ := (z1.below hV).cells
    obtain ⟨b0, b1, b2, b3, b4, b5⟩ := (z2.below hV).cells
    exact ⟨a0, a1, a2, a3, a4, a5, b0, b1, b2, b3, b4, b5⟩
  have HFx := Lib.hid fx
  have HF3 := Lib.hid f3
  have HF4 := Lib.hid f4
  have HF6 := Lib.hid f6
  have HF7 := Lib.hid f7
  have HCl := Lib.hid hcl
  have HBW := Lib.hid hbW
  have HW := Lib.hid hW
  obtain ⟨q0, q1, q2, q3, q4, q5, p0, p1, p2, p3, p4, p5⟩ := hcl W (Below.refl _ _)
  clear fx els els2 f3 f4 f6 f7 hcl hbW hW hv z1 z2 ix iy rw1 hT hckx hokx hoky hix hiy hrow hb2 hbA hfit HTwo HT pb0 pb1 HP
  go_upto_region 2 with fail
  rw [HW.out]
  go_wp2_with fail
  refine (HFx.out _ (Below.refl _ _)).mono ?_; rintro e w3 ⟨rfl, hb3⟩
  go_upto_region 3 with fail
  have k12 := BV.new w3 vk vn vz
  have hbX := b_more hb3 (.cells #[.int .i64 vk, .int .i64 vn, .string vz] 23)
  obtain ⟨X, hX⟩ : ∃ X, w3.alloc (.cells #[.int .i64 vk, .int .i64 vn, .string vz] 23) = X := ⟨_, rfl⟩
  rw [hX] at k12 hbX ⊢
  have K12 := Lib.hid k12
  have HBX := Lib.hid hbX
  have HX := Lib.hid hX
  clear k12 hbX hX hb3 q0 q1 q2 q3 q4 q5 p0 p1 p2 p3 p4 p5
  have hcl3 : ∀ V, Below X.heap.size X V → V.cell? ⟨w2.heap.size, 0, none⟩ = some (.int .i64 dx.op) ∧ V.cell? ⟨w2.heap.size, 1, none⟩ = some (.int .i64 dx.k) ∧ V.cell? ⟨w2.heap.size, 2, none⟩ = some (.int .i64 dx.n) ∧ V.cell? ⟨w2.heap.size, 3, none⟩ = some (.string dx.s) ∧ V.cell? ⟨w2.heap.size, 4, none⟩ = some (.string dx.nm) ∧ V.cell? ⟨w2.heap.size, 5, none⟩ = some (.slice Bx mx cx) ∧ V.cell? ⟨w2.heap.size + 1, 0, none⟩ = some (.int .i64 dy.op) ∧ V.cell? ⟨w2.heap.size + 1, 1, none⟩ = some (.int .i64 dy.k) ∧ V.cell? ⟨w2.heap.size + 1, 2, none⟩ = some (.int .i64 dy.n) ∧ V.cell? ⟨w2.heap.size + 1, 3, none⟩ = some (.string dy.s) ∧ V.cell? ⟨w2.heap.size + 1, 4, none⟩ = some (.string dy.nm) ∧ V.cell? ⟨w2.heap.size + 1, 5, none⟩ = some (.slice By my cy) := fun V hV => HCl.out V (HBX.out.trans (hV.mono HBX.out.size))
  have HC3 := Lib.hid hcl3
  have hst3 : ∀ (U : World) (B : Nat) (u0 u1 u2 : Value), Below X.heap.size X U → X.heap.size ≤ B → ∀ V, V = ((U.setCell ⟨B, 0, none⟩ u0).setCell ⟨B, 1, none⟩ u1).setCell ⟨B, 2, none⟩ u2 → V.cell? ⟨w2.heap.size, 0, none⟩ = some (.int .i64 dx.op) ∧ V.cell? ⟨w2.heap.size, 1, none⟩ = some (.int .i64 dx.k) ∧ V.cell? ⟨w2.heap.size, 2, none⟩ = some (.int .i64 dx.n) ∧ V.cell? ⟨w2.heap.size, 3, none⟩ = some (.string dx.s) ∧ V.cell? ⟨w2.heap.size, 4, none⟩ = some (.string dx.nm) ∧ V.cell? ⟨w2.heap.size, 5, none⟩ = some (.slice Bx mx cx) ∧ V.cell? ⟨w2.heap.size + 1, 0, none⟩ = some (.int .i64 dy.op) ∧ V.cell? ⟨w2.heap.size + 1, 1, none⟩ = some (.int .i64 dy.k) ∧ V.cell? ⟨w2.heap.size + 1, 2, none⟩ = some (.int .i64 dy.n) ∧ V.cell? ⟨w2.heap.size + 1, 3, none⟩ = some (.string dy.s) ∧ V.cell? ⟨w2.heap.size + 1, 4, none⟩ = some (.string dy.nm) ∧ V.cell? ⟨w2.heap.size + 1, 5, none⟩ = some (.slice By my cy) := fun U B u0 u1 u2 hU hB V hV => by
    subst hV
    exact HC3.out _ (b_set3' hU B hB 0 1 2 u0 u1 u2)
  have HS3 := Lib.hid hst3
  clear hcl3 hst3
  have HO3 := Lib.hid (fun V gr (hV : Below X.heap.size X V) hr => HF3.out V gr (HBX.out.trans (hV.mono HBX.out.size)) hr)
  go_cut [14, 15] (fun sA sB wx => ∃ (B : Nat), sA = .pointer (some ⟨B, 0, none⟩) ∧ sB = .int .i64 0 ∧ BV wx B vk vn vz ∧ Below X.heap.size X wx)
  case first =>
    have hbl := Below.refl X.heap.size X
    have hra : ∀ wn : World, RowE (wn.alloc (.cells #[.int .i64 1, .int .i64 2, .int .i64 1, .string ⟨#[]⟩, .string ⟨#[]⟩, .slice none 0 0, .int .i64 dx.op, .int .i64 dx.k, .int .i64 dx.n, .string dx.s, .string dx.nm, .slice Bx mx cx, .int .i64 dy.op, .int .i64 dy.k, .int .i64 dy.n, .string dy.s, .string dy.nm, .slice By my cy] 26)) wn.heap.size [leafEl (kb 1), ⟨x, dx, Bx, mx, cx⟩, ⟨y, dy, By, my, cy⟩] := fun wn => World.alloc_heap_new wn _
    have hrb : ∀ wn : World, RowE ((wn.alloc (.cells #[.int .i64 0, .int .i64 0, .string ⟨#[]⟩] 23)).alloc (.cells #[.int .i64 1, .int .i64 2, .int .i64 1, .string ⟨#[]⟩, .string ⟨#[]⟩, .slice none 0 0, .int .i64 dx.op, .int .i64 dx.k, .int .i64 dx.n, .string dx.s, .string dx.nm, .slice Bx mx cx, .int .i64 dy.op, .int .i64 dy.k, .int .i64 dy.n, .string dy.s, .string dy.nm, .slice By my cy] 26)) (wn.heap.size + 1) [leafEl (kb 1), ⟨x, dx, Bx, mx, cx⟩, ⟨y, dy, By, my, cy⟩] := fun wn => by
      have h := World.alloc_heap_new (wn.alloc (.cells #[.int .i64 0, .int .i64 0, .string ⟨#[]⟩] 23)) (.cells #[.int .i64 1, .int .i64 2, .int .i64 1, .string ⟨#[]⟩, .string ⟨#[]⟩, .slice none 0 0, .int .i64 dx.op, .int .i64 dx.k, .int .i64 dx.n, .string dx.s, .string dx.nm, .slice Bx mx cx, .int .i64 dy.op, .int .i64 dy.k, .int .i64 dy.n, .string dy.s, .string dy.nm, .slice By my cy] 26)
      rw [World.size_alloc] at h; exact h
    have hrc : ∀ wn : World, RowE ((wn.alloc (.cells #[.int .i64 1, .int .i64 2, .int .i64 1, .string ⟨#[]⟩, .string ⟨#[]⟩, .slice none 0 0, .int .i64 dx.op, .int .i64 dx.k, .int .i64 dx.n, .string dx.s, .string dx.nm, .slice Bx mx cx, .int .i64 dy.op, .int .i64 dy.k, .int .i64 dy.n, .string dy.s, .string dy.nm, .slice By my cy] 26)).alloc (.cells #[.int .i64 0, .int .i64 0, .string ⟨#[]⟩] 23)) wn.heap.size [leafEl (kb 1), ⟨x, dx, Bx, mx, cx⟩, ⟨y, dy, By, my, cy⟩] := fun wn => (hra wn).below (b_new _ _)
    have hzb : ∀ wn : World, BV ((wn.alloc (.cells #[.int .i64 0, .int .i64 0, .string ⟨#[]⟩] 23)).alloc (.cells #[.int .i64 1, .int .i64 2, .int .i64 1, .string ⟨#[]⟩, .string ⟨#[]⟩, .slice none 0 0, .int .i64 dx.op, .int .i64 dx.k, .int .i64 dx.n, .string dx.s, .string dx.nm, .slice Bx mx cx, .int .i64 dy.op, .int .i64 dy.k, .int .i64 dy.n, .string dy.s, .string dy.nm, .slice By my cy] 26)) wn.heap.size 0 0 ⟨#[]⟩ := fun wn => (BV.new wn 0 0 ⟨#[]⟩).below (b_new _ _)
    have hzc : ∀ wn : World, BV ((wn.alloc (.cells #[.int .i64 1, .int .i64 2, .int .i64 1, .string ⟨#[]⟩, .string ⟨#[]⟩, .slice none 0 0, .int .i64 dx.op, .int .i64 dx.k, .int .i64 dx.n, .string dx.s, .string dx.nm, .slice Bx mx cx, .int .i64 dy.op, .int .i64 dy.k, .int .i64 dy.n, .string dy.s, .string dy.nm, .slice By my cy] 26)).alloc (.cells #[.int .i64 0, .int .i64 0, .string ⟨#[]⟩] 23)) (wn.heap.size + 1) 0 0 ⟨#[]⟩ := fun wn => by
      have h := BV.new (wn.alloc (.cells #[.int .i64 1, .int .i64 2, .int .i64 1, .string ⟨#[]⟩, .string ⟨#[]⟩, .slice none 0 0, .int .i64 dx.op, .int .i64 dx.k, .int .i64 dx.n, .string dx.s, .string dx.nm, .slice Bx mx cx, .int .i64 dy.op, .int .i64 dy.k, .int .i64 dy.n, .string dy.s, .string dy.nm, .slice By my cy] 26)) 0 0 ⟨#[]⟩
      rw [World.size_alloc] at h; exact h
    have HRa := Lib.hid hra
    have HRb := Lib.hid hrb
    have HRc := Lib.hid hrc
    have HZb := Lib.hid hzb
    have HZc := Lib.hid hzc
    clear hra hrb hrc hzb hzc
    obtain ⟨q0, q1, q2, q3, q4, q5, p0, p1, p2, p3, p4, p5⟩ := HC3.out X hbl
    go_region_held3 (fun V => V.cell? ⟨w2.heap.size, 0, none⟩ = some (.int .i64 dx.op) ∧ V.cell? ⟨w2.heap.size, 1, none⟩ = some (.int .i64 dx.k) ∧ V.cell? ⟨w2.heap.size, 2, none⟩ = some (.int .i64 dx.n) ∧ V.cell? ⟨w2.heap.size, 3, none⟩ = some (.string dx.s) ∧ V.cell? ⟨w2.heap.size, 4, none⟩ = some (.string dx.nm) ∧ V.cell? ⟨w2.heap.size, 5, none⟩ = some (.slice Bx mx cx) ∧ V.cell? ⟨w2.heap.size + 1, 0, none⟩ = some (.int .i64 dy.op) ∧ V.cell? ⟨w2.heap.size + 1, 1, none⟩ = some (.int .i64 dy.k) ∧ V.cell? ⟨w2.heap.size + 1, 2, none⟩ = some (.int .i64 dy.n) ∧ V.cell? ⟨w2.heap.size + 1, 3, none⟩ = some (.string dy.s) ∧ V.cell? ⟨w2.heap.size + 1, 4, none⟩ = some (.string dy.nm) ∧ V.cell? ⟨w2.heap.size + 1, 5, none⟩ = some (.slice By my cy)) (first | (with_reducible exact HC3.out _ hbl) | (with_reducible exact HC3.out _ (b_drew hbl)) | (with_reducible exact HC3.out _ (b_more hbl _)) | (with_reducible exact HC3.out _ (b_more (b_drew hbl) _)) | (with_reducible exact HC3.out _ (b_drew (b_more hbl _))) | (with_reducible exact HC3.out _ (b_more (b_more hbl _) _)) | (with_reducible exact HS3.out _ _ _ _ _ hbl (by first | exact Nat.le_refl _ | exact sn | exact Nat.le_succ_of_le sn | exact sk) _ rfl))
      (first | (go_at_call 24; (with_reducible refine (keepT _).mono ?_); rintro e wn ⟨rfl, hbn⟩; have hbl : Below X.heap.size X wn := (by first | (with_reducible exact EvE.b_step hbl hbn) | (with_reducible exact EvE.b_step (b_drew hbl) hbn) | (with_reducible exact EvE.b_step (b_more hbl _) hbn) | (with_reducible exact EvE.b_step (b_more (b_drew hbl) _) hbn) | (with_reducible exact EvE.b_step (b_drew (b_more hbl _)) hbn) | (with_reducible exact EvE.b_step (b_more (b_more hbl _) _) hbn)); have sn := hbl.size; (first | (have bx : BV wn X.heap.size 0 0 ⟨#[]⟩ := BV.below (by first | exact BV.new X 0 0 ⟨#[]⟩ | exact BV.new X.drew 0 0 ⟨#[]⟩) hbn) | skip)) | (go_at_call 23; (with_reducible refine (EvW.with_any _ _ _ _ _).mono ?_); rintro e wk ⟨rfl, hbk⟩; have hbl : Below X.heap.size X wk := (by first | (with_reducible exact EvE.b_step hbl hbk) | (with_reducible exact EvE.b_step (b_drew hbl) hbk) | (with_reducible exact EvE.b_step (b_more hbl _) hbk) | (with_reducible exact EvE.b_step (b_more (b_drew hbl) _) hbk) | (with_reducible exact EvE.b_step (b_drew (b_more hbl _)) hbk) | (with_reducible exact EvE.b_step (b_more (b_more hbl _) _) hbk)); (first | (have hrw : RowE wk wn.heap.size [leafEl (kb 1), ⟨x, dx, Bx, mx, cx⟩, ⟨y, dy, By, my, cy⟩] := RowE.below (by with_reducible exact HRa.out wn) hbk) | (have hrw : RowE wk (wn.heap.size + 1) [leafEl (kb 1), ⟨x, dx, Bx, mx, cx⟩, ⟨y, dy, By, my, cy⟩] := RowE.below (by with_reducible exact HRb.out wn) hbk) | (have hrw : RowE wk wn.heap.size [leafEl (kb 1), ⟨x, dx, Bx, mx, cx⟩, ⟨y, dy, By, my, cy⟩] := RowE.below (by with_reducible exact HRc.out wn) hbk)); (first | (have bx : BV wk X.heap.size 0 0 ⟨#[]⟩ := BV.below (BV.below bx (by first | (with_reducible exact (Below.refl _ _)) | (with_reducible exact (b_drew (Below.refl _ _))) | (with_reducible exact (b_new _ _)) | (with_reducible exact (b_more (b_drew (Below.refl _ _)) _)) | (with_reducible exact (b_drew (b_new _ _))) | (with_reducible exact (b_more (b_new _ _) _)))) hbk) | (have bx : BV wk wn.heap.size 0 0 ⟨#[]⟩ := BV.below (by with_reducible exact HZb.out wn) hbk) | (have bx : BV wk (wn.heap.size + 1) 0 0 ⟨#[]⟩ := BV.below (by with_reducible exact HZc.out wn) hbk) | skip); have sk := hbl.size) | (go_at_call 11; (with_reducible refine (HO3.out _ _ ?_ ?_).mono ?_); (first | exact hbl | exact b_drew hbl | exact b_more hbl _ | exact b_more (b_drew hbl) _ | exact b_drew (b_more hbl _)); (first | (with_reducible exact hrw) | (with_reducible exact RowE.below hrw (b_new _ _))); rintro e wz ⟨rfl, hbz⟩; have hbl : Below X.heap.size X wz := (by first | (with_reducible exact EvE.b_step hbl hbz) | (with_reducible exact EvE.b_step (b_drew hbl) hbz) | (with_reducible exact EvE.b_step (b_more hbl _) hbz) | (with_reducible exact EvE.b_step (b_more (b_drew hbl) _) hbz) | (with_reducible exact EvE.b_step (b_drew (b_more hbl _)) hbz) | (with_reducible exact EvE.b_step (b_more (b_more hbl _) _) hbz)); (first | (have bx : BV wz X.heap.size 0 0 ⟨#[]⟩ := BV.below (BV.below bx (by first | (with_reducible exact (Below.refl _ _)) | (with_reducible exact (b_drew (Below.refl _ _))) | (with_reducible exact (b_new _ _)) | (with_reducible exact (b_more (b_drew (Below.refl _ _)) _)) | (with_reducible exact (b_drew (b_new _ _))) | (with_reducible exact (b_more (b_new _ _) _)))) hbz) | (have bx : BV wz wn.heap.size 0 0 ⟨#[]⟩ := BV.below (BV.below bx (by first | (with_reducible exact (Below.refl _ _)) | (with_reducible exact (b_drew (Below.refl _ _))) | (with_reducible exact (b_new _ _)) | (with_reducible exact (b_more (b_drew (Below.refl _ _)) _)) | (with_reducible exact (b_drew (b_new _ _))) | (with_reducible exact (b_more (b_new _ _) _)))) hbz) | (have bx : BV wz (wn.heap.size + 1) 0 0 ⟨#[]⟩ := BV.below (BV.below bx (by first | (with_reducible exact (Below.refl _ _)) | (with_reducible exact (b_drew (Below.refl _ _))) | (with_reducible exact (b_new _ _)) | (with_reducible exact (b_more (b_drew (Below.refl _ _)) _)) | (with_reducible exact (b_drew (b_new _ _))) | (with_reducible exact (b_more (b_new _ _) _)))) hbz) | (have bx : BV wz wk.heap.size 0 0 ⟨#[]⟩ := BV.below (by with_reducible exact BV.new wk 0 0 ⟨#[]⟩) hbz) | skip); (first | (obtain ⟨x0, x1, x2⟩ := bx.cells; have xf := bx.frozen; have xl := bx.lt) | skip)))
    all_goals (go_wp2_with fail; go_meet)
    all_goals (first | (with_reducible exact ⟨_, rfl, rfl, bx.set3 vk vn vz, b_set3' hbl _ (by first | exact Nat.le_refl _ | exact sn | exact Nat.le_succ_of_le sn | exact sk) 0 1 2 _ _ _⟩) | (with_reducible exact ⟨_, rfl, rfl, BV.new wz vk vn vz, b_more hbl _⟩))
  case rest =>
    obtain ⟨B14, rfl, rfl, hbx, hb⟩ := hcut
    obtain ⟨Y4, rfl⟩ : ∃ V, V = wc := ⟨_, rfl⟩
    have KB14 := Lib.hid hbx
    have HBY4 := Lib.hid (HBX.out.trans (hb.mono HBX.out.size))
    have K12 := Lib.hid (K12.out.below hb)
    clear hbx hb
    have hcl4 : ∀ V, Below Y4.heap.size Y4 V → V.cell? ⟨w2.heap.size, 0, none⟩ = some (.int .i64 dx.op) ∧ V.cell? ⟨w2.heap.size, 1, none⟩ = some (.int .i64 dx.k) ∧ V.cell? ⟨w2.heap.size, 2, none⟩ = some (.int .i64 dx.n) ∧ V.cell? ⟨w2.heap.size, 3, none⟩ = some (.string dx.s) ∧ V.cell? ⟨w2.heap.size, 4, none⟩ = some (.string dx.nm) ∧ V.cell? ⟨w2.heap.size, 5, none⟩ = some (.slice Bx mx cx) ∧ V.cell? ⟨w2.heap.size + 1, 0, none⟩ = some (.int .i64 dy.op) ∧ V.cell? ⟨w2.heap.size + 1, 1, none⟩ = some (.int .i64 dy.k) ∧ V.cell? ⟨w2.heap.size + 1, 2, none⟩ = some (.int .i64 dy.n) ∧ V.cell? ⟨w2.heap.size + 1, 3, none⟩ = some (.string dy.s) ∧ V.cell? ⟨w2.heap.size + 1, 4, none⟩ = some (.string dy.nm) ∧ V.cell? ⟨w2.heap.size + 1, 5, none⟩ = some (.slice By my cy) := fun V hV => HCl.out V (HBY4.out.trans (hV.mono HBY4.out.size))
    have HC4 := Lib.hid hcl4
    have hst4 : ∀ (U : World) (B : Nat) (u0 u1 u2 : Value), Below Y4.heap.size Y4 U → Y4.heap.size ≤ B → ∀ V, V = ((U.setCell ⟨B, 0, none⟩ u0).setCell ⟨B, 1, none⟩ u1).setCell ⟨B, 2, none⟩ u2 → V.cell? ⟨w2.heap.size, 0, none⟩ = some (.int .i64 dx.op) ∧ V.cell? ⟨w2.heap.size, 1, none⟩ = some (.int .i64 dx.k) ∧ V.cell? ⟨w2.heap.size, 2, none⟩ = some (.int .i64 dx.n) ∧ V.cell? ⟨w2.heap.size, 3, none⟩ = some (.string dx.s) ∧ V.cell? ⟨w2.heap.size, 4, none⟩ = some (.string dx.nm) ∧ V.cell? ⟨w2.heap.size, 5, none⟩ = some (.slice Bx mx cx) ∧ V.cell? ⟨w2.heap.size + 1, 0, none⟩ = some (.int .i64 dy.op) ∧ V.cell? ⟨w2.heap.size + 1, 1, none⟩ = some (.int .i64 dy.k) ∧ V.cell? ⟨w2.heap.size + 1, 2, none⟩ = some (.int .i64 dy.n) ∧ V.cell? ⟨w2.heap.size + 1, 3, none⟩ = some (.string dy.s) ∧ V.cell? ⟨w2.heap.size + 1, 4, none⟩ = some (.string dy.nm) ∧ V.cell? ⟨w2.heap.size + 1, 5, none⟩ = some (.slice By my cy) := fun U B u0 u1 u2 hU hB V hV => by
      subst hV
      exact HC4.out _ (b_set3' hU B hB 0 1 2 u0 u1 u2)
    have HS4 := Lib.hid hst4
    clear hcl4 hst4
    have HO4 := Lib.hid (fun V gr (hV : Below Y4.heap.size Y4 V) hr => HF4.out V gr (HBY4.out.trans (hV.mono HBY4.out.size)) hr)
    obtain ⟨q0, q1, q2, q3, q4, q5, p0, p1, p2, p3, p4, p5⟩ := HC4.out Y4 (Below.refl _ _)
    clear q0 q1 q2 q3 q4 q5 p0 p1 p2 p3 p4 p5
    go_upto_region 4 with fail
    go_cut [16, 17] (fun sA sB wx => ∃ (B : Nat), sA = .pointer (some ⟨B, 0, none⟩) ∧ sB = .int .i64 0 ∧ BV wx B vk vn vz ∧ Below Y4.heap.size Y4 wx)
    case first =>
      have hbl := Below.refl Y4.heap.size Y4
      have hra : ∀ wn : World, RowE (wn.alloc (.cells #[.int .i64 1, .int .i64 2, .int .i64 0, .string ⟨#[]⟩, .string ⟨#[]⟩, .slice none 0 0, .int .i64 dy.op, .int .i64 dy.k, .int .i64 dy.n, .string dy.s, .string dy.nm, .slice By my cy, .int .i64 dx.op, .int .i64 dx.k, .int .i64 dx.n, .string dx.s, .string dx.nm, .slice Bx mx cx] 26)) wn.heap.size [leafEl (kb 0), ⟨y, dy, By, my, cy⟩, ⟨x, dx, Bx, mx, cx⟩] := fun wn => World.alloc_heap_new wn _
      have hrb : ∀ wn : World, RowE ((wn.alloc (.cells #[.int .i64 0, .int .i64 0, .string ⟨#[]⟩] 23)).alloc (.cells #[.int .i64 1, .int .i64 2, .int .i64 0, .string ⟨#[]⟩, .string ⟨#[]⟩, .slice none 0 0, .int .i64 dy.op, .int .i64 dy.k, .int .i64 dy.n, .string dy.s, .string dy.nm, .slice By my cy, .int .i64 dx.op, .int .i64 dx.k, .int .i64 dx.n, .string dx.s, .string dx.nm, .slice Bx mx cx] 26)) (wn.heap.size + 1) [leafEl (kb 0), ⟨y, dy, By, my, cy⟩, ⟨x, dx, Bx, mx, cx⟩] := fun wn => by
        have h := World.alloc_heap_new (wn.alloc (.cells #[.int .i64 0, .int .i64 0, .string ⟨#[]⟩] 23)) (.cells #[.int .i64 1, .int .i64 2, .int .i64 0, .string ⟨#[]⟩, .string ⟨#[]⟩, .slice none 0 0, .int .i64 dy.op, .int .i64 dy.k, .int .i64 dy.n, .string dy.s, .string dy.nm, .slice By my cy, .int .i64 dx.op, .int .i64 dx.k, .int .i64 dx.n, .string dx.s, .string dx.nm, .slice Bx mx cx] 26)
        rw [World.size_alloc] at h; exact h
      have hrc : ∀ wn : World, RowE ((wn.alloc (.cells #[.int .i64 1, .int .i64 2, .int .i64 0, .string ⟨#[]⟩, .string ⟨#[]⟩, .slice none 0 0, .int .i64 dy.op, .int .i64 dy.k, .int .i64 dy.n, .string dy.s, .string dy.nm, .slice By my cy, .int .i64 dx.op, .int .i64 dx.k, .int .i64 dx.n, .string dx.s, .string dx.nm, .slice Bx mx cx] 26)).alloc (.cells #[.int .i64 0, .int .i64 0, .string ⟨#[]⟩] 23)) wn.heap.size [leafEl (kb 0), ⟨y, dy, By, my, cy⟩, ⟨x, dx, Bx, mx, cx⟩] := fun wn => (hra wn).below (b_new _ _)
      have hzb : ∀ wn : World, BV ((wn.alloc (.cells #[.int .i64 0, .int .i64 0, .string ⟨#[]⟩] 23)).alloc (.cells #[.int .i64 1, .int .i64 2, .int .i64 0, .string ⟨#[]⟩, .string ⟨#[]⟩, .slice none 0 0, .int .i64 dy.op, .int .i64 dy.k, .int .i64 dy.n, .string dy.s, .string dy.nm, .slice By my cy, .int .i64 dx.op, .int .i64 dx.k, .int .i64 dx.n, .string dx.s, .string dx.nm, .slice Bx mx cx] 26)) wn.heap.size 0 0 ⟨#[]⟩ := fun wn => (BV.new wn 0 0 ⟨#[]⟩).below (b_new _ _)
      have hzc : ∀ wn : World, BV ((wn.alloc (.cells #[.int .i64 1, .int .i64 2, .int .i64 0, .string ⟨#[]⟩, .string ⟨#[]⟩, .slice none 0 0, .int .i64 dy.op, .int .i64 dy.k, .int .i64 dy.n, .string dy.s, .string dy.nm, .slice By my cy, .int .i64 dx.op, .int .i64 dx.k, .int .i64 dx.n, .string dx.s, .string dx.nm, .slice Bx mx cx] 26)).alloc (.cells #[.int .i64 0, .int .i64 0, .string ⟨#[]⟩] 23)) (wn.heap.size + 1) 0 0 ⟨#[]⟩ := fun wn => by
        have h := BV.new (wn.alloc (.cells #[.int .i64 1, .int .i64 2, .int .i64 0, .string ⟨#[]⟩, .string ⟨#[]⟩, .slice none 0 0, .int .i64 dy.op, .int .i64 dy.k, .int .i64 dy.n, .string dy.s, .string dy.nm, .slice By my cy, .int .i64 dx.op, .int .i64 dx.k, .int .i64 dx.n, .string dx.s, .string dx.nm, .slice Bx mx cx] 26)) 0 0 ⟨#[]⟩
        rw [World.size_alloc] at h; exact h
      have HRa := Lib.hid hra
      have HRb := Lib.hid hrb
      have HRc := Lib.hid hrc
      have HZb := Lib.hid hzb
      have HZc := Lib.hid hzc
      clear hra hrb hrc hzb hzc
      obtain ⟨q0, q1, q2, q3, q4, q5, p0, p1, p2, p3, p4, p5⟩ := HC4.out Y4 hbl
      go_region_held3 (fun V => V.cell? ⟨w2.heap.size, 0, none⟩ = some (.int .i64 dx.op) ∧ V.cell? ⟨w2.heap.size, 1, none⟩ = some (.int .i64 dx.k) ∧ V.cell? ⟨w2.heap.size, 2, none⟩ = some (.int .i64 dx.n) ∧ V.cell? ⟨w2.heap.size, 3, none⟩ = some (.string dx.s) ∧ V.cell? ⟨w2.heap.size, 4, none⟩ = some (.string dx.nm) ∧ V.cell? ⟨w2.heap.size, 5, none⟩ = some (.slice Bx mx cx) ∧ V.cell? ⟨w2.heap.size + 1, 0, none⟩ = some (.int .i64 dy.op) ∧ V.cell? ⟨w2.heap.size + 1, 1, none⟩ = some (.int .i64 dy.k) ∧ V.cell? ⟨w2.heap.size + 1, 2, none⟩ = some (.int .i64 dy.n) ∧ V.cell? ⟨w2.heap.size + 1, 3, none⟩ = some (.string dy.s) ∧ V.cell? ⟨w2.heap.size + 1, 4, none⟩ = some (.string dy.nm) ∧ V.cell? ⟨w2.heap.size + 1, 5, none⟩ = some (.slice By my cy)) (first | (with_reducible exact HC4.out _ hbl) | (with_reducible exact HC4.out _ (b_drew hbl)) | (with_reducible exact HC4.out _ (b_more hbl _)) | (with_reducible exact HC4.out _ (b_more (b_drew hbl) _)) | (with_reducible exact HC4.out _ (b_drew (b_more hbl _))) | (with_reducible exact HC4.out _ (b_more (b_more hbl _) _)) | (with_reducible exact HS4.out _ _ _ _ _ hbl (by first | exact Nat.le_refl _ | exact sn | exact Nat.le_succ_of_le sn | exact sk) _ rfl))
        (first | (go_at_call 24; (with_reducible refine (keepF _).mono ?_); rintro e wn ⟨rfl, hbn⟩; have hbl : Below Y4.heap.size Y4 wn := (by first | (with_reducible exact EvE.b_step hbl hbn) | (with_reducible exact EvE.b_step (b_drew hbl) hbn) | (with_reducible exact EvE.b_step (b_more hbl _) hbn) | (with_reducible exact EvE.b_step (b_more (b_drew hbl) _) hbn) | (with_reducible exact EvE.b_step (b_drew (b_more hbl _)) hbn) | (with_reducible exact EvE.b_step (b_more (b_more hbl _) _) hbn)); have sn := hbl.size; (first | (have bx : BV wn Y4.heap.size 0 0 ⟨#[]⟩ := BV.below (by first | exact BV.new Y4 0 0 ⟨#[]⟩ | exact BV.new Y4.drew 0 0 ⟨#[]⟩) hbn) | skip)) | (go_at_call 23; (with_reducible refine (EvW.with_any _ _ _ _ _).mono ?_); rintro e wk ⟨rfl, hbk⟩; have hbl : Below Y4.heap.size Y4 wk := (by first | (with_reducible exact EvE.b_step hbl hbk) | (with_reducible exact EvE.b_step (b_drew hbl) hbk) | (with_reducible exact EvE.b_step (b_more hbl _) hbk) | (with_reducible exact EvE.b_step (b_more (b_drew hbl) _) hbk) | (with_reducible exact EvE.b_step (b_drew (b_more hbl _)) hbk) | (with_reducible exact EvE.b_step (b_more (b_more hbl _) _) hbk)); (first | (have hrw : RowE wk wn.heap.size [leafEl (kb 0), ⟨y, dy, By, my, cy⟩, ⟨x, dx, Bx, mx, cx⟩] := RowE.below (by with_reducible exact HRa.out wn) hbk) | (have hrw : RowE wk (wn.heap.size + 1) [leafEl (kb 0), ⟨y, dy, By, my, cy⟩, ⟨x, dx, Bx, mx, cx⟩] := RowE.below (by with_reducible exact HRb.out wn) hbk) | (have hrw : RowE wk wn.heap.size [leafEl (kb 0), ⟨y, dy, By, my, cy⟩, ⟨x, dx, Bx, mx, cx⟩] := RowE.below (by with_reducible exact HRc.out wn) hbk)); (first | (have bx : BV wk Y4.heap.size 0 0 ⟨#[]⟩ := BV.below (BV.below bx (by first | (with_reducible exact (Below.refl _ _)) | (with_reducible exact (b_drew (Below.refl _ _))) | (with_reducible exact (b_new _ _)) | (with_reducible exact (b_more (b_drew (Below.refl _ _)) _)) | (with_reducible exact (b_drew (b_new _ _))) | (with_reducible exact (b_more (b_new _ _) _)))) hbk) | (have bx : BV wk wn.heap.size 0 0 ⟨#[]⟩ := BV.below (by with_reducible exact HZb.out wn) hbk) | (have bx : BV wk (wn.heap.size + 1) 0 0 ⟨#[]⟩ := BV.below (by with_reducible exact HZc.out wn) hbk) | skip); have sk := hbl.size) | (go_at_call 11; (with_reducible refine (HO4.out _ _ ?_ ?_).mono ?_); (first | exact hbl | exact b_drew hbl | exact b_more hbl _ | exact b_more (b_drew hbl) _ | exact b_drew (b_more hbl _)); (first | (with_reducible exact hrw) | (with_reducible exact RowE.below hrw (b_new _ _))); rintro e wz ⟨rfl, hbz⟩; have hbl : Below Y4.heap.size Y4 wz := (by first | (with_reducible exact EvE.b_step hbl hbz) | (with_reducible exact EvE.b_step (b_drew hbl) hbz) | (with_reducible exact EvE.b_step (b_more hbl _) hbz) | (with_reducible exact EvE.b_step (b_more (b_drew hbl) _) hbz) | (with_reducible exact EvE.b_step (b_drew (b_more hbl _)) hbz) | (with_reducible exact EvE.b_step (b_more (b_more hbl _) _) hbz)); (first | (have bx : BV wz Y4.heap.size 0 0 ⟨#[]⟩ := BV.below (BV.below bx (by first | (with_reducible exact (Below.refl _ _)) | (with_reducible exact (b_drew (Below.refl _ _))) | (with_reducible exact (b_new _ _)) | (with_reducible exact (b_more (b_drew (Below.refl _ _)) _)) | (with_reducible exact (b_drew (b_new _ _))) | (with_reducible exact (b_more (b_new _ _) _)))) hbz) | (have bx : BV wz wn.heap.size 0 0 ⟨#[]⟩ := BV.below (BV.below bx (by first | (with_reducible exact (Below.refl _ _)) | (with_reducible exact (b_drew (Below.refl _ _))) | (with_reducible exact (b_new _ _)) | (with_reducible exact (b_more (b_drew (Below.refl _ _)) _)) | (with_reducible exact (b_drew (b_new _ _))) | (with_reducible exact (b_more (b_new _ _) _)))) hbz) | (have bx : BV wz (wn.heap.size + 1) 0 0 ⟨#[]⟩ := BV.below (BV.below bx (by first | (with_reducible exact (Below.refl _ _)) | (with_reducible exact (b_drew (Below.refl _ _))) | (with_reducible exact (b_new _ _)) | (with_reducible exact (b_more (b_drew (Below.refl _ _)) _)) | (with_reducible exact (b_drew (b_new _ _))) | (with_reducible exact (b_more (b_new _ _) _)))) hbz) | (have bx : BV wz wk.heap.size 0 0 ⟨#[]⟩ := BV.below (by with_reducible exact BV.new wk 0 0 ⟨#[]⟩) hbz) | skip); (first | (obtain ⟨x0, x1, x2⟩ := bx.cells; have xf := bx.frozen; have xl := bx.lt) | skip)))
      all_goals (go_wp2_with fail; go_meet)
      all_goals (first | (with_reducible exact ⟨_, rfl, rfl, bx.set3 vk vn vz, b_set3' hbl _ (by first | exact Nat.le_refl _ | exact sn | exact Nat.le_succ_of_le sn | exact sk) 0 1 2 _ _ _⟩) | (with_reducible exact ⟨_, rfl, rfl, BV.new wz vk vn vz, b_more hbl _⟩))
    case rest =>
      obtain ⟨B16, rfl, rfl, hbx, hb⟩ := hcut
      obtain ⟨Y5, rfl⟩ : ∃ V, V = wc := ⟨_, rfl⟩
      have KB16 := Lib.hid hbx
      have HBY5 := Lib.hid (HBY4.out.trans (hb.mono HBY4.out.size))
      have K12 := Lib.hid (K12.out.below hb)
      have KB14 := Lib.hid (KB14.out.below hb)
      clear hbx hb
      have hL := World.alloc_heap_new Y5 (.cells #[.int .i64 2, .int .i64 0, .int .i64 0, .string ⟨#[]⟩, .string ⟨#[110, 111, 110, 101]⟩, .slice none 0 0] 26)
      have hbn := b_new Y5 (.cells #[.int .i64 2, .int .i64 0, .int .i64 0, .string ⟨#[]⟩, .string ⟨#[110, 111, 110, 101]⟩, .slice none 0 0] 26)
      have HB6 := Lib.hid (b_more HBY5.out (.cells #[.int .i64 2, .int .i64 0, .int .i64 0, .string ⟨#[]⟩, .string ⟨#[110, 111, 110, 101]⟩, .slice none 0 0] 26))
      have K12 := Lib.hid (K12.out.below hbn)
      have KB14 := Lib.hid (KB14.out.below hbn)
      have KB16 := Lib.hid (KB16.out.below hbn)
      go_upto_region 6 with fail
      obtain ⟨BL, hBL⟩ : ∃ b, Y5.heap.size = b := ⟨_, rfl⟩
      obtain ⟨Y6, hY6⟩ : ∃ V, Y5.alloc (.cells #[.int .i64 2, .int .i64 0, .int .i64 0, .string ⟨#[]⟩, .string ⟨#[110, 111, 110, 101]⟩, .slice none 0 0] 26) = V := ⟨_, rfl⟩
      have HY6 := Lib.hid hY6
      have K12 := Lib.hid (show BV Y6 _ _ _ _ by rw [← hY6]; exact K12.out)
      have KB14 := Lib.hid (show BV Y6 _ _ _ _ by rw [← hY6]; exact KB14.out)
      have KB16 := Lib.hid (show BV Y6 _ _ _ _ by rw [← hY6]; exact KB16.out)
      have HBY6 := Lib.hid (show Below W.heap.size W Y6 by rw [← hY6]; exact HB6.out)
      rw [hY6] at hL ⊢
      rw [hBL] at hL ⊢
      have HL := Lib.hid hL
      clear hL hY6 hBL hbn
      have hlost : ∀ V, Below Y6.heap.size Y6 V → V.cell? ⟨BL, 0, none⟩ = some (.int .i64 2) ∧ V.cell? ⟨BL, 1, none⟩ = some (.int .i64 0) ∧ V.cell? ⟨BL, 2, none⟩ = some (.int .i64 0) ∧ V.cell? ⟨BL, 3, none⟩ = some (.string ⟨#[]⟩) ∧ V.cell? ⟨BL, 4, none⟩ = some (.string ⟨#[110, 111, 110, 101]⟩) ∧ V.cell? ⟨BL, 5, none⟩ = some (.slice none 0 0) := fun V hV => by
        have h : V.heap[BL]? = some (.cells #[.int .i64 2, .int .i64 0, .int .i64 0, .string ⟨#[]⟩, .string ⟨#[110, 111, 110, 101]⟩, .slice none 0 0] 26 (0, 0)) := (hV.block _ (Array.getElem?_eq_some_iff.1 HL.out).1).trans HL.out
        exact ⟨by simp [World.cell?, h], by simp [World.cell?, h], by simp [World.cell?, h], by simp [World.cell?, h], by simp [World.cell?, h], by simp [World.cell?, h]⟩
      have HLost := Lib.hid hlost
      clear hlost
      have hcl6 : ∀ V, Below Y6.heap.size Y6 V → V.cell? ⟨BL, 0, none⟩ = some (.int .i64 2) ∧ V.cell? ⟨BL, 1, none⟩ = some (.int .i64 0) ∧ V.cell? ⟨BL, 2, none⟩ = some (.int .i64 0) ∧ V.cell? ⟨BL, 3, none⟩ = some (.string ⟨#[]⟩) ∧ V.cell? ⟨BL, 4, none⟩ = some (.string ⟨#[110, 111, 110, 101]⟩) ∧ V.cell? ⟨BL, 5, none⟩ = some (.slice none 0 0) := fun V hV => HLost.out V hV
      have HC6 := Lib.hid hcl6
      have hst6 : ∀ (U : World) (B : Nat) (u0 u1 u2 : Value), Below Y6.heap.size Y6 U → Y6.heap.size ≤ B → ∀ V, V = ((U.setCell ⟨B, 0, none⟩ u0).setCell ⟨B, 1, none⟩ u1).setCell ⟨B, 2, none⟩ u2 → V.cell? ⟨BL, 0, none⟩ = some (.int .i64 2) ∧ V.cell? ⟨BL, 1, none⟩ = some (.int .i64 0) ∧ V.cell? ⟨BL, 2, none⟩ = some (.int .i64 0) ∧ V.cell? ⟨BL, 3, none⟩ = some (.string ⟨#[]⟩) ∧ V.cell? ⟨BL, 4, none⟩ = some (.string ⟨#[110, 111, 110, 101]⟩) ∧ V.cell? ⟨BL, 5, none⟩ = some (.slice none 0 0) := fun U B u0 u1 u2 hU hB V hV => by
        subst hV
        exact HC6.out _ (b_set3' hU B hB 0 1 2 u0 u1 u2)
      have HS6 := Lib.hid hst6
      clear hcl6 hst6
      have HO6 := Lib.hid (fun V gr (hV : Below Y6.heap.size Y6 V) hr => HF6.out V gr (HBY6.out.trans (hV.mono HBY6.out.size)) hr)
      go_cut [19, 20] (fun sA sB wx => ∃ (B : Nat), sA = .pointer (some ⟨B, 0, none⟩) ∧ sB = .int .i64 0 ∧ BV wx B 2 0 ⟨#[]⟩ ∧ Below Y6.heap.size Y6 wx)
      case first =>
        have hbl := Below.refl Y6.heap.size Y6
        have hra : ∀ wn : World, RowE (wn.alloc (.cells #[.int .i64 1, .int .i64 2, .int .i64 0, .string ⟨#[]⟩, .string ⟨#[]⟩, .slice none 0 0, .int .i64 2, .int .i64 0, .int .i64 0, .string ⟨#[]⟩, .string ⟨#[110, 111, 110, 101]⟩, .slice none 0 0] 26)) wn.heap.size [leafEl (kb 0), leafEl lost] := fun wn => World.alloc_heap_new wn _
        have hrb : ∀ wn : World, RowE ((wn.alloc (.cells #[.int .i64 0, .int .i64 0, .string ⟨#[]⟩] 23)).alloc (.cells #[.int .i64 1, .int .i64 2, .int .i64 0, .string ⟨#[]⟩, .string ⟨#[]⟩, .slice none 0 0, .int .i64 2, .int .i64 0, .int .i64 0, .string ⟨#[]⟩, .string ⟨#[110, 111, 110, 101]⟩, .slice none 0 0] 26)) (wn.heap.size + 1) [leafEl (kb 0), leafEl lost] := fun wn => by
          have h := World.alloc_heap_new (wn.alloc (.cells #[.int .i64 0, .int .i64 0, .string ⟨#[]⟩] 23)) (.cells #[.int .i64 1, .int .i64 2, .int .i64 0, .string ⟨#[]⟩, .string ⟨#[]⟩, .slice none 0 0, .int .i64 2, .int .i64 0, .int .i64 0, .string ⟨#[]⟩, .string ⟨#[110, 111, 110, 101]⟩, .slice none 0 0] 26)
          rw [World.size_alloc] at h; exact h
        have hrc : ∀ wn : World, RowE ((wn.alloc (.cells #[.int .i64 1, .int .i64 2, .int .i64 0, .string ⟨#[]⟩, .string ⟨#[]⟩, .slice none 0 0, .int .i64 2, .int .i64 0, .int .i64 0, .string ⟨#[]⟩, .string ⟨#[110, 111, 110, 101]⟩, .slice none 0 0] 26)).alloc (.cells #[.int .i64 0, .int .i64 0, .string ⟨#[]⟩] 23)) wn.heap.size [leafEl (kb 0), leafEl lost] := fun wn => (hra wn).below (b_new _ _)
        have hzb : ∀ wn : World, BV ((wn.alloc (.cells #[.int .i64 0, .int .i64 0, .string ⟨#[]⟩] 23)).alloc (.cells #[.int .i64 1, .int .i64 2, .int .i64 0, .string ⟨#[]⟩, .string ⟨#[]⟩, .slice none 0 0, .int .i64 2, .int .i64 0, .int .i64 0, .string ⟨#[]⟩, .string ⟨#[110, 111, 110, 101]⟩, .slice none 0 0] 26)) wn.heap.size 0 0 ⟨#[]⟩ := fun wn => (BV.new wn 0 0 ⟨#[]⟩).below (b_new _ _)
        have hzc : ∀ wn : World, BV ((wn.alloc (.cells #[.int .i64 1, .int .i64 2, .int .i64 0, .string ⟨#[]⟩, .string ⟨#[]⟩, .slice none 0 0, .int .i64 2, .int .i64 0, .int .i64 0, .string ⟨#[]⟩, .string ⟨#[110, 111, 110, 101]⟩, .slice none 0 0] 26)).alloc (.cells #[.int .i64 0, .int .i64 0, .string ⟨#[]⟩] 23)) (wn.heap.size + 1) 0 0 ⟨#[]⟩ := fun wn => by
          have h := BV.new (wn.alloc (.cells #[.int .i64 1, .int .i64 2, .int .i64 0, .string ⟨#[]⟩, .string ⟨#[]⟩, .slice none 0 0, .int .i64 2, .int .i64 0, .int .i64 0, .string ⟨#[]⟩, .string ⟨#[110, 111, 110, 101]⟩, .slice none 0 0] 26)) 0 0 ⟨#[]⟩
          rw [World.size_alloc] at h; exact h
        have HRa := Lib.hid hra
        have HRb := Lib.hid hrb
        have HRc := Lib.hid hrc
        have HZb := Lib.hid hzb
        have HZc := Lib.hid hzc
        clear hra hrb hrc hzb hzc
        obtain ⟨q0, q1, q2, q3, q4, q5⟩ := HC6.out Y6 hbl
        go_region_held3 (fun V => V.cell? ⟨BL, 0, none⟩ = some (.int .i64 2) ∧ V.cell? ⟨BL, 1, none⟩ = some (.int .i64 0) ∧ V.cell? ⟨BL, 2, none⟩ = some (.int .i64 0) ∧ V.cell? ⟨BL, 3, none⟩ = some (.string ⟨#[]⟩) ∧ V.cell? ⟨BL, 4, none⟩ = some (.string ⟨#[110, 111, 110, 101]⟩) ∧ V.cell? ⟨BL, 5, none⟩ = some (.slice none 0 0)) (first | (with_reducible exact HC6.out _ hbl) | (with_reducible exact HC6.out _ (b_drew hbl)) | (with_reducible exact HC6.out _ (b_more hbl _)) | (with_reducible exact HC6.out _ (b_more (b_drew hbl) _)) | (with_reducible exact HC6.out _ (b_drew (b_more hbl _))) | (with_reducible exact HC6.out _ (b_more (b_more hbl _) _)) | (with_reducible exact HS6.out _ _ _ _ _ hbl (by first | exact Nat.le_refl _ | exact sn | exact Nat.le_succ_of_le sn | exact sk) _ rfl))
          (first | (go_at_call 24; (with_reducible refine (keepF _).mono ?_); rintro e wn ⟨rfl, hbn⟩; have hbl : Below Y6.heap.size Y6 wn := (by first | (with_reducible exact EvE.b_step hbl hbn) | (with_reducible exact EvE.b_step (b_drew hbl) hbn) | (with_reducible exact EvE.b_step (b_more hbl _) hbn) | (with_reducible exact EvE.b_step (b_more (b_drew hbl) _) hbn) | (with_reducible exact EvE.b_step (b_drew (b_more hbl _)) hbn) | (with_reducible exact EvE.b_step (b_more (b_more hbl _) _) hbn)); have sn := hbl.size; (first | (have bx : BV wn Y6.heap.size 0 0 ⟨#[]⟩ := BV.below (by first | exact BV.new Y6 0 0 ⟨#[]⟩ | exact BV.new Y6.drew 0 0 ⟨#[]⟩) hbn) | skip)) | (go_at_call 23; (with_reducible refine (EvW.with_any _ _ _ _ _).mono ?_); rintro e wk ⟨rfl, hbk⟩; have hbl : Below Y6.heap.size Y6 wk := (by first | (with_reducible exact EvE.b_step hbl hbk) | (with_reducible exact EvE.b_step (b_drew hbl) hbk) | (with_reducible exact EvE.b_step (b_more hbl _) hbk) | (with_reducible exact EvE.b_step (b_more (b_drew hbl) _) hbk) | (with_reducible exact EvE.b_step (b_drew (b_more hbl _)) hbk) | (with_reducible exact EvE.b_step (b_more (b_more hbl _) _) hbk)); (first | (have hrw : RowE wk wn.heap.size [leafEl (kb 0), leafEl lost] := RowE.below (by with_reducible exact HRa.out wn) hbk) | (have hrw : RowE wk (wn.heap.size + 1) [leafEl (kb 0), leafEl lost] := RowE.below (by with_reducible exact HRb.out wn) hbk) | (have hrw : RowE wk wn.heap.size [leafEl (kb 0), leafEl lost] := RowE.below (by with_reducible exact HRc.out wn) hbk)); (first | (have bx : BV wk Y6.heap.size 0 0 ⟨#[]⟩ := BV.below (BV.below bx (by first | (with_reducible exact (Below.refl _ _)) | (with_reducible exact (b_drew (Below.refl _ _))) | (with_reducible exact (b_new _ _)) | (with_reducible exact (b_more (b_drew (Below.refl _ _)) _)) | (with_reducible exact (b_drew (b_new _ _))) | (with_reducible exact (b_more (b_new _ _) _)))) hbk) | (have bx : BV wk wn.heap.size 0 0 ⟨#[]⟩ := BV.below (by with_reducible exact HZb.out wn) hbk) | (have bx : BV wk (wn.heap.size + 1) 0 0 ⟨#[]⟩ := BV.below (by with_reducible exact HZc.out wn) hbk) | skip); have sk := hbl.size) | (go_at_call 11; (with_reducible refine (HO6.out _ _ ?_ ?_).mono ?_); (first | exact hbl | exact b_drew hbl | exact b_more hbl _ | exact b_more (b_drew hbl) _ | exact b_drew (b_more hbl _)); (first | (with_reducible exact hrw) | (with_reducible exact RowE.below hrw (b_new _ _))); rintro e wz ⟨rfl, hbz⟩; have hbl : Below Y6.heap.size Y6 wz := (by first | (with_reducible exact EvE.b_step hbl hbz) | (with_reducible exact EvE.b_step (b_drew hbl) hbz) | (with_reducible exact EvE.b_step (b_more hbl _) hbz) | (with_reducible exact EvE.b_step (b_more (b_drew hbl) _) hbz) | (with_reducible exact EvE.b_step (b_drew (b_more hbl _)) hbz) | (with_reducible exact EvE.b_step (b_more (b_more hbl _) _) hbz)); (first | (have bx : BV wz Y6.heap.size 0 0 ⟨#[]⟩ := BV.below (BV.below bx (by first | (with_reducible exact (Below.refl _ _)) | (with_reducible exact (b_drew (Below.refl _ _))) | (with_reducible exact (b_new _ _)) | (with_reducible exact (b_more (b_drew (Below.refl _ _)) _)) | (with_reducible exact (b_drew (b_new _ _))) | (with_reducible exact (b_more (b_new _ _) _)))) hbz) | (have bx : BV wz wn.heap.size 0 0 ⟨#[]⟩ := BV.below (BV.below bx (by first | (with_reducible exact (Below.refl _ _)) | (with_reducible exact (b_drew (Below.refl _ _))) | (with_reducible exact (b_new _ _)) | (with_reducible exact (b_more (b_drew (Below.refl _ _)) _)) | (with_reducible exact (b_drew (b_new _ _))) | (with_reducible exact (b_more (b_new _ _) _)))) hbz) | (have bx : BV wz (wn.heap.size + 1) 0 0 ⟨#[]⟩ := BV.below (BV.below bx (by first | (with_reducible exact (Below.refl _ _)) | (with_reducible exact (b_drew (Below.refl _ _))) | (with_reducible exact (b_new _ _)) | (with_reducible exact (b_more (b_drew (Below.refl _ _)) _)) | (with_reducible exact (b_drew (b_new _ _))) | (with_reducible exact (b_more (b_new _ _) _)))) hbz) | (have bx : BV wz wk.heap.size 0 0 ⟨#[]⟩ := BV.below (by with_reducible exact BV.new wk 0 0 ⟨#[]⟩) hbz) | skip); (first | (obtain ⟨x0, x1, x2⟩ := bx.cells; have xf := bx.frozen; have xl := bx.lt) | skip)))
        all_goals (go_wp2_with fail; go_meet)
        all_goals (first | (with_reducible exact ⟨_, rfl, rfl, bx.set3 2 0 ⟨#[]⟩, b_set3' hbl _ (by first | exact Nat.le_refl _ | exact sn | exact Nat.le_succ_of_le sn | exact sk) 0 1 2 _ _ _⟩) | (with_reducible exact ⟨_, rfl, rfl, BV.new wz 2 0 ⟨#[]⟩, b_more hbl _⟩))
      case rest =>
        obtain ⟨B19, rfl, rfl, hbx, hb⟩ := hcut
        obtain ⟨Y7, rfl⟩ : ∃ V, V = wc := ⟨_, rfl⟩
        have KB19 := Lib.hid hbx
        have HBY7 := Lib.hid (HBY6.out.trans (hb.mono HBY6.out.size))
        have K12 := Lib.hid (K12.out.below hb)
        have KB14 := Lib.hid (KB14.out.below hb)
        have KB16 := Lib.hid (KB16.out.below hb)
        have HB67 := Lib.hid hb
        clear hbx hb
        have hcl7 : ∀ V, Below Y7.heap.size Y7 V → V.cell? ⟨BL, 0, none⟩ = some (.int .i64 2) ∧ V.cell? ⟨BL, 1, none⟩ = some (.int .i64 0) ∧ V.cell? ⟨BL, 2, none⟩ = some (.int .i64 0) ∧ V.cell? ⟨BL, 3, none⟩ = some (.string ⟨#[]⟩) ∧ V.cell? ⟨BL, 4, none⟩ = some (.string ⟨#[110, 111, 110, 101]⟩) ∧ V.cell? ⟨BL, 5, none⟩ = some (.slice none 0 0) := fun V hV => HLost.out V (HB67.out.trans (hV.mono HB67.out.size))
        have HC7 := Lib.hid hcl7
        have hst7 : ∀ (U : World) (B : Nat) (u0 u1 u2 : Value), Below Y7.heap.size Y7 U → Y7.heap.size ≤ B → ∀ V, V = ((U.setCell ⟨B, 0, none⟩ u0).setCell ⟨B, 1, none⟩ u1).setCell ⟨B, 2, none⟩ u2 → V.cell? ⟨BL, 0, none⟩ = some (.int .i64 2) ∧ V.cell? ⟨BL, 1, none⟩ = some (.int .i64 0) ∧ V.cell? ⟨BL, 2, none⟩ = some (.int .i64 0) ∧ V.cell? ⟨BL, 3, none⟩ = some (.string ⟨#[]⟩) ∧ V.cell? ⟨BL, 4, none⟩ = some (.string ⟨#[110, 111, 110, 101]⟩) ∧ V.cell? ⟨BL, 5, none⟩ = some (.slice none 0 0) := fun U B u0 u1 u2 hU hB V hV => by
          subst hV
          exact HC7.out _ (b_set3' hU B hB 0 1 2 u0 u1 u2)
        have HS7 := Lib.hid hst7
        clear hcl7 hst7
        have HO7 := Lib.hid (fun V gr (hV : Below Y7.heap.size Y7 V) hr => HF7.out V gr (HBY7.out.trans (hV.mono HBY7.out.size)) hr)
        go_upto_region 7 with fail
        go_cut [21, 22] (fun sA sB wx => ∃ (B : Nat), sA = .pointer (some ⟨B, 0, none⟩) ∧ sB = .int .i64 0 ∧ BV wx B 2 1 ⟨#[]⟩ ∧ Below Y7.heap.size Y7 wx)
        case first =>
          have hbl := Below.refl Y7.heap.size Y7
          have hra : ∀ wn : World, RowE (wn.alloc (.cells #[.int .i64 1, .int .i64 2, .int .i64 1, .string ⟨#[]⟩, .string ⟨#[]⟩, .slice none 0 0, .int .i64 2, .int .i64 0, .int .i64 0, .string ⟨#[]⟩, .string ⟨#[110, 111, 110, 101]⟩, .slice none 0 0] 26)) wn.heap.size [leafEl (kb 1), leafEl lost] := fun wn => World.alloc_heap_new wn _
          have hrb : ∀ wn : World, RowE ((wn.alloc (.cells #[.int .i64 0, .int .i64 0, .string ⟨#[]⟩] 23)).alloc (.cells #[.int .i64 1, .int .i64 2, .int .i64 1, .string ⟨#[]⟩, .string ⟨#[]⟩, .slice none 0 0, .int .i64 2, .int .i64 0, .int .i64 0, .string ⟨#[]⟩, .string ⟨#[110, 111, 110, 101]⟩, .slice none 0 0] 26)) (wn.heap.size + 1) [leafEl (kb 1), leafEl lost] := fun wn => by
            have h := World.alloc_heap_new (wn.alloc (.cells #[.int .i64 0, .int .i64 0, .string ⟨#[]⟩] 23)) (.cells #[.int .i64 1, .int .i64 2, .int .i64 1, .string ⟨#[]⟩, .string ⟨#[]⟩, .slice none 0 0, .int .i64 2, .int .i64 0, .int .i64 0, .string ⟨#[]⟩, .string ⟨#[110, 111, 110, 101]⟩, .slice none 0 0] 26)
            rw [World.size_alloc] at h; exact h
          have hrc : ∀ wn : World, RowE ((wn.alloc (.cells #[.int .i64 1, .int .i64 2, .int .i64 1, .string ⟨#[]⟩, .string ⟨#[]⟩, .slice none 0 0, .int .i64 2, .int .i64 0, .int .i64 0, .string ⟨#[]⟩, .string ⟨#[110, 111, 110, 101]⟩, .slice none 0 0] 26)).alloc (.cells #[.int .i64 0, .int .i64 0, .string ⟨#[]⟩] 23)) wn.heap.size [leafEl (kb 1), leafEl lost] := fun wn => (hra wn).below (b_new _ _)
          have hzb : ∀ wn : World, BV ((wn.alloc (.cells #[.int .i64 0, .int .i64 0, .string ⟨#[]⟩] 23)).alloc (.cells #[.int .i64 1, .int .i64 2, .int .i64 1, .string ⟨#[]⟩, .string ⟨#[]⟩, .slice none 0 0, .int .i64 2, .int .i64 0, .int .i64 0, .string ⟨#[]⟩, .string ⟨#[110, 111, 110, 101]⟩, .slice none 0 0] 26)) wn.heap.size 0 0 ⟨#[]⟩ := fun wn => (BV.new wn 0 0 ⟨#[]⟩).below (b_new _ _)
          have hzc : ∀ wn : World, BV ((wn.alloc (.cells #[.int .i64 1, .int .i64 2, .int .i64 1, .string ⟨#[]⟩, .string ⟨#[]⟩, .slice none 0 0, .int .i64 2, .int .i64 0, .int .i64 0, .string ⟨#[]⟩, .string ⟨#[110, 111, 110, 101]⟩, .slice none 0 0] 26)).alloc (.cells #[.int .i64 0, .int .i64 0, .string ⟨#[]⟩] 23)) (wn.heap.size + 1) 0 0 ⟨#[]⟩ := fun wn => by
            have h := BV.new (wn.alloc (.cells #[.int .i64 1, .int .i64 2, .int .i64 1, .string ⟨#[]⟩, .string ⟨#[]⟩, .slice none 0 0, .int .i64 2, .int .i64 0, .int .i64 0, .string ⟨#[]⟩, .string ⟨#[110, 111, 110, 101]⟩, .slice none 0 0] 26)) 0 0 ⟨#[]⟩
            rw [World.size_alloc] at h; exact h
          have HRa := Lib.hid hra
          have HRb := Lib.hid hrb
          have HRc := Lib.hid hrc
          have HZb := Lib.hid hzb
          have HZc := Lib.hid hzc
          clear hra hrb hrc hzb hzc
          obtain ⟨q0, q1, q2, q3, q4, q5⟩ := HC7.out Y7 hbl
          go_region_held3 (fun V => V.cell? ⟨BL, 0, none⟩ = some (.int .i64 2) ∧ V.cell? ⟨BL, 1, none⟩ = some (.int .i64 0) ∧ V.cell? ⟨BL, 2, none⟩ = some (.int .i64 0) ∧ V.cell? ⟨BL, 3, none⟩ = some (.string ⟨#[]⟩) ∧ V.cell? ⟨BL, 4, none⟩ = some (.string ⟨#[110, 111, 110, 101]⟩) ∧ V.cell? ⟨BL, 5, none⟩ = some (.slice none 0 0)) (first | (with_reducible exact HC7.out _ hbl) | (with_reducible exact HC7.out _ (b_drew hbl)) | (with_reducible exact HC7.out _ (b_more hbl _)) | (with_reducible exact HC7.out _ (b_more (b_drew hbl) _)) | (with_reducible exact HC7.out _ (b_drew (b_more hbl _))) | (with_reducible exact HC7.out _ (b_more (b_more hbl _) _)) | (with_reducible exact HS7.out _ _ _ _ _ hbl (by first | exact Nat.le_refl _ | exact sn | exact Nat.le_succ_of_le sn | exact sk) _ rfl))
            (first | (go_at_call 24; (with_reducible refine (keepT _).mono ?_); rintro e wn ⟨rfl, hbn⟩; have hbl : Below Y7.heap.size Y7 wn := (by first | (with_reducible exact EvE.b_step hbl hbn) | (with_reducible exact EvE.b_step (b_drew hbl) hbn) | (with_reducible exact EvE.b_step (b_more hbl _) hbn) | (with_reducible exact EvE.b_step (b_more (b_drew hbl) _) hbn) | (with_reducible exact EvE.b_step (b_drew (b_more hbl _)) hbn) | (with_reducible exact EvE.b_step (b_more (b_more hbl _) _) hbn)); have sn := hbl.size; (first | (have bx : BV wn Y7.heap.size 0 0 ⟨#[]⟩ := BV.below (by first | exact BV.new Y7 0 0 ⟨#[]⟩ | exact BV.new Y7.drew 0 0 ⟨#[]⟩) hbn) | skip)) | (go_at_call 23; (with_reducible refine (EvW.with_any _ _ _ _ _).mono ?_); rintro e wk ⟨rfl, hbk⟩; have hbl : Below Y7.heap.size Y7 wk := (by first | (with_reducible exact EvE.b_step hbl hbk) | (with_reducible exact EvE.b_step (b_drew hbl) hbk) | (with_reducible exact EvE.b_step (b_more hbl _) hbk) | (with_reducible exact EvE.b_step (b_more (b_drew hbl) _) hbk) | (with_reducible exact EvE.b_step (b_drew (b_more hbl _)) hbk) | (with_reducible exact EvE.b_step (b_more (b_more hbl _) _) hbk)); (first | (have hrw : RowE wk wn.heap.size [leafEl (kb 1), leafEl lost] := RowE.below (by with_reducible exact HRa.out wn) hbk) | (have hrw : RowE wk (wn.heap.size + 1) [leafEl (kb 1), leafEl lost] := RowE.below (by with_reducible exact HRb.out wn) hbk) | (have hrw : RowE wk wn.heap.size [leafEl (kb 1), leafEl lost] := RowE.below (by with_reducible exact HRc.out wn) hbk)); (first | (have bx : BV wk Y7.heap.size 0 0 ⟨#[]⟩ := BV.below (BV.below bx (by first | (with_reducible exact (Below.refl _ _)) | (with_reducible exact (b_drew (Below.refl _ _))) | (with_reducible exact (b_new _ _)) | (with_reducible exact (b_more (b_drew (Below.refl _ _)) _)) | (with_reducible exact (b_drew (b_new _ _))) | (with_reducible exact (b_more (b_new _ _) _)))) hbk) | (have bx : BV wk wn.heap.size 0 0 ⟨#[]⟩ := BV.below (by with_reducible exact HZb.out wn) hbk) | (have bx : BV wk (wn.heap.size + 1) 0 0 ⟨#[]⟩ := BV.below (by with_reducible exact HZc.out wn) hbk) | skip); have sk := hbl.size) | (go_at_call 11; (with_reducible refine (HO7.out _ _ ?_ ?_).mono ?_); (first | exact hbl | exact b_drew hbl | exact b_more hbl _ | exact b_more (b_drew hbl) _ | exact b_drew (b_more hbl _)); (first | (with_reducible exact hrw) | (with_reducible exact RowE.below hrw (b_new _ _))); rintro e wz ⟨rfl, hbz⟩; have hbl : Below Y7.heap.size Y7 wz := (by first | (with_reducible exact EvE.b_step hbl hbz) | (with_reducible exact EvE.b_step (b_drew hbl) hbz) | (with_reducible exact EvE.b_step (b_more hbl _) hbz) | (with_reducible exact EvE.b_step (b_more (b_drew hbl) _) hbz) | (with_reducible exact EvE.b_step (b_drew (b_more hbl _)) hbz) | (with_reducible exact EvE.b_step (b_more (b_more hbl _) _) hbz)); (first | (have bx : BV wz Y7.heap.size 0 0 ⟨#[]⟩ := BV.below (BV.below bx (by first | (with_reducible exact (Below.refl _ _)) | (with_reducible exact (b_drew (Below.refl _ _))) | (with_reducible exact (b_new _ _)) | (with_reducible exact (b_more (b_drew (Below.refl _ _)) _)) | (with_reducible exact (b_drew (b_new _ _))) | (with_reducible exact (b_more (b_new _ _) _)))) hbz) | (have bx : BV wz wn.heap.size 0 0 ⟨#[]⟩ := BV.below (BV.below bx (by first | (with_reducible exact (Below.refl _ _)) | (with_reducible exact (b_drew (Below.refl _ _))) | (with_reducible exact (b_new _ _)) | (with_reducible exact (b_more (b_drew (Below.refl _ _)) _)) | (with_reducible exact (b_drew (b_new _ _))) | (with_reducible exact (b_more (b_new _ _) _)))) hbz) | (have bx : BV wz (wn.heap.size + 1) 0 0 ⟨#[]⟩ := BV.below (BV.below bx (by first | (with_reducible exact (Below.refl _ _)) | (with_reducible exact (b_drew (Below.refl _ _))) | (with_reducible exact (b_new _ _)) | (with_reducible exact (b_more (b_drew (Below.refl _ _)) _)) | (with_reducible exact (b_drew (b_new _ _))) | (with_reducible exact (b_more (b_new _ _) _)))) hbz) | (have bx : BV wz wk.heap.size 0 0 ⟨#[]⟩ := BV.below (by with_reducible exact BV.new wk 0 0 ⟨#[]⟩) hbz) | skip); (first | (obtain ⟨x0, x1, x2⟩ := bx.cells; have xf := bx.frozen; have xl := bx.lt) | skip)))
          all_goals (go_wp2_with fail; go_meet)
          all_goals (first | (with_reducible exact ⟨_, rfl, rfl, bx.set3 2 1 ⟨#[]⟩, b_set3' hbl _ (by first | exact Nat.le_refl _ | exact sn | exact Nat.le_succ_of_le sn | exact sk) 0 1 2 _ _ _⟩) | (with_reducible exact ⟨_, rfl, rfl, BV.new wz 2 1 ⟨#[]⟩, b_more hbl _⟩))
        case rest =>
          obtain ⟨B21, rfl, rfl, hbx, hb⟩ := hcut
          obtain ⟨Y8, rfl⟩ : ∃ V, V = wc := ⟨_, rfl⟩
          have KB21 := Lib.hid hbx
          have HBY8 := Lib.hid (HBY7.out.trans (hb.mono HBY7.out.size))
          have K12 := Lib.hid (K12.out.below hb)
          have KB14 := Lib.hid (KB14.out.below hb)
          have KB16 := Lib.hid (KB16.out.below hb)
          have KB19 := Lib.hid (KB19.out.below hb)
          clear hbx hb
          have hc8 : ∀ V, Below Y8.heap.size Y8 V → V.cell? ⟨w3.heap.size, 0, none⟩ = some (.int .i64 vk) ∧ V.cell? ⟨w3.heap.size, 1, none⟩ = some (.int .i64 vn) ∧ V.cell? ⟨w3.heap.size, 2, none⟩ = some (.string vz) ∧ V.cell? ⟨B14, 0, none⟩ = some (.int .i64 vk) ∧ V.cell? ⟨B14, 1, none⟩ = some (.int .i64 vn) ∧ V.cell? ⟨B14, 2, none⟩ = some (.string vz) ∧ V.cell? ⟨B16, 0, none⟩ = some (.int .i64 vk) ∧ V.cell? ⟨B16, 1, none⟩ = some (.int .i64 vn) ∧ V.cell? ⟨B16, 2, none⟩ = some (.string vz) ∧ V.cell? ⟨B19, 0, none⟩ = some (.int .i64 2) ∧ V.cell? ⟨B19, 1, none⟩ = some (.int .i64 0) ∧ V.cell? ⟨B19, 2, none⟩ = some (.string ⟨#[]⟩) ∧ V.cell? ⟨B21, 0, none⟩ = some (.int .i64 2) ∧ V.cell? ⟨B21, 1, none⟩ = some (.int .i64 1) ∧ V.cell? ⟨B21, 2, none⟩ = some (.string ⟨#[]⟩) := fun V hV => by
            obtain ⟨a0, a1, a2⟩ := (K12.out.below hV).cells
            obtain ⟨b0, b1, b2⟩ := (KB14.out.below hV).cells
            obtain ⟨c0, c1, c2⟩ := (KB16.out.below hV).cells
            obtain ⟨d0, d1, d2⟩ := (KB19.out.below hV).cells
            obtain ⟨e0, e1, e2⟩ := (KB21.out.below hV).cells
            exact ⟨a0, a1, a2, b0, b1, b2, c0, c1, c2, d0, d1, d2, e0, e1, e2⟩
          have HC8 := Lib.hid hc8
          clear hc8
          have fT := @fT
          have fF := @fF
          have hbl := Below.refl Y8.heap.size Y8
          have hk0 : (0 : Int) < vk := by omega
          obtain ⟨a0, a1, a2, b0, b1, b2, c0', c1', c2', d0, d1, d2, e0, e1, e2⟩ := HC8.out Y8 hbl
          go_wp2_with fail
          go_region_held3 (fun V => V.cell? ⟨w3.heap.size, 0, none⟩ = some (.int .i64 vk) ∧ V.cell? ⟨w3.heap.size, 1, none⟩ = some (.int .i64 vn) ∧ V.cell? ⟨w3.heap.size, 2, none⟩ = some (.string vz) ∧ V.cell? ⟨B14, 0, none⟩ = some (.int .i64 vk) ∧ V.cell? ⟨B14, 1, none⟩ = some (.int .i64 vn) ∧ V.cell? ⟨B14, 2, none⟩ = some (.string vz) ∧ V.cell? ⟨B16, 0, none⟩ = some (.int .i64 vk) ∧ V.cell? ⟨B16, 1, none⟩ = some (.int .i64 vn) ∧ V.cell? ⟨B16, 2, none⟩ = some (.string vz) ∧ V.cell? ⟨B19, 0, none⟩ = some (.int .i64 2) ∧ V.cell? ⟨B19, 1, none⟩ = some (.int .i64 0) ∧ V.cell? ⟨B19, 2, none⟩ = some (.string ⟨#[]⟩) ∧ V.cell? ⟨B21, 0, none⟩ = some (.int .i64 2) ∧ V.cell? ⟨B21, 1, none⟩ = some (.int .i64 1) ∧ V.cell? ⟨B21, 2, none⟩ = some (.string ⟨#[]⟩)) (first | (with_reducible exact HC8.out _ hbl) | (with_reducible exact HC8.out _ (b_drew hbl)))
            (first | (go_at_call 24; (with_reducible refine (keepT _).mono ?_); rintro e wn ⟨rfl, hbn⟩; have hbl : Below Y8.heap.size Y8 wn := (by first | (with_reducible exact EvE.b_step hbl hbn) | (with_reducible exact EvE.b_step (b_drew hbl) hbn) | (with_reducible exact EvE.b_step (b_more hbl _) hbn) | (with_reducible exact EvE.b_step (b_more (b_drew hbl) _) hbn) | (with_reducible exact EvE.b_step (b_drew (b_more hbl _)) hbn) | (with_reducible exact EvE.b_step (b_more (b_more hbl _) _) hbn))) | (go_at_call 24; (with_reducible refine (keepF _).mono ?_); rintro e wn ⟨rfl, hbn⟩; have hbl : Below Y8.heap.size Y8 wn := (by first | (with_reducible exact EvE.b_step hbl hbn) | (with_reducible exact EvE.b_step (b_drew hbl) hbn) | (with_reducible exact EvE.b_step (b_more hbl _) hbn) | (with_reducible exact EvE.b_step (b_more (b_drew hbl) _) hbn) | (with_reducible exact EvE.b_step (b_drew (b_more hbl _)) hbn) | (with_reducible exact EvE.b_step (b_more (b_more hbl _) _) hbn))))
          all_goals (go_wp2_with fail; go_ret; exact ⟨by simp, b_trans HBW.out (HBY8.out.trans (hbl.mono HBY8.out.size))⟩)

theorem not_of {W : World} (h : laidMetH Tryd.prog Rows.evalLazyRow.laid W) : ExN.Tab W := by
  have h0 : laidMet Tryd.prog Rows.evalLazyRow.laid W := by rw [MakeChecks.laidMetH_plain _ _ _ (by kernel_rfl)] at h; exact h
  have h1 := h0
  exact NotTab.is_of_head (g := 0) (t := 113) (e := 112) (n := 19) (by kernel_rfl) (by kernel_rfl) Tryd.underlying113 (by kernel_rfl) Tryd.underlying112 (by kernel_rfl) rfl rfl rfl Tryd.underlying9 Tryd.underlying3 Tryd.underlying3 (by kernel_rfl) (by kernel_rfl) (by kernel_rfl) h1

/-! ### The row's step -/
set_option maxRecDepth 100000 in
theorem lifted (os : Os) (started : os.Started) (H : Type) (enc : TypeId × Value → H) :
    ReturnsInHanded {} Tryd.checked os 8 .any (fun w args => (Rows.evalLazySpec.pre enc Tryd.prog Tryd.f8 [] false w args ∧ laidMetH Tryd.prog Rows.evalLazyRow.laid w) ∧ sizedMet enc Tryd.prog Tryd.f8 (OpenSpec.ofChange Rows.evalLazySpec) false w args) (Rows.evalLazySpec.post enc Tryd.prog Tryd.f8 false true false false) := by
  refine returnsInHanded_of_change_and (C := Tryd.checked) (X := fun w _ => laidMetH Tryd.prog Rows.evalLazyRow.laid w) (fun _ _ _ hh h => h.of_heap hh) own started (by kernel_rfl) Tryd.func8
    (ChangeSpec.witness_shaped (enc := enc) (C := Tryd.checked) (os := os) (X := fun w _ => laidMetH Tryd.prog Rows.evalLazyRow.laid w) false (World.laidAll Tryd.prog os Rows.evalLazyRow.laid) #[.slice none 0 0, .slice none 0 0, .slice none 0 0, .int .i64 0] 8 (World.laidAll_os _ _ _) (World.shaped_of_ZipB (by kernel_rfl) (by kernel_rfl)) (by kernel_rfl) (by kernel_rfl) (by kernel_rfl) (by rw [MakeChecks.laidMetH_plain _ _ _ (by kernel_rfl)]; exact laidMet_laidAll _ (by kernel_rfl) (by kernel_rfl))) ?_
  intro W base args ds gs before hval0 hW hcnd hsz hL _
  have hval : ∀ (j : Nat) t v, Tryd.f8.params[j]? = some t → args[j]? = some v → Value.okWide Tryd.prog W .any base t v := hval0
  have hW' := hW
  obtain ⟨p, q, hA0, hV, rfl, hfz, hnd⟩ := hW
  have hA : DataW.TrodAll enc Tryd.prog W 0 (fun _ => true) true Tryd.f8.params.toList args.toList ds p := hA0
  rw [Tryd.params8] at hA hval
  obtain ⟨v0, vs0, d0, ds0, p0, q0, hargs, rfl, rfl, h0, r0⟩ := trodAll_cons hA
  obtain ⟨v1, vs1, d1, ds1, p1, q1, rfl, rfl, rfl, h1, r1⟩ := trodAll_cons r0
  obtain ⟨v2, vs2, d2, ds2, p2, q2, rfl, rfl, rfl, h2, r2⟩ := trodAll_cons r1
  obtain ⟨v3, vs3, d3, ds3, p3, q3, rfl, rfl, rfl, h3, r3⟩ := trodAll_cons r2
  obtain ⟨rfl, rfl, rfl⟩ := trodAll_nil r3
  obtain rfl : args = #[v0, v1, v2, v3] := by cases args; simp_all
  obtain ⟨rfl, rfl⟩ := trodVars_none hV
  have k0 := h0
  have lt0 : ∀ x ∈ p0, x.block < W.heap.size := by obtain ⟨m, hm⟩ := k0; exact DataW.trod_lt m _ _ _ hm
  obtain ⟨A0, n0, c0, rfl, hraw0⟩ := RawO.open_raws (hval 0 32 v0 rfl rfl) h0
  have k1 := h1
  have lt1 : ∀ x ∈ p1, x.block < W.heap.size := by obtain ⟨m, hm⟩ := k1; exact DataW.trod_lt m _ _ _ hm
  obtain ⟨A1, n1, c1, rfl, hraw1⟩ := RawO.open_raws (hval 1 32 v1 rfl rfl) h1
  have k2 := h2
  have lt2 : ∀ x ∈ p2, x.block < W.heap.size := by obtain ⟨m, hm⟩ := k2; exact DataW.trod_lt m _ _ _ hm
  obtain ⟨A2, n2, c2, rfl, hraw2⟩ := RawO.open_raws (hval 2 32 v2 rfl rfl) h2
  have k3 := h3
  have lt3 : ∀ x ∈ p3, x.block < W.heap.size := by obtain ⟨m, hm⟩ := k3; exact DataW.trod_lt m _ _ _ hm
  obtain ⟨a3, rfl, rfl, rfl, w3⟩ := open_int Tryd.underlying3 (hval 3 3 v3 rfl rfl) h3
  clear hA0 hval0
  refine (walk A0 n0 c0 A1 n1 c1 A2 n2 c2 a3 w3 W hraw0 hraw1 hraw2 (not_of hL)).mono fun e W' ⟨he, bel⟩ => ?_
  subst he
  exact ⟨_, rfl, _, _, _, [], _, [], hW', trodAll_mk1 (shut_bool Tryd.underlying4 _), (trodAll_cons_mk (Below.trod laidOut (by kernel_rfl) (of_decide_eq_true (by kernel_rfl)) k0 bel lt0) (trodAll_cons_mk (Below.trod laidOut (by kernel_rfl) (of_decide_eq_true (by kernel_rfl)) k1 bel lt1) (trodAll_cons_mk (Below.trod laidOut (by kernel_rfl) (of_decide_eq_true (by kernel_rfl)) k2 bel lt2) (trodAll_cons_mk (Below.trod laidOut (by kernel_rfl) (of_decide_eq_true (by kernel_rfl)) k3 bel lt3) trodAll_mk0)))), rfl, bel.frame _, fun h => by cases h⟩

theorem over : Rows.evalLazyRow.holds Tryd.pinned (OpenSpec.ofChange Rows.evalLazySpec) :=
  OpenClaim.holds_of_wide 8 Tryd.f8 rfl rfl rfl rfl rfl rfl rfl ⟨rfl, rfl, rfl, rfl, rfl⟩ rfl rfl rfl rfl rfl (by kernel_rfl) Tryd.func8 (by kernel_rfl)
    (of_decide_eq_true (by kernel_rfl)) (by unfold Func.isWrapper; first | (rw [if_pos (by decide +kernel)]; kernel_rfl) | (rw [if_neg (by decide +kernel)]; exact ⟨rfl, rfl⟩))
    (fun os started H enc _ => lifted os started H enc)

/-- The tied card. -/
theorem proved : Rows.EvalLazyCardSaid :=
  Claim7.holds_tied_plain_at .later [] [.data] true (true, "e7e778849e5474a99cfe14a85150a9c1848083beaff400444cc53060f832e11e") false
    over (fun _ h => by cases h) (by kernel_rfl) (fun _ h => by cases h) evalLazy_row_tie rfl ⟨rfl, rfl⟩ (by kernel_rfl) rfl
    (fun f fn hf hfn => by
      obtain rfl : f = 8 := Option.some.inj ((show Tryd.prog.funcNamed "lychway/lychwaykeep.EvalLazy" = some 8 by kernel_rfl).symm.trans hf) |>.symm
      obtain rfl : fn = Tryd.f8 := (Option.some.inj (Tryd.func8.symm.trans hfn)).symm
      exact ⟨by kernel_rfl, fun j t ht => by
        rw [Tryd.params8] at ht
        have hm : t ∈ [32, 32, 32, 3] := by simpa using Array.mem_of_getElem? ht
        have hall : ([32, 32, 32, 3].all fun u => !Tryd.prog.wantsStandIn u) = true := by kernel_rfl
        exact (show Tryd.prog.wantsStandIn t = false by simpa using List.all_eq_true.1 hall t hm)⟩)
    (by kernel_rfl)
#print axioms proved
end Go.Proofs.YtbdofaaemgckiaaDoor.evalLazy
