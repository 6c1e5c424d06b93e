/- What is proved: the Go law lychwaykeep.EvalFirst returns true for all its arguments, and leaves them as they were. No condition. -/
import Derived.Test.YtbdofaaemgckiaaDoorRows
import Derived.Test.YtbdofaaemgckiaaDoorEvTwo
import Derived.Test.YtbdofaaemgckiaaDoorWithin
import Derived.Test.YtbdofaaemgckiaaDoorKit
import Derived.WalkKit
import Derived.ProofKit
import Derived.OpenShut
import Derived.Deep.RegionHeld3
import Derived.Deep.DrawnRows
import Derived.Deep.DeepCutAuto
import Derived.Deep.QuietTactic
import Derived.BigQuiet
import Derived.WalkSpells
import Derived.WalkLawsBesides
import Derived.Lib.Hide
import Derived.Outline
import Derived.ShutString
import Derived.ChangeOld
import Derived.Below
import Derived.LaidMore
import Derived.SizedLaws
import Derived.Stop.Joined
import Derived.Stop.LaidErr
import Derived.Lib.LaidTab
import Derived.SevenTiedAt
import Derived.Lay
import Derived.LaidOnce
import Derived.Deep.DeepHandedRow
import Derived.Test.YtbdofaaemgckiaaDoorCards
import Derived.Test.YtbdofaaemgckiaaDoorTie
namespace Go.Proofs.YtbdofaaemgckiaaDoor.evalFirst
open ValM ExM NmM TyM EvM EvP Kit ExL ExP ExN ExV RawV Within NmG EvC EvO EvF EvG EvE EvK EvW
open Go.ChangeShapes Go.WideShapes Go.ChangeAt Go.RowKit
open Go.ChangeMaps (open_string shut_string)
set_option linter.unusedVariables false

theorem own : ownKnob Tryd.prog.godebug = none := by kernel_rfl
theorem laidOut : laidOutB Tryd.prog = true := by kernel_rfl


/-! ### The walk -/
theorem node_ref (s : ByteArray) (h : ExM.nmB s.data.toList = true) : ExM.nodeE ⟨2, 0, 0, ⟨#[]⟩, s⟩ 0 = 0 := by
  unfold ExM.nodeE
  have hv : ExM.vOk ⟨2, 0, 0, ⟨#[]⟩, s⟩ = true := by unfold ExM.vOk; rw [if_neg (show ¬ (2 : Int) = 1 by decide)]; rfl
  have hm : ExM.nmOk ⟨2, 0, 0, ⟨#[]⟩, s⟩ = true := by unfold ExM.nmOk; rw [if_pos rfl]; exact h
  show (if (2 : Int) < 1 ∨ 18 < (2 : Int) then (2 : Int) else if 0 = ExM.arity 2 ∧ _ ∧ _ then 0 else 3) = 0
  rw [if_neg (by decide), if_pos ⟨by decide, hv, hm⟩]
def fl3 (a b : Int) : List EvF.Fc := [⟨⟨#[110]⟩, 0, 0, ⟨#[]⟩, ⟨5, a, ⟨#[]⟩⟩⟩, ⟨⟨#[109]⟩, 0, 0, ⟨#[]⟩, ⟨5, b, ⟨#[]⟩⟩⟩, ⟨⟨#[112]⟩, 0, 0, ⟨#[]⟩, ⟨4, 0, ⟨#[]⟩⟩⟩]
theorem fl3_ok {a b : Int} (ha : 1 ≤ a ∧ a ≤ 15) (hb : 1 ≤ b ∧ b ≤ 15) : ∀ f ∈ EvF.fcs (fl3 a b), f.2.ok := fun f hf => by
  simp only [fl3, EvF.fcs, List.map_cons, List.map_nil, List.mem_cons, List.not_mem_nil, or_false] at hf
  rcases hf with rfl | rfl | rfl
  · exact EvM.ok_flt ha.1 ha.2
  · exact EvM.ok_flt hb.1 hb.2
  · rfl
theorem fl3_nm {a b : Int} : ∀ f ∈ fl3 a b, f.nm.size ≤ maxLen := fun f hf => by
  simp only [fl3, List.mem_cons, List.not_mem_nil, or_false] at hf
  rcases hf with rfl | rfl | rfl <;> exact (by decide : (1 : Nat) ≤ maxLen)
theorem fl3_n (a b : Int) : EvM.factV (EvF.fcs (fl3 a b)) ⟨#[110]⟩ = ⟨5, a, ⟨#[]⟩⟩ := by
  show (if (⟨#[110]⟩ : ByteArray) = ⟨#[110]⟩ then _ else _) = _
  rw [if_pos rfl]
theorem fl3_m (a b : Int) : EvM.factV (EvF.fcs (fl3 a b)) ⟨#[109]⟩ = ⟨5, b, ⟨#[]⟩⟩ := by
  show (if (⟨#[110]⟩ : ByteArray) = ⟨#[109]⟩ then _ else if (⟨#[109]⟩ : ByteArray) = ⟨#[109]⟩ then _ else _) = _
  rw [if_neg (by decide), if_pos rfl]
theorem fl3_p (a b : Int) : EvM.factV (EvF.fcs (fl3 a b)) ⟨#[112]⟩ = ⟨4, 0, ⟨#[]⟩⟩ := by
  show (if (⟨#[110]⟩ : ByteArray) = ⟨#[112]⟩ then _ else if (⟨#[109]⟩ : ByteArray) = ⟨#[112]⟩ then _ else if (⟨#[112]⟩ : ByteArray) = ⟨#[112]⟩ then _ else _) = _
  rw [if_neg (by decide), if_neg (by decide), if_pos rfl]
def rf (s : ByteArray) : ExM.Nd := ⟨2, 0, 0, ⟨#[]⟩, s⟩
def k1 : ExM.Nd := ⟨1, 1, 1, ⟨#[]⟩, ⟨#[]⟩⟩
theorem two_leaves (op : Int) (hop : op = 8 ∨ op = 5 ∨ op = 6 ∨ op = 11 ∨ op = 13 ∨ op = 10) (d e : ExM.Nd) (hd : ExM.nodeE d 0 = 0) (he : ExM.nodeE e 0 = 0) : (ExM.Ex.mk (EvW.opD op) [.mk d [], .mk e []]).checkE = 0 := by
  refine EvW.check_op (by omega) (by omega) ?_ (fun x hx => ?_) ?_ ?_
  · rcases hop with rfl | rfl | rfl | rfl | rfl | rfl <;> rfl
  · simp only [List.mem_cons, List.not_mem_nil, or_false] at hx
    rcases hx with rfl | rfl
    · exact EvW.leaf_ok hd
    · exact EvW.leaf_ok he
  · rw [ExM.nodesL_cons, ExM.nodesL_cons, ExM.nodesL_nil, (EvW.leaf_nodes d).1, (EvW.leaf_nodes e).1]; decide
  · rw [ExM.depthL_cons, ExM.depthL_cons, ExM.depthL_nil, (EvW.leaf_nodes d).2, (EvW.leaf_nodes e).2]; decide
theorem of_two (op : Int) (hop : op = 8 ∨ op = 5 ∨ op = 6 ∨ op = 11 ∨ op = 13 ∨ op = 10) (d e : ExM.Nd) (hd : ExM.nodeE d 0 = 0) (he : ExM.nodeE e 0 = 0) (hs : d.s.size ≤ maxLen ∧ d.nm.size ≤ maxLen ∧ e.s.size ≤ maxLen ∧ e.nm.size ≤ maxLen) (a b : Int) (ha : 1 ≤ a ∧ a ≤ 15) (hb : 1 ≤ b ∧ b ≤ 15) (w : World) (g f : Nat) (hr : EvW.RowE w g [EvW.leafEl d, EvW.leafEl e]) (hf : EvK.RowF w f (fl3 a b) []) (hT : ExN.Tab w) :
    Calls Tryd.prog 11 #[.agg #[.int .i64 op, .int .i64 0, .int .i64 0, .string ⟨#[]⟩, .string ⟨#[]⟩, .slice (some ⟨g, 0, none⟩) 2 2], .slice (some ⟨f, 0, none⟩) 3 3] w fun r w' => r = .returned (.tuple #[.agg #[.int .i64 (EvM.opV op [EvM.Ex.ev (EvF.fcs (fl3 a b)) (.mk d []), EvM.Ex.ev (EvF.fcs (fl3 a b)) (.mk e [])]).k, .int .i64 (EvM.opV op [EvM.Ex.ev (EvF.fcs (fl3 a b)) (.mk d []), EvM.Ex.ev (EvF.fcs (fl3 a b)) (.mk e [])]).n, .string (EvM.opV op [EvM.Ex.ev (EvF.fcs (fl3 a b)) (.mk d []), EvM.Ex.ev (EvF.fcs (fl3 a b)) (.mk e [])]).s], .int .i64 0]) ∧ Below w.heap.size w w' := by
  have his := EvW.is_row op hr (by unfold maxLen; simp) (fun x hx => by
    simp only [List.mem_cons, List.not_mem_nil, or_false] at hx
    rcases hx with rfl | rfl
    · exact EvW.leaf_is w d hs.1 hs.2.1
    · exact EvW.leaf_is w e hs.2.2.1 hs.2.2.2)
  have := EvK.of_good (.mk (EvW.opD op) [.mk d [], .mk e []]) (fl3 a b) (some ⟨f, 0, none⟩) 3 (EvW.opD op) (some ⟨g, 0, none⟩) 2 2 w (by simp [fl3]) fl3_nm his hf.fcs hT (two_leaves op hop d e hd he) (fl3_ok ha hb)
  rw [EvW.ev_op _ _ (by omega)] at this
  exact this
set_option maxRecDepth 100000 in
set_option maxHeartbeats 8000000 in
theorem walk (a0 : Int) (a1 : Int) (a2 : Int) (w0 : (Lit.int .i64 a0).wf = true) (w1 : (Lit.int .i64 a1).wf = true) (w2 : (Lit.int .i64 a2).wf = true) (w : World) (ht : ExN.Tab w) :
    Calls Tryd.prog 10 #[.int .i64 a0, .int .i64 a1, .int .i64 a2] w fun e w' => e = .returned (.bool true) ∧ Below w.heap.size w w' := by
  obtain ⟨p, hp⟩ : ∃ p, pick a0 15 = p := ⟨_, rfl⟩
  obtain ⟨q, hq⟩ : ∃ p, pick a1 15 = p := ⟨_, rfl⟩
  obtain ⟨o, ho⟩ : ∃ p, pick a2 6 = p := ⟨_, rfl⟩
  have bp := pick_bd a0 15 (by decide)
  have bq := pick_bd a1 15 (by decide)
  have bo := pick_bd a2 6 (by decide)
  have cp := fun W => picked_any a0 15 W w0 (by decide) (by decide)
  have cq := fun W => picked_any a1 15 W w1 (by decide) (by decide)
  have co := fun W => picked_any a2 6 W w2 (by decide) (by decide)
  rw [hp] at bp cp
  rw [hq] at bq cq
  rw [ho] at bo co
  obtain ⟨bp0, bp1⟩ := bp
  obtain ⟨bq0, bq1⟩ := bq
  obtain ⟨bo0, bo1⟩ := bo
  have CP := Lib.hid cp
  have CQ := Lib.hid cq
  have CO := Lib.hid co
  have HT := Lib.hid ht
  have k0 := (BV.new w 5 (1 + p) ⟨#[]⟩)
  have kA := k0.below (b_new _ (.cells #[.int .i64 5, .int .i64 (1 + q), .string ⟨#[]⟩] 23))
  have kB := BV.new (w.alloc (.cells #[.int .i64 5, .int .i64 (1 + p), .string ⟨#[]⟩] 23)) 5 (1 + q) ⟨#[]⟩
  rw [World.size_alloc] at kB
  have kF : RowF (((w.alloc (.cells #[.int .i64 5, .int .i64 (1 + p), .string ⟨#[]⟩] 23)).alloc (.cells #[.int .i64 5, .int .i64 (1 + q), .string ⟨#[]⟩] 23)).alloc (.cells #[.string ⟨#[110]⟩, .int .i64 0, .int .i64 0, .string ⟨#[]⟩, .int .i64 5, .int .i64 (1 + p), .string ⟨#[]⟩, .string ⟨#[109]⟩, .int .i64 0, .int .i64 0, .string ⟨#[]⟩, .int .i64 5, .int .i64 (1 + q), .string ⟨#[]⟩, .string ⟨#[112]⟩, .int .i64 0, .int .i64 0, .string ⟨#[]⟩, .int .i64 4, .int .i64 0, .string ⟨#[]⟩] 44)) (w.heap.size + 1 + 1) (fl3 (1 + p) (1 + q)) [] := by
    have := World.alloc_heap_new ((w.alloc (.cells #[.int .i64 5, .int .i64 (1 + p), .string ⟨#[]⟩] 23)).alloc (.cells #[.int .i64 5, .int .i64 (1 + q), .string ⟨#[]⟩] 23)) (.cells #[.string ⟨#[110]⟩, .int .i64 0, .int .i64 0, .string ⟨#[]⟩, .int .i64 5, .int .i64 (1 + p), .string ⟨#[]⟩, .string ⟨#[109]⟩, .int .i64 0, .int .i64 0, .string ⟨#[]⟩, .int .i64 5, .int .i64 (1 + q), .string ⟨#[]⟩, .string ⟨#[112]⟩, .int .i64 0, .int .i64 0, .string ⟨#[]⟩, .int .i64 4, .int .i64 0, .string ⟨#[]⟩] 44)
    rw [World.size_alloc, World.size_alloc] at this
    exact this
  have hbF : Below w.heap.size w (((w.alloc (.cells #[.int .i64 5, .int .i64 (1 + p), .string ⟨#[]⟩] 23)).alloc (.cells #[.int .i64 5, .int .i64 (1 + q), .string ⟨#[]⟩] 23)).alloc (.cells #[.string ⟨#[110]⟩, .int .i64 0, .int .i64 0, .string ⟨#[]⟩, .int .i64 5, .int .i64 (1 + p), .string ⟨#[]⟩, .string ⟨#[109]⟩, .int .i64 0, .int .i64 0, .string ⟨#[]⟩, .int .i64 5, .int .i64 (1 + q), .string ⟨#[]⟩, .string ⟨#[112]⟩, .int .i64 0, .int .i64 0, .string ⟨#[]⟩, .int .i64 4, .int .i64 0, .string ⟨#[]⟩] 44)) := b_more (b_more (b_new _ _) _) _
  have kA := kA.below (b_new _ (.cells #[.string ⟨#[110]⟩, .int .i64 0, .int .i64 0, .string ⟨#[]⟩, .int .i64 5, .int .i64 (1 + p), .string ⟨#[]⟩, .string ⟨#[109]⟩, .int .i64 0, .int .i64 0, .string ⟨#[]⟩, .int .i64 5, .int .i64 (1 + q), .string ⟨#[]⟩, .string ⟨#[112]⟩, .int .i64 0, .int .i64 0, .string ⟨#[]⟩, .int .i64 4, .int .i64 0, .string ⟨#[]⟩] 44))
  have kB := kB.below (b_new _ (.cells #[.string ⟨#[110]⟩, .int .i64 0, .int .i64 0, .string ⟨#[]⟩, .int .i64 5, .int .i64 (1 + p), .string ⟨#[]⟩, .string ⟨#[109]⟩, .int .i64 0, .int .i64 0, .string ⟨#[]⟩, .int .i64 5, .int .i64 (1 + q), .string ⟨#[]⟩, .string ⟨#[112]⟩, .int .i64 0, .int .i64 0, .string ⟨#[]⟩, .int .i64 4, .int .i64 0, .string ⟨#[]⟩] 44))
  obtain ⟨W, hW⟩ : ∃ W, ((w.alloc (.cells #[.int .i64 5, .int .i64 (1 + p), .string ⟨#[]⟩] 23)).alloc (.cells #[.int .i64 5, .int .i64 (1 + q), .string ⟨#[]⟩] 23)).alloc (.cells #[.string ⟨#[110]⟩, .int .i64 0, .int .i64 0, .string ⟨#[]⟩, .int .i64 5, .int .i64 (1 + p), .string ⟨#[]⟩, .string ⟨#[109]⟩, .int .i64 0, .int .i64 0, .string ⟨#[]⟩, .int .i64 5, .int .i64 (1 + q), .string ⟨#[]⟩, .string ⟨#[112]⟩, .int .i64 0, .int .i64 0, .string ⟨#[]⟩, .int .i64 4, .int .i64 0, .string ⟨#[]⟩] 44) = W := ⟨_, rfl⟩
  rw [hW] at kA kB kF hbF
  have HW := Lib.hid hW
  have KA := Lib.hid kA
  have KB := Lib.hid kB
  have KF := Lib.hid kF
  have HBF := Lib.hid hbF
  clear cp cq co ht k0 kA kB kF hbF hW hp hq ho w0 w1 w2
  go_enter Tryd.func10, Tryd.ntmps10
  go_wp2_with fail
  refine (CP.out _).mono ?_; rintro e w9 ⟨rfl, rfl⟩
  go_wp2_with fail
  refine (CQ.out _).mono ?_; rintro e w9 ⟨rfl, rfl⟩
  go_upto_region 4 with fail
  rw [HW.out]
  go_cut [2] (fun s2 wx => ∃ op : Int, s2 = .int .i64 op ∧ (op = 8 ∨ op = 5 ∨ op = 6 ∨ op = 11 ∨ op = 13 ∨ op = 10) ∧ Below W.heap.size W wx)
  case first =>
    go_wp2_with fail
    refine (CO.out _).mono ?_; rintro e w9 ⟨rfl, rfl⟩
    have ho6 : o = 0 ∨ o = 1 ∨ o = 2 ∨ o = 3 ∨ o = 4 ∨ o = 5 := by omega
    rcases ho6 with rfl | rfl | rfl | rfl | rfl | rfl
    all_goals (go_wp2_with fail; go_meet)
    all_goals exact ⟨_, rfl, by simp, b_new _ _⟩
  case rest =>
    obtain ⟨op, rfl, hop, hb⟩ := hcut
    have HOp := Lib.hid hop
    have HB := Lib.hid hb
    have ap : 1 ≤ 1 + p ∧ 1 + p ≤ 15 := by omega
    have aq : 1 ≤ 1 + q ∧ 1 + q ≤ 15 := by omega
    have AP := Lib.hid ap
    have AQ := Lib.hid aq
    have nN' : ExM.nodeE (rf ⟨#[110]⟩) 0 = 0 := node_ref _ (by decide)
    have nM' : ExM.nodeE (rf ⟨#[109]⟩) 0 = 0 := node_ref _ (by decide)
    have nP' : ExM.nodeE (rf ⟨#[112]⟩) 0 = 0 := node_ref _ (by decide)
    have n1' : ExM.nodeE k1 0 = 0 := by decide
    have eN : Ex.ev (fcs (fl3 (1 + p) (1 + q))) (.mk (rf ⟨#[110]⟩) []) = ⟨5, 1 + p, ⟨#[]⟩⟩ := (ev_ref _ _).trans (fl3_n _ _)
    have eM : Ex.ev (fcs (fl3 (1 + p) (1 + q))) (.mk (rf ⟨#[109]⟩) []) = ⟨5, 1 + q, ⟨#[]⟩⟩ := (ev_ref _ _).trans (fl3_m _ _)
    have eP : Ex.ev (fcs (fl3 (1 + p) (1 + q))) (.mk (rf ⟨#[112]⟩) []) = ⟨4, 0, ⟨#[]⟩⟩ := (ev_ref _ _).trans (fl3_p _ _)
    have e1 : Ex.ev (fcs (fl3 (1 + p) (1 + q))) (.mk k1 []) = ⟨1, 1, ⟨#[]⟩⟩ := by rw [ev_mk]; rfl
    have o1 : ∀ op, opV op [⟨5, 1 + p, ⟨#[]⟩⟩, ⟨5, 1 + q, ⟨#[]⟩⟩] = ⟨5, 1 + p, ⟨#[]⟩⟩ := fun op => rfl
    have o2 : ∀ op, opV op [⟨4, 0, ⟨#[]⟩⟩, ⟨5, 1 + q, ⟨#[]⟩⟩] = ⟨5, 1 + q, ⟨#[]⟩⟩ := fun op => rfl
    have o3 : ∀ op, opV op [⟨4, 0, ⟨#[]⟩⟩, ⟨1, 1, ⟨#[]⟩⟩] = ⟨4, 0, ⟨#[]⟩⟩ := fun op => rfl
    have f1 := fun V g (hV : Below W.heap.size W V) hr => of_two op hop (rf ⟨#[110]⟩) (rf ⟨#[109]⟩) nN' nM' (by decide) (1 + p) (1 + q) ap aq V g (w.heap.size + 1 + 1) hr (KF.out.below hV) (HT.out.below (b_trans HBF.out hV))
    have f2 := fun V g (hV : Below W.heap.size W V) hr => of_two op hop (rf ⟨#[112]⟩) (rf ⟨#[109]⟩) nP' nM' (by decide) (1 + p) (1 + q) ap aq V g (w.heap.size + 1 + 1) hr (KF.out.below hV) (HT.out.below (b_trans HBF.out hV))
    have f3 := fun V g (hV : Below W.heap.size W V) hr => of_two op hop (rf ⟨#[112]⟩) k1 nP' n1' (by decide) (1 + p) (1 + q) ap aq V g (w.heap.size + 1 + 1) hr (KF.out.below hV) (HT.out.below (b_trans HBF.out hV))
    rw [eN, eM, o1] at f1
    rw [eP, eM, o2] at f2
    rw [eP, e1, o3] at f3
    simp only at f1 f2 f3
    have F1 := Lib.hid f1
    have F2 := Lib.hid f2
    have F3 := Lib.hid f3
    clear f1 f2 f3 hop hb nN' nM' nP' n1' eN eM eP e1 o1 o2 o3 ap aq AP AQ HOp KF HT bp0 bp1 bq0 bq1 bo0 bo1 CP CQ CO
    go_wp2_with fail
    refine (ref_any _ _).mono ?_; rintro e w30 ⟨rfl, hb3⟩
    have B0a := Lib.hid (b_trans HB.out hb3)
    clear hb3
    go_wp2_with fail
    refine (ref_any _ _).mono ?_; rintro e w40 ⟨rfl, hb4⟩
    have B0b := Lib.hid (b_trans B0a.out hb4)
    clear hb4
    go_wp2_with fail
    refine (with_any _ _ _ _ _).mono ?_; rintro e w50 ⟨rfl, hb5⟩
    have r0 : RowE (w40.alloc (.cells #[.int .i64 2, .int .i64 0, .int .i64 0, .string ⟨#[]⟩, .string ⟨#[110]⟩, .slice none 0 0, .int .i64 2, .int .i64 0, .int .i64 0, .string ⟨#[]⟩, .string ⟨#[109]⟩, .slice none 0 0] 26)) w40.heap.size [leafEl (rf ⟨#[110]⟩), leafEl (rf ⟨#[109]⟩)] := World.alloc_heap_new w40 _
    have R0 := Lib.hid (r0.below hb5)
    have B0c := Lib.hid (b_trans (b_more B0b.out (.cells #[.int .i64 2, .int .i64 0, .int .i64 0, .string ⟨#[]⟩, .string ⟨#[110]⟩, .slice none 0 0, .int .i64 2, .int .i64 0, .int .i64 0, .string ⟨#[]⟩, .string ⟨#[109]⟩, .slice none 0 0] 26)) hb5)
    clear r0 hb5
    go_wp2_with fail
    refine (F1.out _ _ B0c.out R0.out).mono ?_; rintro e w60 ⟨rfl, hb6⟩
    have B0d := Lib.hid (b_more (b_trans B0c.out hb6) (.cells #[.int .i64 5, .int .i64 (1 + p), .string ⟨#[]⟩] 23))
    have V0 := Lib.hid (BV.new w60 5 (1 + p) ⟨#[]⟩)
    clear hb6
    go_wp2_with fail
    refine (ref_any _ _).mono ?_; rintro e w31 ⟨rfl, hb3⟩
    have V0 := Lib.hid (V0.out.below hb3)
    have B1a := Lib.hid (b_trans B0d.out hb3)
    clear hb3
    go_wp2_with fail
    refine (ref_any _ _).mono ?_; rintro e w41 ⟨rfl, hb4⟩
    have V0 := Lib.hid (V0.out.below hb4)
    have B1b := Lib.hid (b_trans B1a.out hb4)
    clear hb4
    go_wp2_with fail
    refine (with_any _ _ _ _ _).mono ?_; rintro e w51 ⟨rfl, hb5⟩
    have V0 := Lib.hid ((V0.out.below (b_new _ _)).below hb5)
    have r1 : RowE (w41.alloc (.cells #[.int .i64 2, .int .i64 0, .int .i64 0, .string ⟨#[]⟩, .string ⟨#[112]⟩, .slice none 0 0, .int .i64 2, .int .i64 0, .int .i64 0, .string ⟨#[]⟩, .string ⟨#[109]⟩, .slice none 0 0] 26)) w41.heap.size [leafEl (rf ⟨#[112]⟩), leafEl (rf ⟨#[109]⟩)] := World.alloc_heap_new w41 _
    have R1 := Lib.hid (r1.below hb5)
    have B1c := Lib.hid (b_trans (b_more B1b.out (.cells #[.int .i64 2, .int .i64 0, .int .i64 0, .string ⟨#[]⟩, .string ⟨#[112]⟩, .slice none 0 0, .int .i64 2, .int .i64 0, .int .i64 0, .string ⟨#[]⟩, .string ⟨#[109]⟩, .slice none 0 0] 26)) hb5)
    clear r1 hb5
    go_wp2_with fail
    refine (F2.out _ _ B1c.out R1.out).mono ?_; rintro e w61 ⟨rfl, hb6⟩
    have V0 := Lib.hid (V0.out.below hb6)
    have V0 := Lib.hid (V0.out.below (b_new _ (.cells #[.int .i64 5, .int .i64 (1 + q), .string ⟨#[]⟩] 23)))
    have B1d := Lib.hid (b_more (b_trans B1c.out hb6) (.cells #[.int .i64 5, .int .i64 (1 + q), .string ⟨#[]⟩] 23))
    have V1 := Lib.hid (BV.new w61 5 (1 + q) ⟨#[]⟩)
    clear hb6
    go_wp2_with fail
    refine (ref_any _ _).mono ?_; rintro e w32 ⟨rfl, hb3⟩
    have V0 := Lib.hid (V0.out.below hb3)
    have V1 := Lib.hid (V1.out.below hb3)
    have B2a := Lib.hid (b_trans B1d.out hb3)
    clear hb3
    go_wp2_with fail
    refine (with_any _ _ _ _ _).mono ?_; rintro e w52 ⟨rfl, hb5⟩
    have V0 := Lib.hid ((V0.out.below (b_new _ _)).below hb5)
    have V1 := Lib.hid ((V1.out.below (b_new _ _)).below hb5)
    have r2 : RowE (w32.alloc (.cells #[.int .i64 2, .int .i64 0, .int .i64 0, .string ⟨#[]⟩, .string ⟨#[112]⟩, .slice none 0 0, .int .i64 1, .int .i64 1, .int .i64 1, .string ⟨#[]⟩, .string ⟨#[]⟩, .slice none 0 0] 26)) w32.heap.size [leafEl (rf ⟨#[112]⟩), leafEl (k1)] := World.alloc_heap_new w32 _
    have R2 := Lib.hid (r2.below hb5)
    have B2c := Lib.hid (b_trans (b_more B2a.out (.cells #[.int .i64 2, .int .i64 0, .int .i64 0, .string ⟨#[]⟩, .string ⟨#[112]⟩, .slice none 0 0, .int .i64 1, .int .i64 1, .int .i64 1, .string ⟨#[]⟩, .string ⟨#[]⟩, .slice none 0 0] 26)) hb5)
    clear r2 hb5
    go_wp2_with fail
    refine (F3.out _ _ B2c.out R2.out).mono ?_; rintro e w62 ⟨rfl, hb6⟩
    have V0 := Lib.hid (V0.out.below hb6)
    have V1 := Lib.hid (V1.out.below hb6)
    have B2e := Lib.hid (b_trans B2c.out hb6)
    have B2d := Lib.hid (b_more (b_trans B2c.out hb6) (.cells #[.int .i64 4, .int .i64 0, .string ⟨#[]⟩] 23))
    have V2 := Lib.hid (BV.new w62 4 0 ⟨#[]⟩)
    clear hb6
    obtain ⟨x0, x1, x2⟩ := V0.out.cells
    obtain ⟨y0, y1, y2⟩ := V1.out.cells
    obtain ⟨a0', a1', a2'⟩ := (KA.out.below B2e.out).cells
    obtain ⟨b0, b1, b2⟩ := (KB.out.below B2e.out).cells
    have l0 := V0.out.lt
    have l1 := V1.out.lt
    have l2 := (KA.out.below B2e.out).lt
    have l3 := (KB.out.below B2e.out).lt
    have HBE := Lib.hid (b_trans HBF.out B2d.out)
    clear kA kB F1 F2 F3
    go_wp2_with fail
    go_ret
    exact ⟨by simp, HBE.out⟩

theorem not_of {W : World} (h : laidMetH Tryd.prog Rows.evalFirstRow.laid W) : ExN.Tab W := by
  have h0 : laidMet Tryd.prog Rows.evalFirstRow.laid W := by rw [MakeChecks.laidMetH_plain _ _ _ (by kernel_rfl)] at h; exact h
  have h1 := h0
  exact NotTab.is_of_head (g := 0) (t := 113) (e := 112) (n := 19) (by kernel_rfl) (by kernel_rfl) Tryd.underlying113 (by kernel_rfl) Tryd.underlying112 (by kernel_rfl) rfl rfl rfl Tryd.underlying9 Tryd.underlying3 Tryd.underlying3 (by kernel_rfl) (by kernel_rfl) (by kernel_rfl) h1

/-! ### The row's step -/
set_option maxRecDepth 100000 in
theorem lifted (os : Os) (started : os.Started) (H : Type) (enc : TypeId × Value → H) :
    ReturnsInHanded {} Tryd.checked os 10 .any (fun w args => (Rows.evalFirstSpec.pre enc Tryd.prog Tryd.f10 [] false w args ∧ laidMetH Tryd.prog Rows.evalFirstRow.laid w) ∧ sizedMet enc Tryd.prog Tryd.f10 (OpenSpec.ofChange Rows.evalFirstSpec) false w args) (Rows.evalFirstSpec.post enc Tryd.prog Tryd.f10 false true false false) := by
  refine returnsInHanded_of_change_and (C := Tryd.checked) (X := fun w _ => laidMetH Tryd.prog Rows.evalFirstRow.laid w) (fun _ _ _ hh h => h.of_heap hh) own started (by kernel_rfl) Tryd.func10
    (ChangeSpec.witness_shaped (enc := enc) (C := Tryd.checked) (os := os) (X := fun w _ => laidMetH Tryd.prog Rows.evalFirstRow.laid w) false (World.laidAll Tryd.prog os Rows.evalFirstRow.laid) #[.int .i64 0, .int .i64 0, .int .i64 0] 8 (World.laidAll_os _ _ _) (World.shaped_of_ZipB (by kernel_rfl) (by kernel_rfl)) (by kernel_rfl) (by kernel_rfl) (by kernel_rfl) (by rw [MakeChecks.laidMetH_plain _ _ _ (by kernel_rfl)]; exact laidMet_laidAll _ (by kernel_rfl) (by kernel_rfl))) ?_
  intro W base args ds gs before hval0 hW hcnd hsz hL _
  have hval : ∀ (j : Nat) t v, Tryd.f10.params[j]? = some t → args[j]? = some v → Value.okWide Tryd.prog W .any base t v := hval0
  have hW' := hW
  obtain ⟨p, q, hA0, hV, rfl, hfz, hnd⟩ := hW
  have hA : DataW.TrodAll enc Tryd.prog W 0 (fun _ => true) true Tryd.f10.params.toList args.toList ds p := hA0
  rw [Tryd.params10] at hA hval
  obtain ⟨v0, vs0, d0, ds0, p0, q0, hargs, rfl, rfl, h0, r0⟩ := trodAll_cons hA
  obtain ⟨v1, vs1, d1, ds1, p1, q1, rfl, rfl, rfl, h1, r1⟩ := trodAll_cons r0
  obtain ⟨v2, vs2, d2, ds2, p2, q2, rfl, rfl, rfl, h2, r2⟩ := trodAll_cons r1
  obtain ⟨rfl, rfl, rfl⟩ := trodAll_nil r2
  obtain rfl : args = #[v0, v1, v2] := by cases args; simp_all
  obtain ⟨rfl, rfl⟩ := trodVars_none hV
  have k0 := h0
  have lt0 : ∀ x ∈ p0, x.block < W.heap.size := by obtain ⟨m, hm⟩ := k0; exact DataW.trod_lt m _ _ _ hm
  obtain ⟨a0, rfl, rfl, rfl, w0⟩ := open_int Tryd.underlying3 (hval 0 3 v0 rfl rfl) h0
  have k1 := h1
  have lt1 : ∀ x ∈ p1, x.block < W.heap.size := by obtain ⟨m, hm⟩ := k1; exact DataW.trod_lt m _ _ _ hm
  obtain ⟨a1, rfl, rfl, rfl, w1⟩ := open_int Tryd.underlying3 (hval 1 3 v1 rfl rfl) h1
  have k2 := h2
  have lt2 : ∀ x ∈ p2, x.block < W.heap.size := by obtain ⟨m, hm⟩ := k2; exact DataW.trod_lt m _ _ _ hm
  obtain ⟨a2, rfl, rfl, rfl, w2⟩ := open_int Tryd.underlying3 (hval 2 3 v2 rfl rfl) h2
  clear hA0 hval0
  refine (walk a0 a1 a2 w0 w1 w2 W (not_of hL)).mono fun e W' ⟨he, bel⟩ => ?_
  subst he
  exact ⟨_, rfl, _, _, _, [], _, [], hW', trodAll_mk1 (shut_bool Tryd.underlying4 _), (trodAll_cons_mk (Below.trod laidOut (by kernel_rfl) (of_decide_eq_true (by kernel_rfl)) k0 bel lt0) (trodAll_cons_mk (Below.trod laidOut (by kernel_rfl) (of_decide_eq_true (by kernel_rfl)) k1 bel lt1) (trodAll_cons_mk (Below.trod laidOut (by kernel_rfl) (of_decide_eq_true (by kernel_rfl)) k2 bel lt2) trodAll_mk0))), rfl, bel.frame _, fun h => by cases h⟩

theorem over : Rows.evalFirstRow.holds Tryd.pinned (OpenSpec.ofChange Rows.evalFirstSpec) :=
  OpenClaim.holds_of_wide 10 Tryd.f10 rfl rfl rfl rfl rfl rfl rfl ⟨rfl, rfl, rfl, rfl, rfl⟩ rfl rfl rfl rfl rfl (by kernel_rfl) Tryd.func10 (by kernel_rfl)
    (of_decide_eq_true (by kernel_rfl)) (by unfold Func.isWrapper; first | (rw [if_pos (by decide +kernel)]; kernel_rfl) | (rw [if_neg (by decide +kernel)]; exact ⟨rfl, rfl⟩))
    (fun os started H enc _ => lifted os started H enc)

/-- The tied card. -/
theorem proved : Rows.EvalFirstCardSaid :=
  Claim7.holds_tied_plain_at .later [] [.data] true (true, "e7e778849e5474a99cfe14a85150a9c1848083beaff400444cc53060f832e11e") false
    over (fun _ h => by cases h) (by kernel_rfl) (fun _ h => by cases h) evalFirst_row_tie rfl ⟨rfl, rfl⟩ (by kernel_rfl) rfl
    (fun f fn hf hfn => by
      obtain rfl : f = 10 := Option.some.inj ((show Tryd.prog.funcNamed "lychway/lychwaykeep.EvalFirst" = some 10 by kernel_rfl).symm.trans hf) |>.symm
      obtain rfl : fn = Tryd.f10 := (Option.some.inj (Tryd.func10.symm.trans hfn)).symm
      exact ⟨by kernel_rfl, fun j t ht => by
        rw [Tryd.params10] at ht
        have hm : t ∈ [3, 3, 3] := by simpa using Array.mem_of_getElem? ht
        have hall : ([3, 3, 3].all fun u => !Tryd.prog.wantsStandIn u) = true := by kernel_rfl
        exact (show Tryd.prog.wantsStandIn t = false by simpa using List.all_eq_true.1 hall t hm)⟩)
    (by kernel_rfl)
#print axioms proved
end Go.Proofs.YtbdofaaemgckiaaDoor.evalFirst
