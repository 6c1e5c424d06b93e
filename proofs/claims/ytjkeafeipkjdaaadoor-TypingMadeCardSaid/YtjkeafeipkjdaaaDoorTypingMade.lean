/- What is proved: the Go law lychwaykeep.TypingMade returns true for all its arguments, and leaves them as they were. No condition. -/
import Derived.Test.YtjkeafeipkjdaaaDoorRows
import Derived.Test.YtjkeafeipkjdaaaDoorTyGen
import Derived.Test.YtjkeafeipkjdaaaDoorRawOpen
import Derived.Test.YtjkeafeipkjdaaaDoorKit
import Derived.WalkKit
import Derived.ProofKit
import Derived.OpenShut
import Derived.Deep.RegionHeld3
import Derived.Deep.DrawnRows
import Derived.Deep.DeepCutAuto
import Derived.Deep.QuietTactic
import Derived.BigQuiet
import Derived.WalkSpells
import Derived.WalkLawsBesides
import Derived.Lib.Hide
import Derived.Outline
import Derived.ShutString
import Derived.ChangeOld
import Derived.Below
import Derived.LaidMore
import Derived.SizedLaws
import Derived.Stop.Joined
import Derived.Stop.LaidErr
import Derived.Lib.LaidTab
import Derived.SevenTiedAt
import Derived.Lay
import Derived.LaidOnce
import Derived.Deep.DeepHandedRow
import Derived.Test.YtjkeafeipkjdaaaDoorCards
import Derived.Test.YtjkeafeipkjdaaaDoorTie
namespace Go.Proofs.YtjkeafeipkjdaaaDoor.typingMade
open ExM NmM Kit ExL ExP ExN ExV RawL RawV Within GenL Gen GenE GenT NmC NmP NmG TyM Ty TyT TyO TyG
open Go.ChangeShapes Go.WideShapes Go.ChangeAt Go.RowKit
open Go.ChangeMaps (open_string shut_string)
set_option linter.unusedVariables false

theorem own : ownKnob Tryd.prog.godebug = none := by kernel_rfl
theorem laidOut : laidOutB Tryd.prog = true := by kernel_rfl


/-! ### The walk -/
def Boxz (W : World) (b : Nat) : Prop := W.heap[b]? = some (.cells #[.int .i64 0, .int .i64 0, .int .i64 0, .string ⟨#[]⟩, .string ⟨#[]⟩, .slice none 0 0] 26 (0, 0))
theorem boxz_at (W : World) : Boxz (W.alloc (.cells #[.int .i64 0, .int .i64 0, .int .i64 0, .string ⟨#[]⟩, .string ⟨#[]⟩, .slice none 0 0] 26)) W.heap.size := World.alloc_heap_new W _
theorem boxz_keep {W W' : World} {b : Nat} (h : Boxz W b) (hb : Below W.heap.size W W') : Boxz W' b := (hb.block b (Array.getElem?_eq_some_iff.1 h).1).trans h
def S6 (W : World) (B : Nat) (u0 u1 u2 u3 u4 u5 : Value) : World := ((((((W.setCell ⟨B, 0, none⟩ u0).setCell ⟨B, 1, none⟩ u1).setCell ⟨B, 2, none⟩ u2).setCell ⟨B, 3, none⟩ u3).setCell ⟨B, 4, none⟩ u4).setCell ⟨B, 5, none⟩ u5)
theorem s6_heap (W : World) (B b : Nat) (h : b ≠ B) (u0 u1 u2 u3 u4 u5 : Value) : (S6 W B u0 u1 u2 u3 u4 u5).heap[b]? = W.heap[b]? := by
  unfold S6
  rw [Below.heap_setCell _ ⟨B, 5, none⟩ _ b h, Below.heap_setCell _ ⟨B, 4, none⟩ _ b h, Below.heap_setCell _ ⟨B, 3, none⟩ _ b h, Below.heap_setCell _ ⟨B, 2, none⟩ _ b h, Below.heap_setCell _ ⟨B, 1, none⟩ _ b h, Below.heap_setCell _ ⟨B, 0, none⟩ _ b h]
theorem s6_box {W : World} {B : Nat} (h : Boxz W B) (u0 u1 u2 u3 u4 u5 : Value) : (S6 W B u0 u1 u2 u3 u4 u5).heap[B]? = some (.cells #[u0, u1, u2, u3, u4, u5] 26 (0, 0)) := by
  unfold Boxz at h
  unfold S6
  have e1 := heap_setCell_same W B 0 _ _ u0 h
  have e2 := heap_setCell_same _ B 1 _ _ u1 e1
  have e3 := heap_setCell_same _ B 2 _ _ u2 e2
  have e4 := heap_setCell_same _ B 3 _ _ u3 e3
  have e5 := heap_setCell_same _ B 4 _ _ u4 e4
  have e6 := heap_setCell_same _ B 5 _ _ u5 e5
  rw [e6]; rfl
theorem s6_below {X : Nat} {a W : World} {B : Nat} (h : Below X a W) (hB : X ≤ B) (u0 u1 u2 u3 u4 u5 : Value) : Below X a (S6 W B u0 u1 u2 u3 u4 u5) :=
  (((((h.setCell (p := ⟨B, 0, none⟩) hB _).setCell (p := ⟨B, 1, none⟩) hB _).setCell (p := ⟨B, 2, none⟩) hB _).setCell (p := ⟨B, 3, none⟩) hB _).setCell (p := ⟨B, 4, none⟩) hB _).setCell (p := ⟨B, 5, none⟩) hB _
def CellsZ (W : World) (b : Nat) : Prop := (∀ o, W.cell? ⟨b, o, none⟩ = (#[.int .i64 0, .int .i64 0, .int .i64 0, .string ⟨#[]⟩, .string ⟨#[]⟩, .slice none 0 0] : Array Value)[o]?) ∧ (∀ o, W.frozen? ⟨b, o, none⟩ = false) ∧ b < W.heap.size
theorem boxz_cells {W : World} {b : Nat} (h : Boxz W b) : CellsZ W b := ⟨fun o => by unfold Boxz at h; simp [World.cell?, h], fun o => by unfold Boxz at h; simp [World.frozen?, h], (Array.getElem?_eq_some_iff.1 h).1⟩
theorem put_done {V W : World} {B : Nat} {z : ExM.Ex} {d : ExM.Nd} {A : Option Addr} {m : Nat} (hb : Below V.heap.size V W) (hi : ExP.IsP (fun b => V.heap.size ≤ b) W z d A m) (c : Nat) {X : Nat} {a : World} (hl2 : Below X a W) (h : Boxz V B) (hX : X ≤ B) :
    CellsZ W B ∧ ExV.Box (S6 W B (.int .i64 d.op) (.int .i64 d.k) (.int .i64 d.n) (.string d.s) (.string d.nm) (.slice A m c)) B d A m c ∧ ExL.Is (S6 W B (.int .i64 d.op) (.int .i64 d.k) (.int .i64 d.n) (.string d.s) (.string d.nm) (.slice A m c)) z d A m ∧ Below X a (S6 W B (.int .i64 d.op) (.int .i64 d.k) (.int .i64 d.n) (.string d.s) (.string d.nm) (.slice A m c)) := by
  have hl : B < V.heap.size := (Array.getElem?_eq_some_iff.1 h).1
  exact ⟨boxz_cells (boxz_keep h hb), s6_box (boxz_keep h hb) _ _ _ _ _ _, (ExP.IsP.keep (Q := fun _ => True) (fun b hb2 _ => s6_heap _ _ _ (by have : V.heap.size ≤ b := hb2; omega) _ _ _ _ _ _) (fun _ _ _ => trivial) _ _ _ _ hi).is, s6_below hl2 hX _ _ _ _ _ _⟩
set_option maxRecDepth 100000 in
set_option maxHeartbeats 16000000 in
theorem walk (A0 : Option Addr) (n0 : Nat) (c0 : Nat) (A1 : Option Addr) (n1 : Nat) (c1 : Nat) (a2 : Int) (w2 : (Lit.int .i64 a2).wf = true) (w : World) (hraw0 : RawL.Raws w A0 n0 c0) (hraw1 : RawL.Raws w A1 n1 c1) (ht : ExN.Tab w) :
    Calls Tryd.prog 4 #[.slice A0 n0 c0, .slice A1 n1 c1, .int .i64 a2] w fun e w' => e = .returned (.bool true) ∧ Below w.heap.size w w' := by
  obtain ⟨pk, hpk⟩ : ∃ p, pick a2 3 = p := ⟨_, rfl⟩
  have hpb := pick_bd a2 3 (by decide)
  have hp := fun W => picked_any a2 3 W w2 (by decide) (by decide)
  rw [hpk] at hp hpb
  obtain ⟨pb0, pb1⟩ := hpb
  have HP := Lib.hid hp
  have HT := Lib.hid ht
  have HR0 := Lib.hid hraw0
  have HR1 := Lib.hid hraw1
  clear hp hpk ht hraw0 hraw1 w2
  have hmk : ∀ W FA fc, Raws W A0 n0 c0 → Flds W FA someF → Calls Tryd.prog 11 #[.slice A0 n0 c0, .int .i64 (1 + pk), .slice FA 5 fc] W (ExprOut someF (1 + pk) W) := fun W FA fc hr hf => make_any n0 c0 fc A0 FA someF (1 + pk) W hr hf (by decide) someF_sz
  have hmk2 : ∀ W FA fc, Raws W A1 n1 c1 → Flds W FA someF → Calls Tryd.prog 11 #[.slice A1 n1 c1, .int .i64 1, .slice FA 5 fc] W (ExprOut someF 1 W) := fun W FA fc hr hf => make_any n1 c1 fc A1 FA someF 1 W hr hf (by decide) someF_sz
  have HMk := Lib.hid hmk
  have HMk2 := Lib.hid hmk2
  clear hmk hmk2
  go_enter Tryd.func4, Tryd.ntmps4
  go_wp2_with fail
  refine (HP.out _).mono ?_; rintro e w9 ⟨rfl, rfl⟩
  go_wp2_with fail
  refine (someX_any _).mono ?_; rintro e w1 ⟨⟨rfl, hfl⟩, hb1⟩
  have hr1 : Raws w1 A0 n0 c0 := HR0.out.keep fun p v0 v1 v2 h0 h2 => hb1.block _ (cell_lt' h0)
  have HC := Lib.hid (HMk.out w1 _ 5 hr1 hfl)
  have HB1 := Lib.hid hb1
  clear hr1 hfl hb1
  go_wp2_with fail
  refine HC.out.mono ?_; rintro e w2 ⟨x, dx, Bx, mx, cx, rfl, hgx, hisx, hb2⟩
  obtain ⟨hckx, hx40, _, _⟩ := gn_check someF_nm hgx
  have hix := hisx.is
  have hbA : Below w.heap.size w (w2.alloc (.cells #[.int .i64 dx.op, .int .i64 dx.k, .int .i64 dx.n, .string dx.s, .string dx.nm, .slice Bx mx cx] 26)) := b_more (b_trans HB1.out hb2) _
  have z1 := Box.new w2 dx Bx mx cx
  have j1 := hix.below (b_new w2 (.cells #[.int .i64 dx.op, .int .i64 dx.k, .int .i64 dx.n, .string dx.s, .string dx.nm, .slice Bx mx cx] 26))
  have htx := gn_ty some_ty 3 (1 + pk) x (by omega) (by omega) hgx
  obtain ⟨W, hW⟩ : ∃ W, w2.alloc (.cells #[.int .i64 dx.op, .int .i64 dx.k, .int .i64 dx.n, .string dx.s, .string dx.nm, .slice Bx mx cx] 26) = W := ⟨_, rfl⟩
  rw [hW] at hbA z1 j1
  have hT := HT.out.below hbA
  have f1 : ∀ V (FA : Option Addr) (fc : Nat), Below W.heap.size W V → Flds V FA someF → Calls Tryd.prog 6 #[.agg #[.int .i64 dx.op, .int .i64 dx.k, .int .i64 dx.n, .string dx.s, .string dx.nm, .slice Bx mx cx], .slice FA 5 fc] V fun e w' => e = .returned (.tuple #[.int .i64 (1 + pk), .int .i64 0]) ∧ Below V.heap.size V w' := fun V FA fc hb hf => by
    have := of_any x someF FA fc dx Bx mx cx V (by decide) (j1.below hb) hf (hT.below hb)
    rw [ofT_ty hckx, htx] at this; exact this
  have hcl : ∀ V, Below W.heap.size W V → V.cell? ⟨w2.heap.size, 0, none⟩ = some (.int .i64 dx.op) ∧ V.cell? ⟨w2.heap.size, 1, none⟩ = some (.int .i64 dx.k) ∧ V.cell? ⟨w2.heap.size, 2, none⟩ = some (.int .i64 dx.n) ∧ V.cell? ⟨w2.heap.size, 3, none⟩ = some (.string dx.s) ∧ V.cell? ⟨w2.heap.size, 4, none⟩ = some (.string dx.nm) ∧ V.cell? ⟨w2.heap.size, 5, none⟩ = some (.slice Bx mx cx) := fun V hV => (z1.below hV).cells
  have H1 := Lib.hid f1
  have HCells := Lib.hid hcl
  have J1 := Lib.hid j1
  have HTW := Lib.hid hT
  have HBA := Lib.hid hbA
  have HW := Lib.hid hW
  have HTx := Lib.hid htx
  have HCkx := Lib.hid hckx
  have hbl := Below.refl W.heap.size W
  obtain ⟨q0, q1, q2, q3, q4, q5⟩ := hcl W hbl
  clear f1 hcl hT hW z1 j1 hbA hix hisx hgx hb2 HC HB1 htx hckx
  go_wp2_with fail
  rw [HW.out]
  go_region_held3 (fun V => V.cell? ⟨w2.heap.size, 0, none⟩ = some (.int .i64 dx.op) ∧ V.cell? ⟨w2.heap.size, 1, none⟩ = some (.int .i64 dx.k) ∧ V.cell? ⟨w2.heap.size, 2, none⟩ = some (.int .i64 dx.n) ∧ V.cell? ⟨w2.heap.size, 3, none⟩ = some (.string dx.s) ∧ V.cell? ⟨w2.heap.size, 4, none⟩ = some (.string dx.nm) ∧ V.cell? ⟨w2.heap.size, 5, none⟩ = some (.slice Bx mx cx)) (first | (with_reducible exact HCells.out _ hbl) | (with_reducible exact HCells.out _ (b_drew hbl)))
    (first | (go_at_call 12; refine (someX_any _).mono ?_; rintro e wn ⟨⟨rfl, hfl⟩, hbn⟩; have hbl : Below W.heap.size W wn := (by (first | (exact b_step hbl hbn) | (exact b_step (b_drew hbl) hbn)))) | (go_at_call 6; (with_reducible refine (H1.out _ _ _ ?_ ?_).mono ?_); (first | exact hbl | exact b_drew hbl); (first | exact hfl | exact hfl.below (b_drew (Below.refl _ _))); rintro e wk ⟨rfl, hbk⟩; have hbl : Below W.heap.size W wk := (by (first | (exact b_step hbl hbk) | (exact b_step (b_drew hbl) hbk)))))
  obtain ⟨WA, hWA⟩ : ∃ V, wk = V := ⟨_, rfl⟩
  rw [hWA] at hbl ⊢
  have HBL := Lib.hid hbl
  clear hWA hbk hfl hbn q0 q1 q2 q3 q4 q5
  obtain ⟨q0, q1, q2, q3, q4, q5⟩ := HCells.out WA hbl
  clear hbl
  have hbl := Below.refl WA.heap.size WA
  have hcl2 := fun V (hV : Below WA.heap.size WA V) => HCells.out V (HBL.out.trans (hV.mono HBL.out.size))
  have HCells2 := Lib.hid hcl2
  have hbWA : Below w.heap.size w WA := b_trans HBA.out HBL.out
  have hy : ∀ V (FA : Option Addr) (fc : Nat), Below WA.heap.size WA V → Flds V FA someF → Calls Tryd.prog 11 #[.slice A1 n1 c1, .int .i64 1, .slice FA 5 fc] V (ExprOut someF 1 V) := fun V FA fc hV hf =>
    HMk2.out V FA fc (HR1.out.keep fun p v0 v1 v2 h0 h2 => (b_trans hbWA hV).block _ (cell_lt' h0)) hf
  have hput : ∀ V (y : Ex) (dy : Nd) (By : Option Addr) (my cy : Nat), Below WA.heap.size WA V → Gn someF 3 1 y → Is V y dy By my → Calls Tryd.prog 13 #[.agg #[.int .i64 dx.op, .int .i64 dx.k, .int .i64 dx.n, .string dx.s, .string dx.nm, .slice Bx mx cx], .string ⟨#[110]⟩, .agg #[.int .i64 dy.op, .int .i64 dy.k, .int .i64 dy.n, .string dy.s, .string dy.nm, .slice By my cy]] V fun e w' => ∃ (z : Ex) (dz : Nd) (Bz : Option Addr) (mz cz : Nat) (r : Int), e = .returned (.tuple #[.agg #[.int .i64 dz.op, .int .i64 dz.k, .int .i64 dz.n, .string dz.s, .string dz.nm, .slice Bz mz cz], .int .i64 r]) ∧ (IsP (fun b => V.heap.size ≤ b) w' z dz Bz mz ∧ (r = 0 → ofT (fts someF) z = (1 + pk, 0))) ∧ Below V.heap.size V w' := fun V y dy By my cy hV hgy hiy => by
    obtain ⟨hcky, hy40, _, _⟩ := gn_check someF_nm hgy
    have hty := gn_ty some_ty 3 1 y (by omega) (by omega) hgy
    refine (Put_any nN (by decide) x y (by omega) (by omega) dx dy Bx By mx cx my cy V (J1.out.below (HBL.out.trans (hV.mono HBL.out.size))) hiy (HTW.out.below (HBL.out.trans (hV.mono HBL.out.size)))).mono ?_
    rintro e w' ⟨dz, Bz, mz, cz, rfl, hz, hb⟩
    refine ⟨putZ nN x y, dz, Bz, mz, cz, _, rfl, ⟨hz, fun h0 => ?_⟩, hb⟩
    have e1 : putZ nN x y = Ex.put nN y x := by unfold putZ; rw [if_pos h0]
    rw [e1]
    have e2 : (Ex.put nN y x).checkE = 0 := by rw [← putR_n HCkx.out hcky]; exact h0
    rw [ofT_ty e2, put_ty _ nN y (by rw [hty, some_n]) x, HTx.out]
  have HY := Lib.hid hy
  have HPut := Lib.hid hput
  have HBWA := Lib.hid hbWA
  clear hy hput hcl2 hbWA HMk HMk2 HCells H1 HBA
  go_upto_region 4 with fail
  go_cut [2, 8, 9, 10, 11] (fun s2 s8 s9 s10 s11 wx => ∃ (B : Nat) (z : Ex) (dz : Nd) (Bz : Option Addr) (mz cz : Nat) (r : Int), s2 = .int .i64 (1 + pk) ∧ s8 = .int .i64 (1 + pk) ∧ s9 = .int .i64 0 ∧ s10 = .pointer (some ⟨B, 0, none⟩) ∧ s11 = .int .i64 r ∧ Box wx B dz Bz mz cz ∧ Is wx z dz Bz mz ∧ Below WA.heap.size WA wx ∧ (r = 0 → ofT (fts someF) z = (1 + pk, 0)))
  case first =>
    have hset : ∀ (U : World) (B : Nat) (u0 u1 u2 u3 u4 u5 : Value), Below WA.heap.size WA U → WA.heap.size ≤ B → ∀ V, V = S6 U B u0 u1 u2 u3 u4 u5 → V.cell? ⟨w2.heap.size, 0, none⟩ = some (.int .i64 dx.op) ∧ V.cell? ⟨w2.heap.size, 1, none⟩ = some (.int .i64 dx.k) ∧ V.cell? ⟨w2.heap.size, 2, none⟩ = some (.int .i64 dx.n) ∧ V.cell? ⟨w2.heap.size, 3, none⟩ = some (.string dx.s) ∧ V.cell? ⟨w2.heap.size, 4, none⟩ = some (.string dx.nm) ∧ V.cell? ⟨w2.heap.size, 5, none⟩ = some (.slice Bx mx cx) := fun U B u0 u1 u2 u3 u4 u5 hU hB V hV => by
      subst hV
      have hne : w2.heap.size ≠ B := by have : w2.heap.size < WA.heap.size := cell_lt' q0; omega
      have hh := s6_heap U B w2.heap.size hne u0 u1 u2 u3 u4 u5
      obtain ⟨k0, k1, k2, k3, k4, k5⟩ := HCells2.out U hU
      exact ⟨(World.cell?_of_block (a := ⟨w2.heap.size, 0, none⟩) hh).trans k0, (World.cell?_of_block (a := ⟨w2.heap.size, 1, none⟩) hh).trans k1, (World.cell?_of_block (a := ⟨w2.heap.size, 2, none⟩) hh).trans k2, (World.cell?_of_block (a := ⟨w2.heap.size, 3, none⟩) hh).trans k3, (World.cell?_of_block (a := ⟨w2.heap.size, 4, none⟩) hh).trans k4, (World.cell?_of_block (a := ⟨w2.heap.size, 5, none⟩) hh).trans k5⟩
    have HSet := Lib.hid hset
    clear hset
    have hset : ∀ (U : World) (B : Nat) (u0 u1 u2 u3 u4 u5 : Value), Below WA.heap.size WA U → WA.heap.size ≤ B → ∀ V, V = S6 U B u0 u1 u2 u3 u4 u5 → V.cell? ⟨w2.heap.size, 0, none⟩ = some (.int .i64 dx.op) ∧ V.cell? ⟨w2.heap.size, 1, none⟩ = some (.int .i64 dx.k) ∧ V.cell? ⟨w2.heap.size, 2, none⟩ = some (.int .i64 dx.n) ∧ V.cell? ⟨w2.heap.size, 3, none⟩ = some (.string dx.s) ∧ V.cell? ⟨w2.heap.size, 4, none⟩ = some (.string dx.nm) ∧ V.cell? ⟨w2.heap.size, 5, none⟩ = some (.slice Bx mx cx) := fun U B u0 u1 u2 u3 u4 u5 hU hB V hV => by
      subst hV
      have hne : w2.heap.size ≠ B := by have : w2.heap.size < WA.heap.size := cell_lt' q0; omega
      have hh := s6_heap U B w2.heap.size hne u0 u1 u2 u3 u4 u5
      obtain ⟨k0, k1, k2, k3, k4, k5⟩ := HCells2.out U hU
      exact ⟨(World.cell?_of_block (a := ⟨w2.heap.size, 0, none⟩) hh).trans k0, (World.cell?_of_block (a := ⟨w2.heap.size, 1, none⟩) hh).trans k1, (World.cell?_of_block (a := ⟨w2.heap.size, 2, none⟩) hh).trans k2, (World.cell?_of_block (a := ⟨w2.heap.size, 3, none⟩) hh).trans k3, (World.cell?_of_block (a := ⟨w2.heap.size, 4, none⟩) hh).trans k4, (World.cell?_of_block (a := ⟨w2.heap.size, 5, none⟩) hh).trans k5⟩
    have HSet := Lib.hid hset
    clear hset
    have hset : ∀ (U : World) (B : Nat) (u0 u1 u2 u3 u4 u5 : Value), Below WA.heap.size WA U → WA.heap.size ≤ B → ∀ V, V = S6 U B u0 u1 u2 u3 u4 u5 → V.cell? ⟨w2.heap.size, 0, none⟩ = some (.int .i64 dx.op) ∧ V.cell? ⟨w2.heap.size, 1, none⟩ = some (.int .i64 dx.k) ∧ V.cell? ⟨w2.heap.size, 2, none⟩ = some (.int .i64 dx.n) ∧ V.cell? ⟨w2.heap.size, 3, none⟩ = some (.string dx.s) ∧ V.cell? ⟨w2.heap.size, 4, none⟩ = some (.string dx.nm) ∧ V.cell? ⟨w2.heap.size, 5, none⟩ = some (.slice Bx mx cx) := fun U B u0 u1 u2 u3 u4 u5 hU hB V hV => by
      subst hV
      have hne : w2.heap.size ≠ B := by have : w2.heap.size < WA.heap.size := cell_lt' q0; omega
      have hh := s6_heap U B w2.heap.size hne u0 u1 u2 u3 u4 u5
      obtain ⟨k0, k1, k2, k3, k4, k5⟩ := HCells2.out U hU
      exact ⟨(World.cell?_of_block (a := ⟨w2.heap.size, 0, none⟩) hh).trans k0, (World.cell?_of_block (a := ⟨w2.heap.size, 1, none⟩) hh).trans k1, (World.cell?_of_block (a := ⟨w2.heap.size, 2, none⟩) hh).trans k2, (World.cell?_of_block (a := ⟨w2.heap.size, 3, none⟩) hh).trans k3, (World.cell?_of_block (a := ⟨w2.heap.size, 4, none⟩) hh).trans k4, (World.cell?_of_block (a := ⟨w2.heap.size, 5, none⟩) hh).trans k5⟩
    have HSet := Lib.hid hset
    clear hset
    have hset : ∀ (U : World) (B : Nat) (u0 u1 u2 u3 u4 u5 : Value), Below WA.heap.size WA U → WA.heap.size ≤ B → ∀ V, V = S6 U B u0 u1 u2 u3 u4 u5 → V.cell? ⟨w2.heap.size, 0, none⟩ = some (.int .i64 dx.op) ∧ V.cell? ⟨w2.heap.size, 1, none⟩ = some (.int .i64 dx.k) ∧ V.cell? ⟨w2.heap.size, 2, none⟩ = some (.int .i64 dx.n) ∧ V.cell? ⟨w2.heap.size, 3, none⟩ = some (.string dx.s) ∧ V.cell? ⟨w2.heap.size, 4, none⟩ = some (.string dx.nm) ∧ V.cell? ⟨w2.heap.size, 5, none⟩ = some (.slice Bx mx cx) := fun U B u0 u1 u2 u3 u4 u5 hU hB V hV => by
      subst hV
      have hne : w2.heap.size ≠ B := by have : w2.heap.size < WA.heap.size := cell_lt' q0; omega
      have hh := s6_heap U B w2.heap.size hne u0 u1 u2 u3 u4 u5
      obtain ⟨k0, k1, k2, k3, k4, k5⟩ := HCells2.out U hU
      exact ⟨(World.cell?_of_block (a := ⟨w2.heap.size, 0, none⟩) hh).trans k0, (World.cell?_of_block (a := ⟨w2.heap.size, 1, none⟩) hh).trans k1, (World.cell?_of_block (a := ⟨w2.heap.size, 2, none⟩) hh).trans k2, (World.cell?_of_block (a := ⟨w2.heap.size, 3, none⟩) hh).trans k3, (World.cell?_of_block (a := ⟨w2.heap.size, 4, none⟩) hh).trans k4, (World.cell?_of_block (a := ⟨w2.heap.size, 5, none⟩) hh).trans k5⟩
    have HSet := Lib.hid hset
    clear hset
    go_region_held3 (fun V => V.cell? ⟨w2.heap.size, 0, none⟩ = some (.int .i64 dx.op) ∧ V.cell? ⟨w2.heap.size, 1, none⟩ = some (.int .i64 dx.k) ∧ V.cell? ⟨w2.heap.size, 2, none⟩ = some (.int .i64 dx.n) ∧ V.cell? ⟨w2.heap.size, 3, none⟩ = some (.string dx.s) ∧ V.cell? ⟨w2.heap.size, 4, none⟩ = some (.string dx.nm) ∧ V.cell? ⟨w2.heap.size, 5, none⟩ = some (.slice Bx mx cx)) (first | (with_reducible exact HCells2.out _ hbl) | (with_reducible exact HCells2.out _ (b_drew hbl)) | (with_reducible exact HCells2.out _ (b_more hbl _)) | (with_reducible exact HCells2.out _ (b_more (b_drew hbl) _)) | (with_reducible exact HCells2.out _ (b_drew (b_more hbl _))) | (with_reducible exact HSet.out _ _ _ _ _ _ _ _ hbl (by first | exact Nat.le_refl _ | exact sn | exact sk) _ rfl))
      (first | (go_at_call 12; refine (some_any _).mono ?_; rintro e wn ⟨⟨FAv, fcv, rfl, hfl⟩, hbn⟩; have hbl : Below WA.heap.size WA wn := (by first | exact b_step hbl hbn | exact b_step (b_drew hbl) hbn | exact b_step (b_more hbl _) hbn | exact b_step (b_more (b_drew hbl) _) hbn | exact b_step (b_drew (b_more hbl _)) hbn); have sn := hbl.size; (first | (have bx : Boxz wn WA.heap.size := boxz_keep (by first | exact boxz_at WA | exact boxz_at WA.drew) hbn) | skip)) | (go_at_call 11; (with_reducible refine (HY.out _ _ _ ?_ ?_).mono ?_); (first | exact hbl | exact (b_drew hbl) | exact (b_more hbl _) | exact (b_more (b_drew hbl) _) | exact (b_drew (b_more hbl _))); (first | exact hfl.below (Below.refl _ _) | exact hfl.below (b_drew (Below.refl _ _)) | exact hfl.below (b_new _ _) | exact hfl.below (b_more (b_drew (Below.refl _ _)) _) | exact hfl.below (b_drew (b_new _ _))); rintro e wk ⟨y, dy, By, my, cy, rfl, hgy, hisy, hbk⟩; have hbl : Below WA.heap.size WA wk := (by first | exact b_step hbl hbk | exact b_step (b_drew hbl) hbk | exact b_step (b_more hbl _) hbk | exact b_step (b_more (b_drew hbl) _) hbk | exact b_step (b_drew (b_more hbl _)) hbk); have sk := hbl.size; have hiy := hisy.is; (first | (have bx : Boxz wk WA.heap.size := boxz_keep (boxz_keep bx (by first | exact (Below.refl _ _) | exact (b_drew (Below.refl _ _)) | exact (b_new _ _) | exact (b_more (b_drew (Below.refl _ _)) _) | exact (b_drew (b_new _ _)))) hbk) | (have bx : Boxz wk wn.heap.size := boxz_keep (by first | exact boxz_at wn | exact boxz_at wn.drew) hbk) | skip)) | (go_at_call 13; (with_reducible refine (HPut.out _ _ _ _ _ _ ?_ hgy ?_).mono ?_); (first | exact hbl | exact (b_drew hbl) | exact (b_more hbl _) | exact (b_more (b_drew hbl) _) | exact (b_drew (b_more hbl _))); (first | exact hiy.below (Below.refl _ _) | exact hiy.below (b_drew (Below.refl _ _)) | exact hiy.below (b_new _ _) | exact hiy.below (b_more (b_drew (Below.refl _ _)) _) | exact hiy.below (b_drew (b_new _ _))); rintro e wz ⟨z, dz, Bz, mz, cz, r, rfl, ⟨hisz, htz⟩, hbz⟩; have hbl : Below WA.heap.size WA wz := (by first | exact b_step hbl hbz | exact b_step (b_drew hbl) hbz | exact b_step (b_more hbl _) hbz | exact b_step (b_more (b_drew hbl) _) hbz | exact b_step (b_drew (b_more hbl _)) hbz); have hiz := hisz.is; (first | (have pd := put_done hbz hisz cz hbl (boxz_keep bx (by first | exact (Below.refl _ _) | exact (b_drew (Below.refl _ _)) | exact (b_new _ _) | exact (b_more (b_drew (Below.refl _ _)) _) | exact (b_drew (b_new _ _)))) (by first | exact Nat.le_refl _ | exact sn | exact sk); obtain ⟨⟨x1, x2, x3⟩, pb, pi, pb2⟩ := pd) | (have pd := put_done hbz hisz cz hbl (show Boxz _ wk.heap.size from (by first | exact boxz_at wk | exact boxz_at wk.drew)) (by first | exact Nat.le_refl _ | exact sn | exact sk); obtain ⟨⟨x1, x2, x3⟩, pb, pi, pb2⟩ := pd) | skip)))
    all_goals (go_wp2_with fail; go_meet)
    all_goals (first | (unfold S6 at pb pi pb2; with_reducible exact ⟨_, z, dz, Bz, mz, cz, r, rfl, rfl, rfl, rfl, rfl, pb, pi, pb2, htz⟩) | (with_reducible exact ⟨_, z, dz, Bz, mz, cz, r, rfl, rfl, rfl, rfl, rfl, Box.new wz dz Bz mz cz, hiz.alloc _, b_more hbl _, htz⟩))
  case rest =>
    obtain ⟨B, z, dz, Bz, mz, cz, r, rfl, rfl, rfl, rfl, rfl, hbx, hiz, hbl1, htz⟩ := hcut
    obtain ⟨t, e0, hte⟩ : ∃ t e, ofT (fts someF) z = (t, e) := ⟨_, _, rfl⟩
    have hbW1 : Below W.heap.size W wc := HBL.out.trans (hbl1.mono HBL.out.size)
    have g1 : ∀ V (FA : Option Addr) (fc : Nat), Below wc.heap.size wc V → Flds V FA someF → Calls Tryd.prog 6 #[.agg #[.int .i64 dz.op, .int .i64 dz.k, .int .i64 dz.n, .string dz.s, .string dz.nm, .slice Bz mz cz], .slice FA 5 fc] V fun e w' => e = .returned (.tuple #[.int .i64 t, .int .i64 e0]) ∧ Below V.heap.size V w' := fun V FA fc hb hf => by
      have := of_any z someF FA fc dz Bz mz cz V (by decide) (hiz.below hb) hf (HTW.out.below (hbW1.trans (hb.mono hbW1.size)))
      rw [hte] at this; exact this
    have hcl : ∀ V, Below wc.heap.size wc V → V.cell? ⟨B, 0, none⟩ = some (.int .i64 dz.op) ∧ V.cell? ⟨B, 1, none⟩ = some (.int .i64 dz.k) ∧ V.cell? ⟨B, 2, none⟩ = some (.int .i64 dz.n) ∧ V.cell? ⟨B, 3, none⟩ = some (.string dz.s) ∧ V.cell? ⟨B, 4, none⟩ = some (.string dz.nm) ∧ V.cell? ⟨B, 5, none⟩ = some (.slice Bz mz cz) := fun V hV => (hbx.below hV).cells
    have G1 := Lib.hid g1
    have HCells := Lib.hid hcl
    have HBWc := Lib.hid (b_trans HBWA.out hbl1)
    have hbl := Below.refl wc.heap.size wc
    obtain ⟨k0, k1, k2, k3, k4, k5⟩ := hcl wc hbl
    rw [hte] at htz
    have HTZ := Lib.hid htz
    clear g1 hcl hbW1 hte htz hbl1 hiz hbx q0 q1 q2 q3 q4 q5 HY HPut HCells2
    go_wp2_with fail
    go_region_held3 (fun V => V.cell? ⟨B, 0, none⟩ = some (.int .i64 dz.op) ∧ V.cell? ⟨B, 1, none⟩ = some (.int .i64 dz.k) ∧ V.cell? ⟨B, 2, none⟩ = some (.int .i64 dz.n) ∧ V.cell? ⟨B, 3, none⟩ = some (.string dz.s) ∧ V.cell? ⟨B, 4, none⟩ = some (.string dz.nm) ∧ V.cell? ⟨B, 5, none⟩ = some (.slice Bz mz cz)) (first | (with_reducible exact HCells.out _ hbl) | (with_reducible exact HCells.out _ (b_drew hbl)))
      (first | (go_at_call 12; refine (some_any _).mono ?_; rintro e wn ⟨⟨FAv, fcv, rfl, hfl⟩, hbn⟩; have hbl : Below wc.heap.size wc wn := (by first | exact b_step hbl hbn | exact b_step (b_drew hbl) hbn)) | (go_at_call 6; (with_reducible refine (G1.out _ _ _ ?_ ?_).mono ?_); (first | exact hbl | exact b_drew hbl); (first | exact hfl | exact hfl.below (b_drew (Below.refl _ _))); rintro e wk ⟨rfl, hbk⟩; have hbl : Below wc.heap.size wc wk := (by first | exact b_step hbl hbk | exact b_step (b_drew hbl) hbk)))
    have HBE := Lib.hid (b_trans HBWc.out hbl)
    clear hbl hbk hfl hbn k0 k1 k2 k3 k4 k5
    by_cases hr0 : r = 0
    · subst hr0
      have e1 := HTZ.out (by first | rfl | trivial)
      simp only [Prod.mk.injEq] at e1
      obtain ⟨rfl, rfl⟩ := e1
      clear HTZ
      go_wp2_with fail
      go_ret
      exact ⟨by simp, HBE.out⟩
    · have t1 : (r == 0) = false := beq_eq_false_iff_ne.2 hr0
      clear HTZ
      go_wp2_with fail
      go_ret
      exact ⟨by simp, HBE.out⟩

theorem not_of {W : World} (h : laidMetH Tryd.prog Rows.typingMadeRow.laid W) : ExN.Tab W := by
  have h0 : laidMet Tryd.prog Rows.typingMadeRow.laid W := by rw [MakeChecks.laidMetH_plain _ _ _ (by kernel_rfl)] at h; exact h
  have h1 := h0
  exact NotTab.is_of_head (g := 0) (t := 77) (e := 76) (n := 19) (by kernel_rfl) (by kernel_rfl) Tryd.underlying77 (by kernel_rfl) Tryd.underlying76 (by kernel_rfl) rfl rfl rfl Tryd.underlying9 Tryd.underlying3 Tryd.underlying3 (by kernel_rfl) (by kernel_rfl) (by kernel_rfl) h1

/-! ### The row's step -/
set_option maxRecDepth 100000 in
theorem lifted (os : Os) (started : os.Started) (H : Type) (enc : TypeId × Value → H) :
    ReturnsInHanded {} Tryd.checked os 4 .any (fun w args => (Rows.typingMadeSpec.pre enc Tryd.prog Tryd.f4 [] false w args ∧ laidMetH Tryd.prog Rows.typingMadeRow.laid w) ∧ sizedMet enc Tryd.prog Tryd.f4 (OpenSpec.ofChange Rows.typingMadeSpec) false w args) (Rows.typingMadeSpec.post enc Tryd.prog Tryd.f4 false true false false) := by
  refine returnsInHanded_of_change_and (C := Tryd.checked) (X := fun w _ => laidMetH Tryd.prog Rows.typingMadeRow.laid w) (fun _ _ _ hh h => h.of_heap hh) own started (by kernel_rfl) Tryd.func4
    (ChangeSpec.witness_shaped (enc := enc) (C := Tryd.checked) (os := os) (X := fun w _ => laidMetH Tryd.prog Rows.typingMadeRow.laid w) false (World.laidAll Tryd.prog os Rows.typingMadeRow.laid) #[.slice none 0 0, .slice none 0 0, .int .i64 0] 8 (World.laidAll_os _ _ _) (World.shaped_of_ZipB (by kernel_rfl) (by kernel_rfl)) (by kernel_rfl) (by kernel_rfl) (by kernel_rfl) (by rw [MakeChecks.laidMetH_plain _ _ _ (by kernel_rfl)]; exact laidMet_laidAll _ (by kernel_rfl) (by kernel_rfl))) ?_
  intro W base args ds gs before hval0 hW hcnd hsz hL _
  have hval : ∀ (j : Nat) t v, Tryd.f4.params[j]? = some t → args[j]? = some v → Value.okWide Tryd.prog W .any base t v := hval0
  have hW' := hW
  obtain ⟨p, q, hA0, hV, rfl, hfz, hnd⟩ := hW
  have hA : DataW.TrodAll enc Tryd.prog W 0 (fun _ => true) true Tryd.f4.params.toList args.toList ds p := hA0
  rw [Tryd.params4] at hA hval
  obtain ⟨v0, vs0, d0, ds0, p0, q0, hargs, rfl, rfl, h0, r0⟩ := trodAll_cons hA
  obtain ⟨v1, vs1, d1, ds1, p1, q1, rfl, rfl, rfl, h1, r1⟩ := trodAll_cons r0
  obtain ⟨v2, vs2, d2, ds2, p2, q2, rfl, rfl, rfl, h2, r2⟩ := trodAll_cons r1
  obtain ⟨rfl, rfl, rfl⟩ := trodAll_nil r2
  obtain rfl : args = #[v0, v1, v2] := by cases args; simp_all
  obtain ⟨rfl, rfl⟩ := trodVars_none hV
  have k0 := h0
  have lt0 : ∀ x ∈ p0, x.block < W.heap.size := by obtain ⟨m, hm⟩ := k0; exact DataW.trod_lt m _ _ _ hm
  obtain ⟨A0, n0, c0, rfl, hraw0⟩ := RawO.open_raws (hval 0 33 v0 rfl rfl) h0
  have k1 := h1
  have lt1 : ∀ x ∈ p1, x.block < W.heap.size := by obtain ⟨m, hm⟩ := k1; exact DataW.trod_lt m _ _ _ hm
  obtain ⟨A1, n1, c1, rfl, hraw1⟩ := RawO.open_raws (hval 1 33 v1 rfl rfl) h1
  have k2 := h2
  have lt2 : ∀ x ∈ p2, x.block < W.heap.size := by obtain ⟨m, hm⟩ := k2; exact DataW.trod_lt m _ _ _ hm
  obtain ⟨a2, rfl, rfl, rfl, w2⟩ := open_int Tryd.underlying3 (hval 2 3 v2 rfl rfl) h2
  clear hA0 hval0
  refine (walk A0 n0 c0 A1 n1 c1 a2 w2 W hraw0 hraw1 (not_of hL)).mono fun e W' ⟨he, bel⟩ => ?_
  subst he
  exact ⟨_, rfl, _, _, _, [], _, [], hW', trodAll_mk1 (shut_bool Tryd.underlying4 _), (trodAll_cons_mk (Below.trod laidOut (by kernel_rfl) (of_decide_eq_true (by kernel_rfl)) k0 bel lt0) (trodAll_cons_mk (Below.trod laidOut (by kernel_rfl) (of_decide_eq_true (by kernel_rfl)) k1 bel lt1) (trodAll_cons_mk (Below.trod laidOut (by kernel_rfl) (of_decide_eq_true (by kernel_rfl)) k2 bel lt2) trodAll_mk0))), rfl, bel.frame _, fun h => by cases h⟩

theorem over : Rows.typingMadeRow.holds Tryd.pinned (OpenSpec.ofChange Rows.typingMadeSpec) :=
  OpenClaim.holds_of_wide 4 Tryd.f4 rfl rfl rfl rfl rfl rfl rfl ⟨rfl, rfl, rfl, rfl, rfl⟩ rfl rfl rfl rfl rfl (by kernel_rfl) Tryd.func4 (by kernel_rfl)
    (of_decide_eq_true (by kernel_rfl)) (by unfold Func.isWrapper; first | (rw [if_pos (by decide +kernel)]; kernel_rfl) | (rw [if_neg (by decide +kernel)]; exact ⟨rfl, rfl⟩))
    (fun os started H enc _ => lifted os started H enc)

/-- The tied card. -/
theorem proved : Rows.TypingMadeCardSaid :=
  Claim7.holds_tied_plain_at .later [] [.data] true (true, "d2311ff168048ed70af53b3e679d2f9d22ebf15cdeb8e10b114889f6a41fcbdf") false
    over (fun _ h => by cases h) (by kernel_rfl) (fun _ h => by cases h) typingMade_row_tie rfl ⟨rfl, rfl⟩ (by kernel_rfl) rfl
    (fun f fn hf hfn => by
      obtain rfl : f = 4 := Option.some.inj ((show Tryd.prog.funcNamed "lychway/lychwaykeep.TypingMade" = some 4 by kernel_rfl).symm.trans hf) |>.symm
      obtain rfl : fn = Tryd.f4 := (Option.some.inj (Tryd.func4.symm.trans hfn)).symm
      exact ⟨by kernel_rfl, fun j t ht => by
        rw [Tryd.params4] at ht
        have hm : t ∈ [33, 33, 3] := by simpa using Array.mem_of_getElem? ht
        have hall : ([33, 33, 3].all fun u => !Tryd.prog.wantsStandIn u) = true := by kernel_rfl
        exact (show Tryd.prog.wantsStandIn t = false by simpa using List.all_eq_true.1 hall t hm)⟩)
    (by kernel_rfl)
#print axioms proved
end Go.Proofs.YtjkeafeipkjdaaaDoor.typingMade
