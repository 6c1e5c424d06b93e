/- What is proved: the Go law lychwaykeep.TypingSound returns true for all its arguments, and leaves them as they were. No condition. -/
import Derived.Test.YtbdofaaemgckiaaDoorRows
import Derived.Test.YtbdofaaemgckiaaDoorTyGen
import Derived.Test.YtbdofaaemgckiaaDoorEvKit
import Derived.Test.YtbdofaaemgckiaaDoorRawOpen
import Derived.Test.YtbdofaaemgckiaaDoorKit
import Derived.WalkKit
import Derived.ProofKit
import Derived.OpenShut
import Derived.Deep.RegionHeld3
import Derived.Deep.DrawnRows
import Derived.Deep.DeepCutAuto
import Derived.Deep.QuietTactic
import Derived.BigQuiet
import Derived.WalkSpells
import Derived.WalkLawsBesides
import Derived.Lib.Hide
import Derived.Outline
import Derived.ShutString
import Derived.ChangeOld
import Derived.Below
import Derived.LaidMore
import Derived.SizedLaws
import Derived.Stop.Joined
import Derived.Stop.LaidErr
import Derived.Lib.LaidTab
import Derived.SevenTiedAt
import Derived.Lay
import Derived.LaidOnce
import Derived.Deep.DeepHandedRow
import Derived.Test.YtbdofaaemgckiaaDoorCards
import Derived.Test.YtbdofaaemgckiaaDoorTie
namespace Go.Proofs.YtbdofaaemgckiaaDoor.typingSound
open ValM ExM NmM TyM EvM EvP Kit ExL ExP ExN ExV RawL RawV Within GenL Gen GenE GenT NmC NmP NmG TyM Ty TyT TyO TyG EvC EvO EvF EvG EvE EvK
open Go.ChangeShapes Go.WideShapes Go.ChangeAt Go.RowKit
open Go.ChangeMaps (open_string shut_string)
set_option linter.unusedVariables false

theorem own : ownKnob Tryd.prog.godebug = none := by kernel_rfl
theorem laidOut : laidOutB Tryd.prog = true := by kernel_rfl


/-! ### The walk -/
theorem bvz_at (W : World) : EvO.BV (W.alloc (.cells #[.int .i64 0, .int .i64 0, .string ⟨#[]⟩] 23)) W.heap.size 0 0 ⟨#[]⟩ := World.alloc_heap_new W _
theorem bvz_keep {W W' : World} {b : Nat} {k n : Int} {s : ByteArray} (h : EvO.BV W b k n s) (hb : Below W.heap.size W W') : EvO.BV W' b k n s := h.below hb
theorem some_le : ∀ s t, TyM.fieldT (Ty.fts GenT.someF) s = (t, 0) → 1 ≤ t ∧ t ≤ 3 := fun s t h => by
  have key : ∀ (l : List (ByteArray × Int)), (∀ f ∈ l, 1 ≤ f.2 ∧ f.2 ≤ 3) → TyM.fieldT l s = (t, 0) → 1 ≤ t ∧ t ≤ 3 := by
    intro l
    induction l with
    | nil => intro _ h; injection h with _ h; exact absurd h (by decide)
    | cons f l ih =>
      intro hl h
      rw [TyM.fieldT] at h
      by_cases e : f.1 = s
      · rw [if_pos e] at h; injection h with h _; rw [← h]; exact hl f (by simp)
      · rw [if_neg e] at h; exact ih (fun g hg => hl g (by simp [hg])) h
  exact key _ (by decide) h
theorem typed_of {vs : List EvF.Fc} (h : EvK.Fits5 vs) : EvP.Typed (Ty.fts GenT.someF) (EvF.fcs vs) := fun s t ht => by
  have key : ∀ (l : List GenL.Fd) (ws : List EvF.Fc), l.length = ws.length → (∀ (i : Nat) (h1 : i < l.length) (h2 : i < ws.length), ws[i].nm = l[i].nm ∧ ws[i].v.k = l[i].ty ∧ ws[i].v.ok) → TyM.fieldT (Ty.fts l) s = (t, 0) → EvP.Snd t (EvM.factV (EvF.fcs ws) s) := by
    intro l
    induction l with
    | nil => intro ws _ _ h; injection h with _ h; exact absurd h (by decide)
    | cons f l ih =>
      intro ws hl hw h
      match ws, hl with
      | u :: ws, hl =>
        have h0 := hw 0 (by simp) (by simp)
        simp only [List.getElem_cons_zero] at h0
        show EvP.Snd t (if u.nm = s then u.v else EvM.factV (EvF.fcs ws) s)
        have h : (if f.nm = s then (f.ty, 0) else TyM.fieldT (Ty.fts l) s) = (t, 0) := h
        by_cases e : f.nm = s
        · rw [if_pos e] at h; injection h with h _
          rw [if_pos (by rw [h0.1]; exact e)]
          exact ⟨h0.2.2, .inl (by rw [h0.2.1, h])⟩
        · rw [if_neg e] at h
          rw [if_neg (by rw [h0.1]; exact e)]
          exact ih ws (by simpa using hl) (fun i h1 h2 => hw (i + 1) (by simpa using h1) (by simpa using h2)) h
  refine key GenT.someF vs (by rw [h.1]; rfl) (fun i h1 h2 => ?_) ht
  have g := h.2 i h2 h1
  exact ⟨g.1, g.2.2.2.2.1.trans (EvK.some_vK i h1).1, EvM.known_ok g.2.2.2.2.2⟩
set_option maxRecDepth 100000 in
set_option maxHeartbeats 2000000 in
theorem walk (A0 : Option Addr) (n0 : Nat) (c0 : Nat) (A1 : Option Addr) (n1 : Nat) (c1 : Nat) (a2 : Int) (w2 : (Lit.int .i64 a2).wf = true) (w : World) (hraw0 : RawL.Raws w A0 n0 c0) (hraw1 : RawL.Raws w A1 n1 c1) (ht : ExN.Tab w) :
    Calls Tryd.prog 4 #[.slice A0 n0 c0, .slice A1 n1 c1, .int .i64 a2] w fun e w' => e = .returned (.bool true) ∧ Below w.heap.size w w' := by
  obtain ⟨pk, hpk⟩ : ∃ p, pick a2 3 = p := ⟨_, rfl⟩
  have hpb := pick_bd a2 3 (by decide)
  have hp := fun W => picked_any a2 3 W w2 (by decide) (by decide)
  rw [hpk] at hp hpb
  obtain ⟨pb0, pb1⟩ := hpb
  have HP := Lib.hid hp
  have HT := Lib.hid ht
  have HR0 := Lib.hid hraw0
  have HR1 := Lib.hid hraw1
  clear hp hpk ht hraw0 hraw1 w2
  have hmk : ∀ W FA fc, Raws W A0 n0 c0 → Flds W FA someF → Calls Tryd.prog 14 #[.slice A0 n0 c0, .int .i64 (1 + pk), .slice FA 5 fc] W (ExprOut someF (1 + pk) W) := fun W FA fc hr hf => make_any n0 c0 fc A0 FA someF (1 + pk) W hr hf (by decide) someF_sz
  have HMk := Lib.hid hmk
  clear hmk
  go_enter Tryd.func4, Tryd.ntmps4
  go_wp2_with fail
  refine (HP.out _).mono ?_; rintro e w9 ⟨rfl, rfl⟩
  go_wp2_with fail
  refine (someX_any _).mono ?_; rintro e w1 ⟨⟨rfl, hfl⟩, hb1⟩
  have hr1 : Raws w1 A0 n0 c0 := HR0.out.keep fun p v0 v1 v2 h0 h2 => hb1.block _ (cell_lt' h0)
  have HC := Lib.hid (HMk.out w1 _ 5 hr1 hfl)
  have HB1 := Lib.hid hb1
  clear hr1 hfl hb1
  go_wp2_with fail
  refine HC.out.mono ?_; rintro e w2 ⟨x, dx, Bx, mx, cx, rfl, hgx, hisx, hb2⟩
  obtain ⟨hckx, hx40, _, hokx⟩ := gn_check someF_nm hgx
  have hix := hisx.is
  have hbA : Below w.heap.size w (w2.alloc (.cells #[.int .i64 dx.op, .int .i64 dx.k, .int .i64 dx.n, .string dx.s, .string dx.nm, .slice Bx mx cx] 26)) := b_more (b_trans HB1.out hb2) _
  have z1 := Box.new w2 dx Bx mx cx
  have j1 := hix.below (b_new w2 (.cells #[.int .i64 dx.op, .int .i64 dx.k, .int .i64 dx.n, .string dx.s, .string dx.nm, .slice Bx mx cx] 26))
  obtain ⟨W, hW⟩ : ∃ W, w2.alloc (.cells #[.int .i64 dx.op, .int .i64 dx.k, .int .i64 dx.n, .string dx.s, .string dx.nm, .slice Bx mx cx] 26) = W := ⟨_, rfl⟩
  rw [hW] at hbA z1 j1
  have hfa := fun V (hV : Below W.heap.size W V) => facts_any n1 c1 A1 V (HR1.out.keep fun p v0 v1 v2 h0 h2 => (b_trans hbA hV).block _ (cell_lt' h0))
  have htx := gn_ty some_ty 3 (1 + pk) x (by omega) (by omega) hgx
  have hT := HT.out.below hbA
  have hof : ∀ V (vs : List Fc) (g cap : Nat), Below W.heap.size W V → Fits5 vs → Fcs V (some ⟨g, 0, none⟩) vs → Calls Tryd.prog 11 #[.agg #[.int .i64 dx.op, .int .i64 dx.k, .int .i64 dx.n, .string dx.s, .string dx.nm, .slice Bx mx cx], .slice (some ⟨g, 0, none⟩) 5 cap] V fun e w' => ∃ (vk vn : Int) (vz : ByteArray), e = .returned (.tuple #[.agg #[.int .i64 vk, .int .i64 vn, .string vz], .int .i64 0]) ∧ Snd (1 + pk) ⟨vk, vn, vz⟩ ∧ Below V.heap.size V w' := fun V vs g cap hV hfit hrow => by
    have := of_good x vs (some ⟨g, 0, none⟩) cap dx Bx mx cx V (by rw [hfit.1]; decide) hfit.names (j1.below hV) hrow (hT.below hV) hckx hfit.ok
    rw [hfit.1] at this
    exact this.mono fun e w' h => ⟨_, _, _, h.1, ev_snd some_le (typed_of hfit) x (1 + pk) hokx htx, h.2⟩
  have hty : ∀ q : Int, fitsT (fts someF) x q = if 1 + pk = q then 0 else 9 := fun q => by
    unfold fitsT
    rw [ofT_ty hckx, htx]; simp
  have hfi : ∀ (q : Int) V (FA : Option Addr) (fc : Nat), Below W.heap.size W V → Flds V FA someF → Calls Tryd.prog 17 #[.agg #[.int .i64 dx.op, .int .i64 dx.k, .int .i64 dx.n, .string dx.s, .string dx.nm, .slice Bx mx cx], .slice FA 5 fc, .int .i64 q] V fun e w' => e = .returned (.int .i64 (if 1 + pk = q then 0 else 9)) ∧ Below V.heap.size V w' := fun q V FA fc hb hf => by
    have := fits_any x someF FA fc q dx Bx mx cx V (by decide) (j1.below hb) hf (hT.below hb)
    rw [hty] at this; exact this
  have hcl : ∀ V, Below W.heap.size W V → V.cell? ⟨w2.heap.size, 0, none⟩ = some (.int .i64 dx.op) ∧ V.cell? ⟨w2.heap.size, 1, none⟩ = some (.int .i64 dx.k) ∧ V.cell? ⟨w2.heap.size, 2, none⟩ = some (.int .i64 dx.n) ∧ V.cell? ⟨w2.heap.size, 3, none⟩ = some (.string dx.s) ∧ V.cell? ⟨w2.heap.size, 4, none⟩ = some (.string dx.nm) ∧ V.cell? ⟨w2.heap.size, 5, none⟩ = some (.slice Bx mx cx) := fun V hV => (z1.below hV).cells
  have hset : ∀ (U : World) (B : Nat) (u0 u1 u2 : Value), Below W.heap.size W U → W.heap.size ≤ B → ∀ V, V = ((U.setCell ⟨B, 0, none⟩ u0).setCell ⟨B, 1, none⟩ u1).setCell ⟨B, 2, none⟩ u2 → V.cell? ⟨w2.heap.size, 0, none⟩ = some (.int .i64 dx.op) ∧ V.cell? ⟨w2.heap.size, 1, none⟩ = some (.int .i64 dx.k) ∧ V.cell? ⟨w2.heap.size, 2, none⟩ = some (.int .i64 dx.n) ∧ V.cell? ⟨w2.heap.size, 3, none⟩ = some (.string dx.s) ∧ V.cell? ⟨w2.heap.size, 4, none⟩ = some (.string dx.nm) ∧ V.cell? ⟨w2.heap.size, 5, none⟩ = some (.slice Bx mx cx) := fun U B u0 u1 u2 hU hB V hV => by
    subst hV
    exact (z1.below (b_set3' hU B hB 0 1 2 u0 u1 u2)).cells
  have HFa := Lib.hid hfa
  have HOf := Lib.hid hof
  have HFi := Lib.hid hfi
  have HCells := Lib.hid hcl
  have HSet := Lib.hid hset
  have HBA := Lib.hid hbA
  have HW := Lib.hid hW
  have hbl := Below.refl W.heap.size W
  have sw : W.heap.size ≤ W.heap.size := Nat.le_refl _
  obtain ⟨q0, q1, q2, q3, q4, q5⟩ := hcl W hbl
  clear hfa htx hT hof hty hfi hcl hset hW z1 j1 hbA hix hisx hgx hckx hokx hx40 hb2 HC HB1 HMk HR0 HR1 HT
  go_upto_region 3 with fail
  rw [HW.out]
  go_cut [8, 9] (fun s8 s9 wx => ∃ (B : Nat) (vk vn : Int) (vz : ByteArray), s8 = .pointer (some ⟨B, 0, none⟩) ∧ s9 = .int .i64 0 ∧ BV wx B vk vn vz ∧ Snd (1 + pk) ⟨vk, vn, vz⟩ ∧ Below W.heap.size W wx)
  case first =>
    go_region_held3 (fun V => V.cell? ⟨w2.heap.size, 0, none⟩ = some (.int .i64 dx.op) ∧ V.cell? ⟨w2.heap.size, 1, none⟩ = some (.int .i64 dx.k) ∧ V.cell? ⟨w2.heap.size, 2, none⟩ = some (.int .i64 dx.n) ∧ V.cell? ⟨w2.heap.size, 3, none⟩ = some (.string dx.s) ∧ V.cell? ⟨w2.heap.size, 4, none⟩ = some (.string dx.nm) ∧ V.cell? ⟨w2.heap.size, 5, none⟩ = some (.slice Bx mx cx)) (first | (with_reducible exact HCells.out _ hbl) | (with_reducible exact HCells.out _ (b_drew hbl)) | (with_reducible exact HCells.out _ (b_more hbl _)) | (with_reducible exact HCells.out _ (b_more (b_drew hbl) _)) | (with_reducible exact HCells.out _ (b_drew (b_more hbl _))) | (with_reducible exact HSet.out _ _ _ _ _ hbl (by first | exact Nat.le_refl _ | exact sn | exact sk) _ rfl))
      (first | (go_at_call 16; (with_reducible refine (HFa.out _ ?_).mono ?_); (first | exact hbl | exact b_drew hbl | exact b_more hbl _ | exact b_more (b_drew hbl) _ | exact b_drew (b_more hbl _)); rintro e wn ⟨vs, g1, cap1, rfl, hl1, ok1, hg1, ⟨rest1, hrow1⟩, hbn⟩; have hbl : Below W.heap.size W wn := (by first | exact TyO.b_step hbl hbn | exact TyO.b_step (b_drew hbl) hbn | exact TyO.b_step (b_more hbl _) hbn | exact TyO.b_step (b_more (b_drew hbl) _) hbn | exact TyO.b_step (b_drew (b_more hbl _)) hbn); have sn := hbl.size; have hfit : Fits5 vs := ⟨hl1, ok1⟩; have hfc : Fcs wn (some ⟨g1, 0, none⟩) vs := fcs_of hrow1; (first | (have bx : BV wn W.heap.size 0 0 ⟨#[]⟩ := bvz_keep (by first | exact bvz_at W | exact bvz_at W.drew) hbn) | skip)) | (go_at_call 11; (with_reducible refine (HOf.out _ _ _ _ ?_ hfit ?_).mono ?_); (first | exact hbl | exact b_drew hbl | exact b_more hbl _ | exact b_more (b_drew hbl) _ | exact b_drew (b_more hbl _)); (first | exact hfc.below (Below.refl _ _) | exact hfc.below (b_drew (Below.refl _ _)) | exact hfc.below (b_new _ _) | exact hfc.below (b_more (b_drew (Below.refl _ _)) _) | exact hfc.below (b_drew (b_new _ _))); rintro e wk ⟨vk, vn, vz, rfl, hsn, hbk⟩; have hbl : Below W.heap.size W wk := (by first | exact TyO.b_step hbl hbk | exact TyO.b_step (b_drew hbl) hbk | exact TyO.b_step (b_more hbl _) hbk | exact TyO.b_step (b_more (b_drew hbl) _) hbk | exact TyO.b_step (b_drew (b_more hbl _)) hbk); have sk := hbl.size; (first | (have bx : BV wk W.heap.size 0 0 ⟨#[]⟩ := bvz_keep (bvz_keep bx (by first | exact (Below.refl _ _) | exact (b_drew (Below.refl _ _)) | exact (b_new _ _) | exact (b_more (b_drew (Below.refl _ _)) _) | exact (b_drew (b_new _ _)))) hbk) | (have bx : BV wk wn.heap.size 0 0 ⟨#[]⟩ := bvz_keep (by first | exact bvz_at wn | exact bvz_at wn.drew) hbk) | skip); (first | (obtain ⟨x0, x1, x2⟩ := bx.cells; have xf := bx.frozen; have xl := bx.lt) | skip)))
    all_goals (go_wp2_with fail; go_meet)
    all_goals (first | (with_reducible exact ⟨_, vk, vn, vz, rfl, rfl, bx.set3 vk vn vz, hsn, b_set3' hbl _ (by first | exact Nat.le_refl _ | exact sn | exact sk) 0 1 2 _ _ _⟩) | (with_reducible exact ⟨_, vk, vn, vz, rfl, rfl, BV.new wk vk vn vz, hsn, b_more hbl _⟩))
  case rest =>
    obtain ⟨B, vk, vn, vz, rfl, rfl, hbx, hsn, hb⟩ := hcut
    have hcl2 := fun V (hV : Below wc.heap.size wc V) => HCells.out V (hb.trans (hV.mono hb.size))
    have hf1 : ∀ V FA fc, Below wc.heap.size wc V → Flds V FA someF → Calls Tryd.prog 17 #[.agg #[.int .i64 dx.op, .int .i64 dx.k, .int .i64 dx.n, .string dx.s, .string dx.nm, .slice Bx mx cx], .slice FA 5 fc, .int .i64 (1 + pk)] V fun e w' => e = .returned (.int .i64 0) ∧ Below V.heap.size V w' := fun V FA fc hV hf => by
      have := HFi.out (1 + pk) V FA fc (hb.trans (hV.mono hb.size)) hf
      rw [if_pos rfl] at this; exact this
    have hf2 : ∀ (q : Int), 1 + pk ≠ q → ∀ V FA fc, Below wc.heap.size wc V → Flds V FA someF → Calls Tryd.prog 17 #[.agg #[.int .i64 dx.op, .int .i64 dx.k, .int .i64 dx.n, .string dx.s, .string dx.nm, .slice Bx mx cx], .slice FA 5 fc, .int .i64 q] V fun e w' => e = .returned (.int .i64 9) ∧ Below V.heap.size V w' := fun q hq V FA fc hV hf => by
      have := HFi.out q V FA fc (hb.trans (hV.mono hb.size)) hf
      rw [if_neg hq] at this; exact this
    obtain ⟨K, hK⟩ : ∃ K, 1 + pk = K := ⟨_, rfl⟩
    rw [hK] at hf1 hf2 hsn ⊢
    have hK3 : K = 1 ∨ K = 2 ∨ K = 3 := by omega
    obtain ⟨q0, q1, q2, q3, q4, q5⟩ := hcl2 wc (Below.refl _ _)
    have HC2 := Lib.hid hcl2
    have HB := Lib.hid (b_trans HBA.out hb)
    have HF1 := Lib.hid hf1
    have HX := Lib.hid hbx
    have hbl := Below.refl wc.heap.size wc
    have hkn : vk ≠ 4 → vk ≠ 5 → knownB vk vn vz.data.toList = true := fun h1 h2 => ok_known hsn.1 h1 h2
    have hvn : vk = K ∨ (vk = 5 ∧ (vn = 7 ∨ vn = 8 ∨ vn = 1)) := hsn.2
    have hval : ∀ V, Calls Tryd.prog 18 #[.agg #[.int .i64 vk, .int .i64 vn, .string vz]] V fun e w' => e = .returned (.bool (knownB vk vn vz.data.toList)) ∧ Below V.heap.size V w' := fun V => Val.known_any vk vn vz V
    have HKn := Lib.hid hkn
    have HVn := Lib.hid hvn
    have HVal := Lib.hid hval
    clear hcl2 hf1 hK hsn hb hbx hkn hvn hval HCells HSet HOf HFa HFi HBA q0 q1 q2 q3 q4 q5 pb0 pb1
    rcases hK3 with rfl | rfl | rfl
    · have HF2 := Lib.hid (hf2 2 (by decide))
      have wq : IntKind.i64.wrap 2 = 2 := IntWalk.i64_in _ (by omega)
      clear hf2
      obtain ⟨q0, q1, q2, q3, q4, q5⟩ := HC2.out wc hbl
      go_wp2_with fail
      go_region_held3 (fun V => V.cell? ⟨w2.heap.size, 0, none⟩ = some (.int .i64 dx.op) ∧ V.cell? ⟨w2.heap.size, 1, none⟩ = some (.int .i64 dx.k) ∧ V.cell? ⟨w2.heap.size, 2, none⟩ = some (.int .i64 dx.n) ∧ V.cell? ⟨w2.heap.size, 3, none⟩ = some (.string dx.s) ∧ V.cell? ⟨w2.heap.size, 4, none⟩ = some (.string dx.nm) ∧ V.cell? ⟨w2.heap.size, 5, none⟩ = some (.slice Bx mx cx)) (first | (with_reducible exact HC2.out _ hbl) | (with_reducible exact HC2.out _ (b_drew hbl)))
        (first | (go_at_call 15; refine (someX_any _).mono ?_; rintro e wn ⟨⟨rfl, hfl⟩, hbn⟩; have hbl : Below wc.heap.size wc wn := (by (first | (exact TyO.b_step hbl hbn) | (exact TyO.b_step (b_drew hbl) hbn)))) | (go_at_call 17; (with_reducible refine (HF1.out _ _ _ ?_ ?_).mono ?_); (first | exact hbl | exact b_drew hbl); (first | exact hfl | exact hfl.below (b_drew (Below.refl _ _))); rintro e wk ⟨rfl, hbk⟩; have hbl : Below wc.heap.size wc wk := (by (first | (exact TyO.b_step hbl hbk) | (exact TyO.b_step (b_drew hbl) hbk)))) | (go_at_call 17; (with_reducible refine (HF2.out _ _ _ ?_ ?_).mono ?_); (first | exact hbl | exact b_drew hbl); (first | exact hfl | exact hfl.below (b_drew (Below.refl _ _))); rintro e wk ⟨rfl, hbk⟩; have hbl : Below wc.heap.size wc wk := (by (first | (exact TyO.b_step hbl hbk) | (exact TyO.b_step (b_drew hbl) hbk)))))
      have hbl2 := hbl
      have HBW := Lib.hid hbl2
      obtain ⟨x0, x1, x2⟩ := (HX.out.below hbl2).cells
      have xl := (HX.out.below hbl2).lt
      clear hbl2
      rcases HVn.out with rfl | ⟨rfl, hn⟩
      · have hk := HKn.out (by decide) (by decide)
        have hvl := fun V => HVal.out V
        rw [hk] at hvl
        have HVl := Lib.hid hvl
        clear hvl hk
        go_wp2_with fail
        refine (HVl.out _).mono ?_; rintro e wz ⟨rfl, hbz⟩
        have HBE := Lib.hid (b_trans HB.out (b_trans HBW.out hbz))
        clear hbz
        go_wp2_with fail
        go_ret
        exact ⟨by simp, HBE.out⟩
      · rcases hn with rfl | rfl | rfl
        all_goals (go_wp2_with fail; go_ret; exact ⟨by simp, b_trans HB.out HBW.out⟩)
    · have HF2 := Lib.hid (hf2 3 (by decide))
      have wq : IntKind.i64.wrap 3 = 3 := IntWalk.i64_in _ (by omega)
      clear hf2
      obtain ⟨q0, q1, q2, q3, q4, q5⟩ := HC2.out wc hbl
      go_wp2_with fail
      go_region_held3 (fun V => V.cell? ⟨w2.heap.size, 0, none⟩ = some (.int .i64 dx.op) ∧ V.cell? ⟨w2.heap.size, 1, none⟩ = some (.int .i64 dx.k) ∧ V.cell? ⟨w2.heap.size, 2, none⟩ = some (.int .i64 dx.n) ∧ V.cell? ⟨w2.heap.size, 3, none⟩ = some (.string dx.s) ∧ V.cell? ⟨w2.heap.size, 4, none⟩ = some (.string dx.nm) ∧ V.cell? ⟨w2.heap.size, 5, none⟩ = some (.slice Bx mx cx)) (first | (with_reducible exact HC2.out _ hbl) | (with_reducible exact HC2.out _ (b_drew hbl)))
        (first | (go_at_call 15; refine (someX_any _).mono ?_; rintro e wn ⟨⟨rfl, hfl⟩, hbn⟩; have hbl : Below wc.heap.size wc wn := (by (first | (exact TyO.b_step hbl hbn) | (exact TyO.b_step (b_drew hbl) hbn)))) | (go_at_call 17; (with_reducible refine (HF1.out _ _ _ ?_ ?_).mono ?_); (first | exact hbl | exact b_drew hbl); (first | exact hfl | exact hfl.below (b_drew (Below.refl _ _))); rintro e wk ⟨rfl, hbk⟩; have hbl : Below wc.heap.size wc wk := (by (first | (exact TyO.b_step hbl hbk) | (exact TyO.b_step (b_drew hbl) hbk)))) | (go_at_call 17; (with_reducible refine (HF2.out _ _ _ ?_ ?_).mono ?_); (first | exact hbl | exact b_drew hbl); (first | exact hfl | exact hfl.below (b_drew (Below.refl _ _))); rintro e wk ⟨rfl, hbk⟩; have hbl : Below wc.heap.size wc wk := (by (first | (exact TyO.b_step hbl hbk) | (exact TyO.b_step (b_drew hbl) hbk)))))
      have hbl2 := hbl
      have HBW := Lib.hid hbl2
      obtain ⟨x0, x1, x2⟩ := (HX.out.below hbl2).cells
      have xl := (HX.out.below hbl2).lt
      clear hbl2
      rcases HVn.out with rfl | ⟨rfl, hn⟩
      · have hk := HKn.out (by decide) (by decide)
        have hvl := fun V => HVal.out V
        rw [hk] at hvl
        have HVl := Lib.hid hvl
        clear hvl hk
        go_wp2_with fail
        refine (HVl.out _).mono ?_; rintro e wz ⟨rfl, hbz⟩
        have HBE := Lib.hid (b_trans HB.out (b_trans HBW.out hbz))
        clear hbz
        go_wp2_with fail
        go_ret
        exact ⟨by simp, HBE.out⟩
      · rcases hn with rfl | rfl | rfl
        all_goals (go_wp2_with fail; go_ret; exact ⟨by simp, b_trans HB.out HBW.out⟩)
    · have HF2 := Lib.hid (hf2 1 (by decide))
      have wq : IntKind.i64.wrap 1 = 1 := IntWalk.i64_in _ (by omega)
      clear hf2
      obtain ⟨q0, q1, q2, q3, q4, q5⟩ := HC2.out wc hbl
      go_wp2_with fail
      go_region_held3 (fun V => V.cell? ⟨w2.heap.size, 0, none⟩ = some (.int .i64 dx.op) ∧ V.cell? ⟨w2.heap.size, 1, none⟩ = some (.int .i64 dx.k) ∧ V.cell? ⟨w2.heap.size, 2, none⟩ = some (.int .i64 dx.n) ∧ V.cell? ⟨w2.heap.size, 3, none⟩ = some (.string dx.s) ∧ V.cell? ⟨w2.heap.size, 4, none⟩ = some (.string dx.nm) ∧ V.cell? ⟨w2.heap.size, 5, none⟩ = some (.slice Bx mx cx)) (first | (with_reducible exact HC2.out _ hbl) | (with_reducible exact HC2.out _ (b_drew hbl)))
        (first | (go_at_call 15; refine (someX_any _).mono ?_; rintro e wn ⟨⟨rfl, hfl⟩, hbn⟩; have hbl : Below wc.heap.size wc wn := (by (first | (exact TyO.b_step hbl hbn) | (exact TyO.b_step (b_drew hbl) hbn)))) | (go_at_call 17; (with_reducible refine (HF1.out _ _ _ ?_ ?_).mono ?_); (first | exact hbl | exact b_drew hbl); (first | exact hfl | exact hfl.below (b_drew (Below.refl _ _))); rintro e wk ⟨rfl, hbk⟩; have hbl : Below wc.heap.size wc wk := (by (first | (exact TyO.b_step hbl hbk) | (exact TyO.b_step (b_drew hbl) hbk)))) | (go_at_call 17; (with_reducible refine (HF2.out _ _ _ ?_ ?_).mono ?_); (first | exact hbl | exact b_drew hbl); (first | exact hfl | exact hfl.below (b_drew (Below.refl _ _))); rintro e wk ⟨rfl, hbk⟩; have hbl : Below wc.heap.size wc wk := (by (first | (exact TyO.b_step hbl hbk) | (exact TyO.b_step (b_drew hbl) hbk)))))
      have hbl2 := hbl
      have HBW := Lib.hid hbl2
      obtain ⟨x0, x1, x2⟩ := (HX.out.below hbl2).cells
      have xl := (HX.out.below hbl2).lt
      clear hbl2
      rcases HVn.out with rfl | ⟨rfl, hn⟩
      · have hk := HKn.out (by decide) (by decide)
        have hvl := fun V => HVal.out V
        rw [hk] at hvl
        have HVl := Lib.hid hvl
        clear hvl hk
        go_wp2_with fail
        refine (HVl.out _).mono ?_; rintro e wz ⟨rfl, hbz⟩
        have HBE := Lib.hid (b_trans HB.out (b_trans HBW.out hbz))
        clear hbz
        go_wp2_with fail
        go_ret
        exact ⟨by simp, HBE.out⟩
      · rcases hn with rfl | rfl | rfl
        all_goals (go_wp2_with fail; go_ret; exact ⟨by simp, b_trans HB.out HBW.out⟩)

theorem not_of {W : World} (h : laidMetH Tryd.prog Rows.typingSoundRow.laid W) : ExN.Tab W := by
  have h0 : laidMet Tryd.prog Rows.typingSoundRow.laid W := by rw [MakeChecks.laidMetH_plain _ _ _ (by kernel_rfl)] at h; exact h
  have h1 := h0
  exact NotTab.is_of_head (g := 0) (t := 113) (e := 112) (n := 19) (by kernel_rfl) (by kernel_rfl) Tryd.underlying113 (by kernel_rfl) Tryd.underlying112 (by kernel_rfl) rfl rfl rfl Tryd.underlying9 Tryd.underlying3 Tryd.underlying3 (by kernel_rfl) (by kernel_rfl) (by kernel_rfl) h1

/-! ### The row's step -/
set_option maxRecDepth 100000 in
theorem lifted (os : Os) (started : os.Started) (H : Type) (enc : TypeId × Value → H) :
    ReturnsInHanded {} Tryd.checked os 4 .any (fun w args => (Rows.typingSoundSpec.pre enc Tryd.prog Tryd.f4 [] false w args ∧ laidMetH Tryd.prog Rows.typingSoundRow.laid w) ∧ sizedMet enc Tryd.prog Tryd.f4 (OpenSpec.ofChange Rows.typingSoundSpec) false w args) (Rows.typingSoundSpec.post enc Tryd.prog Tryd.f4 false true false false) := by
  refine returnsInHanded_of_change_and (C := Tryd.checked) (X := fun w _ => laidMetH Tryd.prog Rows.typingSoundRow.laid w) (fun _ _ _ hh h => h.of_heap hh) own started (by kernel_rfl) Tryd.func4
    (ChangeSpec.witness_shaped (enc := enc) (C := Tryd.checked) (os := os) (X := fun w _ => laidMetH Tryd.prog Rows.typingSoundRow.laid w) false (World.laidAll Tryd.prog os Rows.typingSoundRow.laid) #[.slice none 0 0, .slice none 0 0, .int .i64 0] 8 (World.laidAll_os _ _ _) (World.shaped_of_ZipB (by kernel_rfl) (by kernel_rfl)) (by kernel_rfl) (by kernel_rfl) (by kernel_rfl) (by rw [MakeChecks.laidMetH_plain _ _ _ (by kernel_rfl)]; exact laidMet_laidAll _ (by kernel_rfl) (by kernel_rfl))) ?_
  intro W base args ds gs before hval0 hW hcnd hsz hL _
  have hval : ∀ (j : Nat) t v, Tryd.f4.params[j]? = some t → args[j]? = some v → Value.okWide Tryd.prog W .any base t v := hval0
  have hW' := hW
  obtain ⟨p, q, hA0, hV, rfl, hfz, hnd⟩ := hW
  have hA : DataW.TrodAll enc Tryd.prog W 0 (fun _ => true) true Tryd.f4.params.toList args.toList ds p := hA0
  rw [Tryd.params4] at hA hval
  obtain ⟨v0, vs0, d0, ds0, p0, q0, hargs, rfl, rfl, h0, r0⟩ := trodAll_cons hA
  obtain ⟨v1, vs1, d1, ds1, p1, q1, rfl, rfl, rfl, h1, r1⟩ := trodAll_cons r0
  obtain ⟨v2, vs2, d2, ds2, p2, q2, rfl, rfl, rfl, h2, r2⟩ := trodAll_cons r1
  obtain ⟨rfl, rfl, rfl⟩ := trodAll_nil r2
  obtain rfl : args = #[v0, v1, v2] := by cases args; simp_all
  obtain ⟨rfl, rfl⟩ := trodVars_none hV
  have k0 := h0
  have lt0 : ∀ x ∈ p0, x.block < W.heap.size := by obtain ⟨m, hm⟩ := k0; exact DataW.trod_lt m _ _ _ hm
  obtain ⟨A0, n0, c0, rfl, hraw0⟩ := RawO.open_raws (hval 0 32 v0 rfl rfl) h0
  have k1 := h1
  have lt1 : ∀ x ∈ p1, x.block < W.heap.size := by obtain ⟨m, hm⟩ := k1; exact DataW.trod_lt m _ _ _ hm
  obtain ⟨A1, n1, c1, rfl, hraw1⟩ := RawO.open_raws (hval 1 32 v1 rfl rfl) h1
  have k2 := h2
  have lt2 : ∀ x ∈ p2, x.block < W.heap.size := by obtain ⟨m, hm⟩ := k2; exact DataW.trod_lt m _ _ _ hm
  obtain ⟨a2, rfl, rfl, rfl, w2⟩ := open_int Tryd.underlying3 (hval 2 3 v2 rfl rfl) h2
  clear hA0 hval0
  refine (walk A0 n0 c0 A1 n1 c1 a2 w2 W hraw0 hraw1 (not_of hL)).mono fun e W' ⟨he, bel⟩ => ?_
  subst he
  exact ⟨_, rfl, _, _, _, [], _, [], hW', trodAll_mk1 (shut_bool Tryd.underlying4 _), (trodAll_cons_mk (Below.trod laidOut (by kernel_rfl) (of_decide_eq_true (by kernel_rfl)) k0 bel lt0) (trodAll_cons_mk (Below.trod laidOut (by kernel_rfl) (of_decide_eq_true (by kernel_rfl)) k1 bel lt1) (trodAll_cons_mk (Below.trod laidOut (by kernel_rfl) (of_decide_eq_true (by kernel_rfl)) k2 bel lt2) trodAll_mk0))), rfl, bel.frame _, fun h => by cases h⟩

theorem over : Rows.typingSoundRow.holds Tryd.pinned (OpenSpec.ofChange Rows.typingSoundSpec) :=
  OpenClaim.holds_of_wide 4 Tryd.f4 rfl rfl rfl rfl rfl rfl rfl ⟨rfl, rfl, rfl, rfl, rfl⟩ rfl rfl rfl rfl rfl (by kernel_rfl) Tryd.func4 (by kernel_rfl)
    (of_decide_eq_true (by kernel_rfl)) (by unfold Func.isWrapper; first | (rw [if_pos (by decide +kernel)]; kernel_rfl) | (rw [if_neg (by decide +kernel)]; exact ⟨rfl, rfl⟩))
    (fun os started H enc _ => lifted os started H enc)

/-- The tied card. -/
theorem proved : Rows.TypingSoundCardSaid :=
  Claim7.holds_tied_plain_at .later [] [.data] true (true, "e7e778849e5474a99cfe14a85150a9c1848083beaff400444cc53060f832e11e") false
    over (fun _ h => by cases h) (by kernel_rfl) (fun _ h => by cases h) typingSound_row_tie rfl ⟨rfl, rfl⟩ (by kernel_rfl) rfl
    (fun f fn hf hfn => by
      obtain rfl : f = 4 := Option.some.inj ((show Tryd.prog.funcNamed "lychway/lychwaykeep.TypingSound" = some 4 by kernel_rfl).symm.trans hf) |>.symm
      obtain rfl : fn = Tryd.f4 := (Option.some.inj (Tryd.func4.symm.trans hfn)).symm
      exact ⟨by kernel_rfl, fun j t ht => by
        rw [Tryd.params4] at ht
        have hm : t ∈ [32, 32, 3] := by simpa using Array.mem_of_getElem? ht
        have hall : ([32, 32, 3].all fun u => !Tryd.prog.wantsStandIn u) = true := by kernel_rfl
        exact (show Tryd.prog.wantsStandIn t = false by simpa using List.all_eq_true.1 hall t hm)⟩)
    (by kernel_rfl)
#print axioms proved
end Go.Proofs.YtbdofaaemgckiaaDoor.typingSound
