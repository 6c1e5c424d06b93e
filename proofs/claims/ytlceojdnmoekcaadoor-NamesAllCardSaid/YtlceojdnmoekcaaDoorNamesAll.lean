/- What is proved: the Go law lychwaykeep.NamesAll returns true for all its arguments, and leaves them as they were. No condition. -/
import Derived.Test.YtlceojdnmoekcaaDoorRows
import Derived.Test.YtlceojdnmoekcaaDoorNmAll
import Derived.Test.YtlceojdnmoekcaaDoorNmGen
import Derived.Test.YtlceojdnmoekcaaDoorExOpen
import Derived.Test.YtlceojdnmoekcaaDoorKit
import Derived.WalkKit
import Derived.ProofKit
import Derived.OpenShut
import Derived.Deep.RegionHeld3
import Derived.Deep.DrawnRows
import Derived.Deep.DeepCutAuto
import Derived.Deep.QuietTactic
import Derived.BigQuiet
import Derived.WalkSpells
import Derived.WalkLawsBesides
import Derived.Lib.Hide
import Derived.Outline
import Derived.ShutString
import Derived.ChangeOld
import Derived.Below
import Derived.LaidMore
import Derived.SizedLaws
import Derived.Stop.Joined
import Derived.Stop.LaidErr
import Derived.Lib.LaidTab
import Derived.SevenTiedAt
import Derived.Lay
import Derived.LaidOnce
import Derived.Deep.DeepHandedRow
import Derived.Test.YtlceojdnmoekcaaDoorCards
import Derived.Test.YtlceojdnmoekcaaDoorTie
namespace Go.Proofs.YtlceojdnmoekcaaDoor.namesAll
open ExM NmM Kit ExL ExP ExN ExV RawL RawV Within GenL Gen GenE GenT NmC NmP NmG NmH NmI NmO NmA NmT NmL
open Go.ChangeShapes Go.WideShapes Go.ChangeAt Go.RowKit
open Go.ChangeMaps (open_string shut_string)
set_option linter.unusedVariables false

theorem own : ownKnob Tryd.prog.godebug = none := by kernel_rfl
theorem laidOut : laidOutB Tryd.prog = true := by kernel_rfl


/-! ### The walk -/
theorem hasB_rise (L : List ByteArray) (s : ByteArray) : NmM.hasB (NmI.mkL (NmM.rise (NmO.bytesL L))) s = NmM.hasB L s := by
  rw [NmI.hasB_mkL, Bool.eq_iff_iff, decide_eq_true_eq, NmM.rise_mem, NmM.hasB_true]
  unfold NmO.bytesL
  rw [List.mem_map]
  constructor
  · rintro ⟨t, ht, e⟩
    have : NmI.mkB t.data.toList = NmI.mkB s.data.toList := by rw [e]
    rw [NmI.mkB_of, NmI.mkB_of] at this
    rw [← this]; exact ht
  · intro h; exact ⟨s, h, rfl⟩
def nA : ByteArray := ⟨#[97]⟩
def refA : ExM.Ex := .mk ⟨2, 0, 0, ⟨#[]⟩, nA⟩ []
theorem refA_is (w : World) : ExL.Is w refA ⟨2, 0, 0, ⟨#[]⟩, nA⟩ none 0 := ExL.is_mk.2 ⟨rfl, rfl, ⟨Nat.zero_le _, Nat.zero_le _, by decide⟩, fun j hj => absurd hj (by simp)⟩
theorem refA_check : refA.checkE = 0 := by
  unfold refA ExM.Ex.checkE
  rw [ExM.nodes_mk, ExM.depth_mk, ExM.nodesL_nil, ExM.depthL_nil, if_neg (by decide), if_neg (by decide), ExM.firstE_mk, ExM.preL_nil]
  decide
theorem refA_names : NmO.ofL refA = [[97]] := by
  unfold NmO.ofL
  rw [refA_check, if_pos rfl]
  unfold refA
  rw [NmM.refs_mk_pos _ _ rfl, NmM.refsL_nil]
  decide
set_option maxRecDepth 100000 in
set_option maxHeartbeats 8000000 in
theorem walk (A0 : Option Addr) (n0 : Nat) (c0 : Nat) (a1 : Int) (w1 : (Lit.int .i64 a1).wf = true) (w : World) (hraw0 : RawL.Raws w A0 n0 c0) (ht : ExN.Tab w) :
    Calls Tryd.prog 6 #[.slice A0 n0 c0, .int .i64 a1] w fun e w' => e = .returned (.bool true) ∧ Below w.heap.size w w' := by
  obtain ⟨pk, hpk⟩ : ∃ p, pick a1 3 = p := ⟨_, rfl⟩
  have hpb := pick_bd a1 3 (by decide)
  have hp := fun W => picked_any a1 3 W w1 (by decide) (by decide)
  rw [hpk] at hp hpb
  obtain ⟨pb0, pb1⟩ := hpb
  have HP := Lib.hid hp
  have HT := Lib.hid ht
  have HR := Lib.hid hraw0
  clear hp hpk ht hraw0 w1
  have hmk : ∀ W FA fc, Raws W A0 n0 c0 → Flds W FA someF → Calls Tryd.prog 17 #[.slice A0 n0 c0, .int .i64 (1 + pk), .slice FA 5 fc] W (ExprOut someF (1 + pk) W) := fun W FA fc hr hf => make_any n0 c0 fc A0 FA someF (1 + pk) W hr hf (by decide) someF_sz
  have HMk := Lib.hid hmk
  clear hmk
  go_enter Tryd.func6, Tryd.ntmps6
  go_wp2_with fail
  refine (HP.out _).mono ?_; rintro e w9 ⟨rfl, rfl⟩
  go_wp2_with fail
  refine (someX_any _).mono ?_; rintro e w1 ⟨⟨rfl, hfl⟩, hb1⟩
  have hr1 : Raws w1 A0 n0 c0 := HR.out.keep fun p v0 v1 v2 h0 h2 => hb1.block _ (cell_lt' h0)
  have HC := Lib.hid (HMk.out w1 _ 5 hr1 hfl)
  have HB1 := Lib.hid hb1
  clear hr1 hfl hb1
  go_wp2_with fail
  refine HC.out.mono ?_; rintro e w2 ⟨x, dx, Bx, mx, cx, rfl, hgx, hisx, hb2⟩
  obtain ⟨hckx, hx40, _, _⟩ := gn_check someF_nm hgx
  have hix := hisx.is
  have hbA : Below w.heap.size w (w2.alloc (.cells #[.int .i64 dx.op, .int .i64 dx.k, .int .i64 dx.n, .string dx.s, .string dx.nm, .slice Bx mx cx] 26)) := b_more (b_trans HB1.out hb2) _
  have z1 := Box.new w2 dx Bx mx cx
  have j1 := hix.below (b_new w2 (.cells #[.int .i64 dx.op, .int .i64 dx.k, .int .i64 dx.n, .string dx.s, .string dx.nm, .slice Bx mx cx] 26))
  obtain ⟨W, hW⟩ : ∃ W, w2.alloc (.cells #[.int .i64 dx.op, .int .i64 dx.k, .int .i64 dx.n, .string dx.s, .string dx.nm, .slice Bx mx cx] 26) = W := ⟨_, rfl⟩
  rw [hW] at hbA z1 j1
  have hT := HT.out.below hbA
  have hofx : ofL x = rise (bytesL (Ex.refs x)) := by unfold ofL; rw [hckx, if_pos rfl]
  have hML : (ofL x).length ≤ 1048576 := by
    rw [hofx]
    have h5 := rise_len (bytesL (Ex.refs x))
    have h6 := refs_len x
    have h7 : (bytesL (Ex.refs x)).length = (Ex.refs x).length := List.length_map _
    omega
  have hMS : (ofL x).Pairwise (· < ·) := by rw [hofx]; exact rise_sorted _
  have hMH : ∀ s, hasB (mkL (ofL x)) s = hasB (Ex.refs x) s := fun s => by rw [hofx]; exact hasB_rise _ s
  have f1 := fun V (hb : Below W.heap.size W V) => of_any x dx Bx mx cx V (j1.below hb) (hT.below hb)
  have f2 := fun V (hb : Below W.heap.size W V) => of_any refA ⟨2, 0, 0, ⟨#[]⟩, nA⟩ none 0 0 V (refA_is V) (hT.below hb)
  have f3 := fun s V (hb : Below W.heap.size W V) => has_any x s dx Bx mx cx V (j1.below hb)
  obtain ⟨M, hM⟩ : ∃ M, ofL x = M := ⟨_, rfl⟩
  rw [hM] at hML hMS hMH f1
  rw [hckx] at f1
  rw [refA_check, refA_names] at f2
  unfold nA at f2
  have F1 := Lib.hid f1
  have F2 := Lib.hid f2
  have F3 := Lib.hid f3
  have HW := Lib.hid hW
  have Z1 := Lib.hid z1
  have HBA := Lib.hid hbA
  have HMS := Lib.hid hMS
  have HMH := Lib.hid hMH
  clear f1 f2 f3 hW z1 j1 hbA hT hofx hMS hMH hM hckx hx40 hix hisx hgx hb2 HB1 HC
  go_wp2_with fail
  rw [HW.out]
  refine (F1.out _ (Below.refl _ _)).mono ?_; rintro e w3 ⟨v1, rfl, hown1, hb3⟩
  obtain ⟨A1, q1, rfl, hr1⟩ := toSRow hown1
  have HR1 := Lib.hid hr1
  have HB3 := Lib.hid hb3
  clear hown1 hr1 hb3
  go_wp2_with fail
  refine (F2.out _ HB3.out).mono ?_; rintro e w4 ⟨v2, rfl, hown2, hb4⟩
  obtain ⟨A2, q2, hv2, hr2⟩ := toSRow (M := [[97]]) hown2
  have hv3 : v2 = .slice A2 1 q2 := hv2
  subst hv3
  have hr1 := NmT.SRow.below HR1.out hb4
  have hbB := b_trans HB3.out hb4
  have hr3 : SRow (w4.alloc (.cells #[.string ⟨#[97]⟩] 9)) (some ⟨w4.heap.size, 0, none⟩) (mkL [[97]]) := fun j hj => by
    match j, hj with
    | 0, _ => exact ⟨_, rfl, by unfold World.cell?; rw [World.alloc_heap_new]; rfl⟩
  have hr4 := NmT.SRow.below hr2 (b_new w4 (.cells #[.string ⟨#[97]⟩] 9))
  have hr5 := NmT.SRow.below hr1 (b_new w4 (.cells #[.string ⟨#[97]⟩] 9))
  have he := equal_any _ (mkL [[97]]) A2 (some ⟨w4.heap.size, 0, none⟩) q2 1 (by decide) hr4 hr3
  have HE := Lib.hid he
  have hbC : Below W.heap.size W (w4.alloc (.cells #[.string ⟨#[97]⟩] 9)) := b_more hbB _
  have HBC := Lib.hid hbC
  have HR5 := Lib.hid hr5
  clear hv2 hown2 hr2 hr1 hr3 hr4 hr5 he hb4 hbB hbC HR1 HB3 F2
  go_wp2_with fail
  refine HE.out.mono ?_; rintro e w5 ⟨rfl, p5, rfl⟩
  have hq := sorted_any M HMS.out A1 q1 ((w4.alloc (.cells #[.string ⟨#[97]⟩] 9)).drewN p5) hML HR5.out
  have HQ := Lib.hid hq
  clear hq HE
  go_wp2_with fail
  refine HQ.out.mono ?_; rintro e w6 ⟨rfl, p6, rfl⟩
  have hq := clone_any M A1 q1 ((w4.alloc (.cells #[.string ⟨#[97]⟩] 9)).drewN (p5 + p6)) hML HR5.out
  have HQ2 := Lib.hid hq
  clear hq HQ
  go_wp2_with fail
  refine HQ2.out.mono ?_; rintro e w7 ⟨⟨v7, rfl, hown7⟩, hb7⟩
  have hq := compact_any M HMS.out v7 _ w7 hML hown7
  have HQ3 := Lib.hid hq
  have HB7 := Lib.hid hb7
  clear hq hown7 hb7 HQ2
  go_wp2_with fail
  refine HQ3.out.mono ?_; rintro e w8 ⟨⟨A8, q8, rfl⟩, hb8⟩
  have hbD : Below (w4.alloc (.cells #[.string ⟨#[97]⟩] 9)).heap.size (w4.alloc (.cells #[.string ⟨#[97]⟩] 9)) w8 := (b_drewN (Below.refl _ _) (p5 + p6)).trans (HB7.out.trans hb8)
  have hr8 := NmT.SRow.below HR5.out hbD
  have hbE := b_trans HBC.out hbD
  have HR8 := Lib.hid hr8
  have HBE := Lib.hid hbE
  clear hb8 hbD hr8 hbE HQ3 HB7 HR5 HBC
  go_wp2_with fail
  refine (someX_any _).mono ?_; rintro e w10 ⟨⟨rfl, hfl⟩, hb10⟩
  have hr10 := NmT.SRow.below HR8.out hb10
  have hbF := b_trans HBE.out hb10
  have HFl := Lib.hid hfl
  have HR10 := Lib.hid hr10
  have HBF := Lib.hid hbF
  clear hfl hb10 hr10 hbF HR8 HBE
  go_wp2_with fail
  go_loopw [11, 56] (fun _ i wr => ∃ k : Nat, k ≤ 5 ∧ i = .int .i64 k ∧ Below w10.heap.size w10 wr) (fun _ i _ => 5 - (intOf i).toNat)
  case atStart => exact ⟨0, by omega, rfl, Below.refl _ _⟩
  case round =>
    obtain ⟨k, hk, rfl, hbw⟩ := hrel
    by_cases hlt : k < 5
    · obtain ⟨a, ha, hf⟩ := HFl.out k hlt
      obtain rfl : (⟨w8.heap.size, 0, none⟩ : Addr) = a := by injection ha
      have hf2 := hf.of_block (hbw.block _ hf.lt)
      rw [ExP.add_block] at hf2
      obtain ⟨f, hff⟩ : ∃ f, someF[k]'hlt = f := ⟨_, rfl⟩
      rw [hff] at hf2
      obtain ⟨fnm, fkd, fty, fd, fA, fn, fc⟩ := f
      obtain ⟨g0, g1, g2, g3, g4, g5, g6, g7, g8⟩ := hf2
      dsimp only at g0 g1 g2 g3 g4 g5 g6 g7 g8
      have hl8 : w8.heap.size < wr.heap.size := cell_lt' g0
      have hbW := b_trans HBF.out hbw
      have z1 := Z1.out.below hbW
      have hrw := NmT.SRow.below HR10.out hbw
      have lx := z1.lt
      have lxW := Z1.out.lt
      have q0 := World.alloc_heap_new wr (.cells #[.string fnm, .int .i64 fkd, .int .i64 fty, .int .i64 fd.op, .int .i64 fd.k, .int .i64 fd.n, .string fd.s, .string fd.nm, .slice fA fn fc] 47)
      obtain ⟨V0, hV0⟩ : ∃ V0, wr.alloc (.cells #[.string fnm, .int .i64 fkd, .int .i64 fty, .int .i64 fd.op, .int .i64 fd.k, .int .i64 fd.n, .string fd.s, .string fd.nm, .slice fA fn fc] 47) = V0 := ⟨_, rfl⟩
      have hbV : Below wr.heap.size wr V0 := by rw [← hV0]; exact b_new _ _
      rw [hV0] at q0
      have n0 : V0.cell? ⟨wr.heap.size, 0, none⟩ = some (.string fnm) := by simp [World.cell?, q0]
      have lr : wr.heap.size < V0.heap.size := (Array.getElem?_eq_some_iff.1 q0).1
      have z0 := z1.below hbV
      have hr0 := NmT.SRow.below hrw hbV
      have hbW0 := b_trans hbW hbV
      obtain ⟨q, hq⟩ : ∃ q, hasB (Ex.refs x) fnm = q := ⟨_, rfl⟩
      have h3 := fun V (hV : Below V0.heap.size V0 V) => F3.out fnm V (b_trans hbW0 hV)
      have h4 := fun V (hV : Below V0.heap.size V0 V) => contains_any (mkL M) fnm A1 q1 V (by rw [mkL_len]; exact hML) (NmT.SRow.below hr0 hV)
      rw [HMH.out fnm, mkL_len] at h4
      rw [hq] at h3 h4
      have HCells := Lib.hid (show ∀ V, Below V0.heap.size V0 V → (V.cell? ⟨w2.heap.size, 0, none⟩ = some (.int .i64 dx.op) ∧ V.cell? ⟨w2.heap.size, 1, none⟩ = some (.int .i64 dx.k) ∧ V.cell? ⟨w2.heap.size, 2, none⟩ = some (.int .i64 dx.n) ∧ V.cell? ⟨w2.heap.size, 3, none⟩ = some (.string dx.s) ∧ V.cell? ⟨w2.heap.size, 4, none⟩ = some (.string dx.nm) ∧ V.cell? ⟨w2.heap.size, 5, none⟩ = some (.slice Bx mx cx) ∧ V.cell? ⟨wr.heap.size, 0, none⟩ = some (.string fnm)) from fun V hV => by
        obtain ⟨p0, p1, p2, p3, p4, p5⟩ := (z0.below hV).cells
        exact ⟨p0, p1, p2, p3, p4, p5, (hV.cell (p := ⟨wr.heap.size, 0, none⟩) lr).trans n0⟩)
      have H3 := Lib.hid h3
      have H4 := Lib.hid h4
      have HV0 := Lib.hid hV0
      have HBV := Lib.hid (hbw.trans (hbV.mono hbw.size))
      have hbl : Below V0.heap.size V0 V0 := Below.refl _ _
      clear ha hf hff hbW z1 hrw q0 hV0 hbV n0 z0 hr0 hbW0 hq h3 h4 lx lxW hbw lr
      go_wp2_with fail
      rw [HV0.out]
      first
        | (go_region_held3 (fun V => (V.cell? ⟨w2.heap.size, 0, none⟩ = some (.int .i64 dx.op) ∧ V.cell? ⟨w2.heap.size, 1, none⟩ = some (.int .i64 dx.k) ∧ V.cell? ⟨w2.heap.size, 2, none⟩ = some (.int .i64 dx.n) ∧ V.cell? ⟨w2.heap.size, 3, none⟩ = some (.string dx.s) ∧ V.cell? ⟨w2.heap.size, 4, none⟩ = some (.string dx.nm) ∧ V.cell? ⟨w2.heap.size, 5, none⟩ = some (.slice Bx mx cx) ∧ V.cell? ⟨wr.heap.size, 0, none⟩ = some (.string fnm))) (first | (with_reducible exact HCells.out _ hbl) | (with_reducible exact HCells.out _ (b_drew hbl))) (first | (go_at_call 8; (with_reducible refine (H3.out _ ?_).mono ?_); (first | (with_reducible exact hbl) | (with_reducible exact b_drew hbl)); rintro e wn ⟨rfl, hbn⟩; have hbl : Below V0.heap.size V0 wn := (by (first | (with_reducible exact b_trans hbl hbn) | (exact b_trans (b_drew hbl) hbn))); clear hbn) | (go_at_call 25; (with_reducible refine (H4.out _ ?_).mono ?_); (first | (with_reducible exact hbl) | (with_reducible exact b_drew hbl)); rintro e wn ⟨rfl, rfl⟩)))
        | fail
      go_wp2_with fail
      go_roundw
      case rel => exact ⟨k + 1, by omega, by go_num, HBV.out.trans (hbl.mono HBV.out.size)⟩
      case measure => simp [intOf]; omega
    · go_wp2_with fail
      go_ret
      exact ⟨rfl, HBA.out.trans ((HBF.out.trans (hbw.mono HBF.out.size)).mono HBA.out.size)⟩

theorem not_of {W : World} (h : laidMetH Tryd.prog Rows.namesAllRow.laid W) : ExN.Tab W := by
  have h0 : laidMet Tryd.prog Rows.namesAllRow.laid W := by rw [MakeChecks.laidMetH_plain _ _ _ (by kernel_rfl)] at h; exact h
  have h1 := h0
  exact NotTab.is_of_head (g := 0) (t := 88) (e := 87) (n := 19) (by kernel_rfl) (by kernel_rfl) Tryd.underlying88 (by kernel_rfl) Tryd.underlying87 (by kernel_rfl) rfl rfl rfl Tryd.underlying9 Tryd.underlying3 Tryd.underlying3 (by kernel_rfl) (by kernel_rfl) (by kernel_rfl) h1

/-! ### The row's step -/
set_option maxRecDepth 100000 in
theorem lifted (os : Os) (started : os.Started) (H : Type) (enc : TypeId × Value → H) :
    ReturnsInHanded {} Tryd.checked os 6 .any (fun w args => (Rows.namesAllSpec.pre enc Tryd.prog Tryd.f6 [] false w args ∧ laidMetH Tryd.prog Rows.namesAllRow.laid w) ∧ sizedMet enc Tryd.prog Tryd.f6 (OpenSpec.ofChange Rows.namesAllSpec) false w args) (Rows.namesAllSpec.post enc Tryd.prog Tryd.f6 false true false false) := by
  refine returnsInHanded_of_change_and (C := Tryd.checked) (X := fun w _ => laidMetH Tryd.prog Rows.namesAllRow.laid w) (fun _ _ _ hh h => h.of_heap hh) own started (by kernel_rfl) Tryd.func6
    (ChangeSpec.witness_shaped (enc := enc) (C := Tryd.checked) (os := os) (X := fun w _ => laidMetH Tryd.prog Rows.namesAllRow.laid w) false (World.laidAll Tryd.prog os Rows.namesAllRow.laid) #[.slice none 0 0, .int .i64 0] 8 (World.laidAll_os _ _ _) (World.shaped_of_ZipB (by kernel_rfl) (by kernel_rfl)) (by kernel_rfl) (by kernel_rfl) (by kernel_rfl) (by rw [MakeChecks.laidMetH_plain _ _ _ (by kernel_rfl)]; exact laidMet_laidAll _ (by kernel_rfl) (by kernel_rfl))) ?_
  intro W base args ds gs before hval0 hW hcnd hsz hL _
  have hval : ∀ (j : Nat) t v, Tryd.f6.params[j]? = some t → args[j]? = some v → Value.okWide Tryd.prog W .any base t v := hval0
  have hW' := hW
  obtain ⟨p, q, hA0, hV, rfl, hfz, hnd⟩ := hW
  have hA : DataW.TrodAll enc Tryd.prog W 0 (fun _ => true) true Tryd.f6.params.toList args.toList ds p := hA0
  rw [Tryd.params6] at hA hval
  obtain ⟨v0, vs0, d0, ds0, p0, q0, hargs, rfl, rfl, h0, r0⟩ := trodAll_cons hA
  obtain ⟨v1, vs1, d1, ds1, p1, q1, rfl, rfl, rfl, h1, r1⟩ := trodAll_cons r0
  obtain ⟨rfl, rfl, rfl⟩ := trodAll_nil r1
  obtain rfl : args = #[v0, v1] := by cases args; simp_all
  obtain ⟨rfl, rfl⟩ := trodVars_none hV
  have k0 := h0
  have lt0 : ∀ x ∈ p0, x.block < W.heap.size := by obtain ⟨m, hm⟩ := k0; exact DataW.trod_lt m _ _ _ hm
  obtain ⟨A0, n0, c0, rfl, hraw0⟩ := RawO.open_raws (hval 0 38 v0 rfl rfl) h0
  have k1 := h1
  have lt1 : ∀ x ∈ p1, x.block < W.heap.size := by obtain ⟨m, hm⟩ := k1; exact DataW.trod_lt m _ _ _ hm
  obtain ⟨a1, rfl, rfl, rfl, w1⟩ := open_int Tryd.underlying3 (hval 1 3 v1 rfl rfl) h1
  clear hA0 hval0
  refine (walk A0 n0 c0 a1 w1 W hraw0 (not_of hL)).mono fun e W' ⟨he, bel⟩ => ?_
  subst he
  exact ⟨_, rfl, _, _, _, [], _, [], hW', trodAll_mk1 (shut_bool Tryd.underlying4 _), (trodAll_cons_mk (Below.trod laidOut (by kernel_rfl) (of_decide_eq_true (by kernel_rfl)) k0 bel lt0) (trodAll_cons_mk (Below.trod laidOut (by kernel_rfl) (of_decide_eq_true (by kernel_rfl)) k1 bel lt1) trodAll_mk0)), rfl, bel.frame _, fun h => by cases h⟩

theorem over : Rows.namesAllRow.holds Tryd.pinned (OpenSpec.ofChange Rows.namesAllSpec) :=
  OpenClaim.holds_of_wide 6 Tryd.f6 rfl rfl rfl rfl rfl rfl rfl ⟨rfl, rfl, rfl, rfl, rfl⟩ rfl rfl rfl rfl rfl (by kernel_rfl) Tryd.func6 (by kernel_rfl)
    (of_decide_eq_true (by kernel_rfl)) (by unfold Func.isWrapper; first | (rw [if_pos (by decide +kernel)]; kernel_rfl) | (rw [if_neg (by decide +kernel)]; exact ⟨rfl, rfl⟩))
    (fun os started H enc _ => lifted os started H enc)

/-- The tied card. -/
theorem proved : Rows.NamesAllCardSaid :=
  Claim7.holds_tied_plain_at .later [] [.data] true (true, "887a223315835e23b5a2630090f113ffe25d5ccc31492941d6ecbc9d83265101") false
    over (fun _ h => by cases h) (by kernel_rfl) (fun _ h => by cases h) namesAll_row_tie rfl ⟨rfl, rfl⟩ (by kernel_rfl) rfl
    (fun f fn hf hfn => by
      obtain rfl : f = 6 := Option.some.inj ((show Tryd.prog.funcNamed "lychway/lychwaykeep.NamesAll" = some 6 by kernel_rfl).symm.trans hf) |>.symm
      obtain rfl : fn = Tryd.f6 := (Option.some.inj (Tryd.func6.symm.trans hfn)).symm
      exact ⟨by kernel_rfl, fun j t ht => by
        rw [Tryd.params6] at ht
        have hm : t ∈ [38, 3] := by simpa using Array.mem_of_getElem? ht
        have hall : ([38, 3].all fun u => !Tryd.prog.wantsStandIn u) = true := by kernel_rfl
        exact (show Tryd.prog.wantsStandIn t = false by simpa using List.all_eq_true.1 hall t hm)⟩)
    (by kernel_rfl)
#print axioms proved
end Go.Proofs.YtlceojdnmoekcaaDoor.namesAll
