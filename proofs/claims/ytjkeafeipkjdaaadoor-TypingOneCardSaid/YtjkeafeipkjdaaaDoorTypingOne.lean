/- What is proved: the Go law lychwaykeep.TypingOne returns true for all its arguments, and leaves them as they were. No condition. -/
import Derived.Test.YtjkeafeipkjdaaaDoorRows
import Derived.Test.YtjkeafeipkjdaaaDoorTyGen
import Derived.Test.YtjkeafeipkjdaaaDoorRawOpen
import Derived.Test.YtjkeafeipkjdaaaDoorKit
import Derived.WalkKit
import Derived.ProofKit
import Derived.OpenShut
import Derived.Deep.RegionHeld3
import Derived.Deep.DrawnRows
import Derived.Deep.DeepCutAuto
import Derived.Deep.QuietTactic
import Derived.BigQuiet
import Derived.WalkSpells
import Derived.WalkLawsBesides
import Derived.Lib.Hide
import Derived.Outline
import Derived.ShutString
import Derived.ChangeOld
import Derived.Below
import Derived.LaidMore
import Derived.SizedLaws
import Derived.Stop.Joined
import Derived.Stop.LaidErr
import Derived.Lib.LaidTab
import Derived.SevenTiedAt
import Derived.Lay
import Derived.LaidOnce
import Derived.Deep.DeepHandedRow
import Derived.Test.YtjkeafeipkjdaaaDoorCards
import Derived.Test.YtjkeafeipkjdaaaDoorTie
namespace Go.Proofs.YtjkeafeipkjdaaaDoor.typingOne
open ExM NmM Kit ExL ExP ExN ExV RawL RawV Within GenL Gen GenE GenT NmC NmP NmG TyM Ty TyT TyO TyG
open Go.ChangeShapes Go.WideShapes Go.ChangeAt Go.RowKit
open Go.ChangeMaps (open_string shut_string)
set_option linter.unusedVariables false

theorem own : ownKnob Tryd.prog.godebug = none := by kernel_rfl
theorem laidOut : laidOutB Tryd.prog = true := by kernel_rfl


/-! ### The walk -/
set_option maxRecDepth 100000 in
set_option maxHeartbeats 8000000 in
theorem walk (A0 : Option Addr) (n0 : Nat) (c0 : Nat) (a1 : Int) (w1 : (Lit.int .i64 a1).wf = true) (w : World) (hraw0 : RawL.Raws w A0 n0 c0) (ht : ExN.Tab w) :
    Calls Tryd.prog 5 #[.slice A0 n0 c0, .int .i64 a1] w fun e w' => e = .returned (.bool true) ∧ Below w.heap.size w w' := by
  obtain ⟨pk, hpk⟩ : ∃ p, pick a1 3 = p := ⟨_, rfl⟩
  have hpb := pick_bd a1 3 (by decide)
  have hp := fun W => picked_any a1 3 W w1 (by decide) (by decide)
  rw [hpk] at hp hpb
  obtain ⟨pb0, pb1⟩ := hpb
  have HP := Lib.hid hp
  have HT := Lib.hid ht
  have HR := Lib.hid hraw0
  clear hp hpk ht hraw0 w1
  have hmk : ∀ W FA fc, Raws W A0 n0 c0 → Flds W FA someF → Calls Tryd.prog 11 #[.slice A0 n0 c0, .int .i64 (1 + pk), .slice FA 5 fc] W (ExprOut someF (1 + pk) W) := fun W FA fc hr hf => make_any n0 c0 fc A0 FA someF (1 + pk) W hr hf (by decide) someF_sz
  have HMk := Lib.hid hmk
  clear hmk
  go_enter Tryd.func5, Tryd.ntmps5
  go_wp2_with fail
  refine (HP.out _).mono ?_; rintro e w9 ⟨rfl, rfl⟩
  go_wp2_with fail
  refine (someX_any _).mono ?_; rintro e w1 ⟨⟨rfl, hfl⟩, hb1⟩
  have hr1 : Raws w1 A0 n0 c0 := HR.out.keep fun p v0 v1 v2 h0 h2 => hb1.block _ (cell_lt' h0)
  have HC := Lib.hid (HMk.out w1 _ 5 hr1 hfl)
  have HB1 := Lib.hid hb1
  clear hr1 hfl hb1
  go_wp2_with fail
  refine HC.out.mono ?_; rintro e w2 ⟨x, dx, Bx, mx, cx, rfl, hgx, hisx, hb2⟩
  obtain ⟨hckx, hx40, _, _⟩ := gn_check someF_nm hgx
  have hix := hisx.is
  have hbA : Below w.heap.size w (w2.alloc (.cells #[.int .i64 dx.op, .int .i64 dx.k, .int .i64 dx.n, .string dx.s, .string dx.nm, .slice Bx mx cx] 26)) := b_more (b_trans HB1.out hb2) _
  have z1 := Box.new w2 dx Bx mx cx
  have j1 := hix.below (b_new w2 (.cells #[.int .i64 dx.op, .int .i64 dx.k, .int .i64 dx.n, .string dx.s, .string dx.nm, .slice Bx mx cx] 26))
  obtain ⟨W, hW⟩ : ∃ W, w2.alloc (.cells #[.int .i64 dx.op, .int .i64 dx.k, .int .i64 dx.n, .string dx.s, .string dx.nm, .slice Bx mx cx] 26) = W := ⟨_, rfl⟩
  rw [hW] at hbA z1 j1
  have hT := HT.out.below hbA
  have hty : ∀ q : Int, fitsT (fts someF) x q = if 1 + pk = q then 0 else 9 := fun q => by
    unfold fitsT
    rw [ofT_ty hckx, gn_ty some_ty 3 (1 + pk) x (by omega) (by omega) hgx]; simp
  have f1 : ∀ (q : Int) V (FA : Option Addr) (fc : Nat), Below W.heap.size W V → Flds V FA someF → Calls Tryd.prog 7 #[.agg #[.int .i64 dx.op, .int .i64 dx.k, .int .i64 dx.n, .string dx.s, .string dx.nm, .slice Bx mx cx], .slice FA 5 fc, .int .i64 q] V fun e w' => e = .returned (.int .i64 (if 1 + pk = q then 0 else 9)) ∧ Below V.heap.size V w' := fun q V FA fc hb hf => by
    have := fits_any x someF FA fc q dx Bx mx cx V (by decide) (j1.below hb) hf (hT.below hb)
    rw [hty] at this; exact this
  have H1 := Lib.hid f1
  have Z1 := Lib.hid z1
  have HBA := Lib.hid hbA
  have HW := Lib.hid hW
  clear f1 hty hT hW z1 j1 hbA hix hisx hgx hckx hx40 hb2 HC HB1
  go_wp2_with fail
  rw [HW.out]
  go_loopw [6, 7, 14] (fun cn _ i wr => ∃ (k : Nat), i = .int .i64 k ∧ k ≤ 5 ∧ cn = .int .i64 (if 1 + pk < k then 1 else 0) ∧ Below W.heap.size W wr) (fun _ _ i _ => 5 - (intOf i).toNat)
  case atStart => exact ⟨0, rfl, by omega, by rw [if_neg (by omega)], Below.refl _ _⟩
  case round =>
    obtain ⟨k, rfl, hk, rfl, hb⟩ := hrel
    obtain ⟨c, hc⟩ : ∃ c : Int, (if 1 + pk < (k : Int) then 1 else 0) = c := ⟨_, rfl⟩
    have hc01 : c = 0 ∨ c = 1 := by rw [← hc]; split <;> simp
    rw [hc]
    by_cases hlt : k < 5
    · have hcl : ∀ V, Below W.heap.size W V → V.cell? ⟨w2.heap.size, 0, none⟩ = some (.int .i64 dx.op) ∧ V.cell? ⟨w2.heap.size, 1, none⟩ = some (.int .i64 dx.k) ∧ V.cell? ⟨w2.heap.size, 2, none⟩ = some (.int .i64 dx.n) ∧ V.cell? ⟨w2.heap.size, 3, none⟩ = some (.string dx.s) ∧ V.cell? ⟨w2.heap.size, 4, none⟩ = some (.string dx.nm) ∧ V.cell? ⟨w2.heap.size, 5, none⟩ = some (.slice Bx mx cx) := fun V hV => (Z1.out.below hV).cells
      obtain ⟨c0, c1, c2, c3, c4, c5⟩ := hcl wr hb
      have HCells := Lib.hid (fun V (hV : Below wr.heap.size wr V) => hcl V (hb.trans (hV.mono hb.size)))
      have f2 := fun V FA fc (hV : Below wr.heap.size wr V) hf => H1.out k V FA fc (hb.trans (hV.mono hb.size)) hf
      obtain ⟨r, hr⟩ : ∃ r : Int, (if 1 + pk = (k : Int) then 0 else 9) = r := ⟨_, rfl⟩
      rw [hr] at f2
      have HF2 := Lib.hid f2
      have HB := Lib.hid hb
      have hbl := Below.refl wr.heap.size wr
      have hres : ∀ V, Below wr.heap.size wr V → (r = 0 → ∃ (k' : Nat), IntKind.i64.wrap ((k : Int) + 1) = (k' : Int) ∧ k' ≤ 5 ∧ c + 1 = (if 1 + pk < (k' : Int) then 1 else 0) ∧ k' = k + 1) ∧ (r ≠ 0 → c = (if 1 + pk < ((k + 1 : Nat) : Int) then 1 else 0)) := fun V hV => by
        refine ⟨fun h => ⟨k + 1, ?_, by omega, ?_, rfl⟩, fun h => ?_⟩
        · rw [IntWalk.i64_in _ (by omega)]; omega
        · have : 1 + pk = (k : Int) := by
            by_cases e : 1 + pk = (k : Int)
            · exact e
            · rw [if_neg e] at hr; omega
          rw [← hc, if_neg (by omega), if_pos (by omega)]; rfl
        · have : ¬ 1 + pk = (k : Int) := fun e => by rw [if_pos e] at hr; omega
          rw [← hc]
          by_cases h2 : 1 + pk < (k : Int)
          · rw [if_pos h2, if_pos (by omega)]
          · rw [if_neg h2, if_neg (by omega)]
      have hr09 : r = 0 ∨ r = 9 := by rw [← hr]; split <;> simp
      have HRes := Lib.hid hres
      clear f2 hr hc hcl hb hres
      go_wp2_with fail
      go_region_held3 (fun V => V.cell? ⟨w2.heap.size, 0, none⟩ = some (.int .i64 dx.op) ∧ V.cell? ⟨w2.heap.size, 1, none⟩ = some (.int .i64 dx.k) ∧ V.cell? ⟨w2.heap.size, 2, none⟩ = some (.int .i64 dx.n) ∧ V.cell? ⟨w2.heap.size, 3, none⟩ = some (.string dx.s) ∧ V.cell? ⟨w2.heap.size, 4, none⟩ = some (.string dx.nm) ∧ V.cell? ⟨w2.heap.size, 5, none⟩ = some (.slice Bx mx cx)) (first | (with_reducible exact HCells.out _ hbl) | (with_reducible exact HCells.out _ (b_drew hbl)))
        (first | (go_at_call 12; refine (someX_any _).mono ?_; rintro e wn ⟨⟨rfl, hfl⟩, hbn⟩; have hbl : Below wr.heap.size wr wn := (by (first | (exact b_step hbl hbn) | (exact b_step (b_drew hbl) hbn)))) | (go_at_call 7; (with_reducible refine (HF2.out _ _ _ ?_ ?_).mono ?_); (first | exact hbl | exact b_drew hbl); (first | exact hfl | exact hfl.below (b_drew (Below.refl _ _))); rintro e wk ⟨rfl, hbk⟩; have hbl : Below wr.heap.size wr wk := (by (first | (exact b_step hbl hbk) | (exact b_step (b_drew hbl) hbk)))))
      obtain ⟨q1, q2⟩ := HRes.out wk hbl
      have hbE : Below W.heap.size W wk := HB.out.trans (hbl.mono HB.out.size)
      have HBE := Lib.hid hbE
      have b0 : 0 ≤ c := by omega
      have b1 : c ≤ 1 := by omega
      clear hbl hbk hfl hbn hbE HRes HF2 HCells c0 c1 c2 c3 c4 c5
      rcases hr09 with rfl | rfl
      · obtain ⟨k', e1, e2, e3, rfl⟩ := q1 rfl
        have E3 := Lib.hid e3
        clear q1 q2 e3 hc01
        go_wp2_with fail
        go_roundw
        case rel => exact ⟨k + 1, by go_num, e2, by rw [← E3.out], HBE.out⟩
        case measure => simp [intOf]; omega
      · have E3 := Lib.hid (q2 (by decide))
        clear q1 q2 hc01
        go_wp2_with fail
        go_roundw
        case rel => exact ⟨k + 1, by go_num, by omega, by rw [← E3.out], HBE.out⟩
        case measure => simp [intOf]; omega
    · obtain rfl : k = 5 := by omega
      obtain rfl : c = 1 := by rw [← hc, if_pos (by omega)]
      have HBE := Lib.hid (b_trans HBA.out hb)
      clear hb hc hc01
      go_wp2_with fail
      go_ret
      exact ⟨by simp, HBE.out⟩

theorem not_of {W : World} (h : laidMetH Tryd.prog Rows.typingOneRow.laid W) : ExN.Tab W := by
  have h0 : laidMet Tryd.prog Rows.typingOneRow.laid W := by rw [MakeChecks.laidMetH_plain _ _ _ (by kernel_rfl)] at h; exact h
  have h1 := h0
  exact NotTab.is_of_head (g := 0) (t := 77) (e := 76) (n := 19) (by kernel_rfl) (by kernel_rfl) Tryd.underlying77 (by kernel_rfl) Tryd.underlying76 (by kernel_rfl) rfl rfl rfl Tryd.underlying9 Tryd.underlying3 Tryd.underlying3 (by kernel_rfl) (by kernel_rfl) (by kernel_rfl) h1

/-! ### The row's step -/
set_option maxRecDepth 100000 in
theorem lifted (os : Os) (started : os.Started) (H : Type) (enc : TypeId × Value → H) :
    ReturnsInHanded {} Tryd.checked os 5 .any (fun w args => (Rows.typingOneSpec.pre enc Tryd.prog Tryd.f5 [] false w args ∧ laidMetH Tryd.prog Rows.typingOneRow.laid w) ∧ sizedMet enc Tryd.prog Tryd.f5 (OpenSpec.ofChange Rows.typingOneSpec) false w args) (Rows.typingOneSpec.post enc Tryd.prog Tryd.f5 false true false false) := by
  refine returnsInHanded_of_change_and (C := Tryd.checked) (X := fun w _ => laidMetH Tryd.prog Rows.typingOneRow.laid w) (fun _ _ _ hh h => h.of_heap hh) own started (by kernel_rfl) Tryd.func5
    (ChangeSpec.witness_shaped (enc := enc) (C := Tryd.checked) (os := os) (X := fun w _ => laidMetH Tryd.prog Rows.typingOneRow.laid w) false (World.laidAll Tryd.prog os Rows.typingOneRow.laid) #[.slice none 0 0, .int .i64 0] 8 (World.laidAll_os _ _ _) (World.shaped_of_ZipB (by kernel_rfl) (by kernel_rfl)) (by kernel_rfl) (by kernel_rfl) (by kernel_rfl) (by rw [MakeChecks.laidMetH_plain _ _ _ (by kernel_rfl)]; exact laidMet_laidAll _ (by kernel_rfl) (by kernel_rfl))) ?_
  intro W base args ds gs before hval0 hW hcnd hsz hL _
  have hval : ∀ (j : Nat) t v, Tryd.f5.params[j]? = some t → args[j]? = some v → Value.okWide Tryd.prog W .any base t v := hval0
  have hW' := hW
  obtain ⟨p, q, hA0, hV, rfl, hfz, hnd⟩ := hW
  have hA : DataW.TrodAll enc Tryd.prog W 0 (fun _ => true) true Tryd.f5.params.toList args.toList ds p := hA0
  rw [Tryd.params5] at hA hval
  obtain ⟨v0, vs0, d0, ds0, p0, q0, hargs, rfl, rfl, h0, r0⟩ := trodAll_cons hA
  obtain ⟨v1, vs1, d1, ds1, p1, q1, rfl, rfl, rfl, h1, r1⟩ := trodAll_cons r0
  obtain ⟨rfl, rfl, rfl⟩ := trodAll_nil r1
  obtain rfl : args = #[v0, v1] := by cases args; simp_all
  obtain ⟨rfl, rfl⟩ := trodVars_none hV
  have k0 := h0
  have lt0 : ∀ x ∈ p0, x.block < W.heap.size := by obtain ⟨m, hm⟩ := k0; exact DataW.trod_lt m _ _ _ hm
  obtain ⟨A0, n0, c0, rfl, hraw0⟩ := RawO.open_raws (hval 0 33 v0 rfl rfl) h0
  have k1 := h1
  have lt1 : ∀ x ∈ p1, x.block < W.heap.size := by obtain ⟨m, hm⟩ := k1; exact DataW.trod_lt m _ _ _ hm
  obtain ⟨a1, rfl, rfl, rfl, w1⟩ := open_int Tryd.underlying3 (hval 1 3 v1 rfl rfl) h1
  clear hA0 hval0
  refine (walk A0 n0 c0 a1 w1 W hraw0 (not_of hL)).mono fun e W' ⟨he, bel⟩ => ?_
  subst he
  exact ⟨_, rfl, _, _, _, [], _, [], hW', trodAll_mk1 (shut_bool Tryd.underlying4 _), (trodAll_cons_mk (Below.trod laidOut (by kernel_rfl) (of_decide_eq_true (by kernel_rfl)) k0 bel lt0) (trodAll_cons_mk (Below.trod laidOut (by kernel_rfl) (of_decide_eq_true (by kernel_rfl)) k1 bel lt1) trodAll_mk0)), rfl, bel.frame _, fun h => by cases h⟩

theorem over : Rows.typingOneRow.holds Tryd.pinned (OpenSpec.ofChange Rows.typingOneSpec) :=
  OpenClaim.holds_of_wide 5 Tryd.f5 rfl rfl rfl rfl rfl rfl rfl ⟨rfl, rfl, rfl, rfl, rfl⟩ rfl rfl rfl rfl rfl (by kernel_rfl) Tryd.func5 (by kernel_rfl)
    (of_decide_eq_true (by kernel_rfl)) (by unfold Func.isWrapper; first | (rw [if_pos (by decide +kernel)]; kernel_rfl) | (rw [if_neg (by decide +kernel)]; exact ⟨rfl, rfl⟩))
    (fun os started H enc _ => lifted os started H enc)

/-- The tied card. -/
theorem proved : Rows.TypingOneCardSaid :=
  Claim7.holds_tied_plain_at .later [] [.data] true (true, "d2311ff168048ed70af53b3e679d2f9d22ebf15cdeb8e10b114889f6a41fcbdf") false
    over (fun _ h => by cases h) (by kernel_rfl) (fun _ h => by cases h) typingOne_row_tie rfl ⟨rfl, rfl⟩ (by kernel_rfl) rfl
    (fun f fn hf hfn => by
      obtain rfl : f = 5 := Option.some.inj ((show Tryd.prog.funcNamed "lychway/lychwaykeep.TypingOne" = some 5 by kernel_rfl).symm.trans hf) |>.symm
      obtain rfl : fn = Tryd.f5 := (Option.some.inj (Tryd.func5.symm.trans hfn)).symm
      exact ⟨by kernel_rfl, fun j t ht => by
        rw [Tryd.params5] at ht
        have hm : t ∈ [33, 3] := by simpa using Array.mem_of_getElem? ht
        have hall : ([33, 3].all fun u => !Tryd.prog.wantsStandIn u) = true := by kernel_rfl
        exact (show Tryd.prog.wantsStandIn t = false by simpa using List.all_eq_true.1 hall t hm)⟩)
    (by kernel_rfl)
#print axioms proved
end Go.Proofs.YtjkeafeipkjdaaaDoor.typingOne
