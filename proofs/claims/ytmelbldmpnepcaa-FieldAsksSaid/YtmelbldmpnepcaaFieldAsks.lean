/- What is proved: the Go law lychwaykeep.FieldAsks returns true for all its arguments, and leaves them as they were. No condition. -/
import Derived.Test.YtmelbldmpnepcaaRows
import Derived.Test.YtmelbldmpnepcaaFormTop
import Derived.Test.YtmelbldmpnepcaaFld
import Derived.Test.YtmelbldmpnepcaaRawOpen
import Derived.Test.YtmelbldmpnepcaaKit
import Derived.WalkKit
import Derived.ProofKit
import Derived.OpenShut
import Derived.Deep.RegionHeld3
import Derived.Deep.DrawnRows
import Derived.Deep.DeepCutAuto
import Derived.Deep.QuietTactic
import Derived.BigQuiet
import Derived.WalkSpells
import Derived.WalkLawsBesides
import Derived.Lib.Hide
import Derived.Outline
import Derived.ShutString
import Derived.ChangeOld
import Derived.Below
namespace Go.Proofs.Ytmelbldmpnepcaa.fieldAsks
open ValM LexM NumM ExM Kit ExL ExP RawV Within RawL RawN GenL Gen GenE GenT GenV FrmM Frm FldP FrmT RegI
open Go.ChangeShapes Go.WideShapes Go.ChangeAt Go.RowKit
open Go.ChangeMaps (open_string shut_string)
set_option linter.unusedVariables false

theorem own : ownKnob Try.prog.godebug = none := by kernel_rfl
theorem laidOut : laidOutB Try.prog = true := by kernel_rfl

theorem list4 {α : Type} {cs : List α} (h : cs.length = 4) : ∃ d0 d1 d2 d3, cs = [d0, d1, d2, d3] := by
  match cs, h with
  | [d0, d1, d2, d3], _ => exact ⟨d0, d1, d2, d3, rfl⟩
theorem row30 {H : Type} {enc : TypeId × Value → H} {W : World} {cs : List Value} {fuel : Nat} {y : DataW H × List MemPlace}
    (h : DataW.trod enc Try.prog W 0 (fun _ => true) true fuel 30 cs = some y) :
    ∃ (x0 : Int) (x1 : Int) (x2 : Int) (x3 : ByteArray), cs = [.int .i64 x0, .int .i64 x1, .int .i64 x2, .string x3] ∧ (Lit.int .i64 x0).wf = true ∧ (Lit.int .i64 x1).wf = true ∧ (Lit.int .i64 x2).wf = true ∧ x3.size ≤ maxLen := by
  obtain ⟨ys, n, hx, _, hl, hlen, hf⟩ := DataW.trod_struct Try.underlying30 h
  have hC : Try.prog.cellsOf 30 = 4 := by kernel_rfl
  rw [hC] at hl
  have g0 := hf 0 _ rfl
  have c0 : Try.prog.cellsOf 3 = 1 := by kernel_rfl
  have g1 := hf 1 _ rfl
  have c1 : Try.prog.cellsOf 3 = 1 := by kernel_rfl
  have g2 := hf 2 _ rfl
  have c2 : Try.prog.cellsOf 3 = 1 := by kernel_rfl
  have g3 := hf 3 _ rfl
  have c3 : Try.prog.cellsOf 9 = 1 := by kernel_rfl
  obtain ⟨d0, d1, d2, d3, rfl⟩ := list4 hl
  obtain ⟨y0, y1, y2, y3, rfl⟩ := list4 (show ys.length = 4 from hlen)
  simp [c0] at g0
  obtain ⟨x0, e0, _, f0⟩ := DataW.trod_int Try.underlying3 g0
  simp only [List.cons.injEq, and_true] at e0
  subst e0
  simp [c1] at g1
  obtain ⟨x1, e1, _, f1⟩ := DataW.trod_int Try.underlying3 g1
  simp only [List.cons.injEq, and_true] at e1
  subst e1
  simp [c2] at g2
  obtain ⟨x2, e2, _, f2⟩ := DataW.trod_int Try.underlying3 g2
  simp only [List.cons.injEq, and_true] at e2
  subst e2
  simp [c3] at g3
  obtain ⟨x3, e3, _, f3⟩ := DataW.trod_string Try.underlying9 g3
  simp only [List.cons.injEq, and_true] at e3
  subst e3
  exact ⟨x0, x1, x2, x3, rfl, f0, f1, f2, f3⟩
theorem open30 {H : Type} {enc : TypeId × Value → H} {W : World} {base : Nat} {v : Value} {d : DataW H} {p : List MemPlace}
    (hv : Value.okWide Try.prog W .any base 30 v) (h : DataW.Trod enc Try.prog W 0 (fun _ => true) true 30 v d p) :
    ∃ (x0 : Int) (x1 : Int) (x2 : Int) (x3 : ByteArray), v = .agg #[.int .i64 x0, .int .i64 x1, .int .i64 x2, .string x3] ∧ (Lit.int .i64 x0).wf = true ∧ (Lit.int .i64 x1).wf = true ∧ (Lit.int .i64 x2).wf = true ∧ x3.size ≤ maxLen := by
  obtain ⟨cs, rfl, hsz⟩ := okWide_struct Try.underlying30 hv
  obtain ⟨fuel, hf⟩ := h
  obtain ⟨x0, x1, x2, x3, e, f⟩ := row30 hf
  have e' : cs.toList = _ := e
  obtain rfl : cs = #[.int .i64 x0, .int .i64 x1, .int .i64 x2, .string x3] := by rw [← Array.toArray_toList (xs := cs), e']
  exact ⟨x0, x1, x2, x3, rfl, f⟩

/-! ### The walk -/
theorem range_blk {w : World} {b : Nat} {cs : List Value} {t : TypeId} {fr : Nat × Nat} (h : w.heap[b]? = some (.cells cs.toArray t fr)) : w.rangeAt b 0 cs := fun j v hv => by
  unfold World.cell?
  rw [h]
  show cs.toArray[0 + j]? = _
  rw [Nat.zero_add]; simpa using hv
def VA (W : World) (a2 pk vk vn : Int) (vs : ByteArray) (r : Value) : Nat → Value → World → Prop
  | 0, v, _ => v = .int .i64 a2
  | 1, v, _ => v = .int .i64 pk
  | 2, v, _ => v = .int .i64 (1 + pk)
  | 3, v, _ => v = r
  | 4, v, _ => v = .agg #[.int .i64 vk, .int .i64 vn, .string vs]
  | 5, v, w => ∃ B, v = .pointer (some ⟨B, 0, none⟩) ∧ W.heap.size ≤ B ∧ w.heap[B]? = some (.cells #[.int .i64 0, .int .i64 0, .string ⟨#[]⟩] 24 (0, 0))
  | _, _, _ => False
theorem VA.mono (W : World) (a2 pk vk vn : Int) (vs : ByteArray) (r : Value) : ∀ i v w w', Below w.heap.size w w' → VA W a2 pk vk vn vs r i v w → VA W a2 pk vk vn vs r i v w' := fun i v w w' hb h => by
  match i, h with
  | 5, ⟨B, h1, h2, h3⟩ => exact ⟨B, h1, h2, (hb.block _ (Array.getElem?_eq_some_iff.1 h3).1).trans h3⟩
  | 0, h | 1, h | 2, h | 3, h | 4, h => exact h
  | i + 6, h => exact h.elim
/-- What Told tells of a field of a form, where the value is known. -/
def tellE (kind ty vk : Int) : Int := if kind = 1 then (if vk = ty then 0 else 9) else 2
theorem told_form {rs : List Rw} {es es2 : List FE} (h : es.map FE.v = formF rs) (h2 : es2.map FE.v = formF rs) (i : Nat) (hi : i < es.length) {vk vn : Int} {vs : ByteArray} (hk : knownB vk vn vs.data.toList = true) : toldE (es2.map FE.fd) (es[i].nm) vk vn vs = tellE es[i].kind es[i].ty vk := by
  have hl : es2.length = es.length := by
    have := congrArg List.length (h2.trans h.symm); simpa using this
  have hv : (es2[i]'(by omega)).v = es[i].v := by
    have h3 : es2.map FE.v = es.map FE.v := h2.trans h.symm
    have h4 : (es2.map FE.v)[i]'(by simp; omega) = (es.map FE.v)[i]'(by simpa using hi) := by simp only [h3]
    rw [List.getElem_map, List.getElem_map] at h4
    exact h4
  have hn : (es2[i]'(by omega)).nm = es[i].nm := congrArg FV.nm hv
  have hkd : (es2[i]'(by omega)).kind = es[i].kind := congrArg FV.kind hv
  have hty : (es2[i]'(by omega)).ty = es[i].ty := congrArg FV.ty hv
  have ha := ((form_places h2).2.1 i (by omega)).1
  rw [hn] at ha
  unfold toldE
  have hlt : atF (es2.map FE.fd) es[i].nm < (es2.map FE.fd).length := by rw [ha, List.length_map]; omega
  rw [dif_pos hlt]
  have e1 : (es2.map FE.fd)[atF (es2.map FE.fd) es[i].nm] = (es2[i]'(by omega)).fd := by
    have : (es2.map FE.fd)[atF (es2.map FE.fd) es[i].nm] = (es2.map FE.fd)[i]'(by rw [List.length_map]; omega) := by simp only [ha]
    rw [this, List.getElem_map]
  rw [e1]
  show (if (es2[i]'(by omega)).kind = 1 then (if knownB vk vn vs.data.toList = true ∧ vk = (es2[i]'(by omega)).ty then (0 : Int) else 9) else 2) = _
  rw [hkd, hty, hk]
  unfold tellE
  by_cases h1 : es[i].kind = 1
  · rw [if_pos h1, if_pos h1]
    by_cases h5 : vk = es[i].ty
    · rw [if_pos ⟨rfl, h5⟩, if_pos h5]
    · rw [if_neg (fun h => h5 h.2), if_neg h5]
  · rw [if_neg h1, if_neg h1]
set_option maxRecDepth 100000 in
set_option maxHeartbeats 8000000 in
theorem walk (A0 : Option Addr) (n0 : Nat) (c0 : Nat) (a1_0 : Int) (a1_1 : Int) (a1_2 : Int) (a1_3 : ByteArray) (a2 : Int) (w1_0 : (Lit.int .i64 a1_0).wf = true) (w1_1 : (Lit.int .i64 a1_1).wf = true) (w1_2 : (Lit.int .i64 a1_2).wf = true) (w1_3 : a1_3.size ≤ maxLen) (w2 : (Lit.int .i64 a2).wf = true) (w : World) (hraw0 : RawL.Raws w A0 n0 c0) :
    Calls Try.prog 4 #[.slice A0 n0 c0, .agg #[.int .i64 a1_0, .int .i64 a1_1, .int .i64 a1_2, .string a1_3], .int .i64 a2] w fun e w' => e = .returned (.bool true) ∧ Below w.heap.size w w' := by
  obtain ⟨rs, rfl, hrv⟩ := RawN.Raws.val n0 hraw0
  obtain ⟨pk, hpk⟩ : ∃ p, pick a2 3 = p := ⟨_, rfl⟩
  have hpb := pick_bd a2 3 (by decide)
  have hp := fun V => picked_any a2 3 V w2 (by decide) (by decide)
  rw [hpk] at hpb hp
  obtain ⟨pb0, pb1⟩ := hpb
  have hval := fun V => value_any (1 + pk) a1_0 a1_1 a1_2 a1_3 V w1_0 w1_1 w1_3
  have hkn := v_known (1 + pk) a1_0 a1_1 a1_3
  have hvk : vK (1 + pk) = 1 + pk := by
    obtain rfl | rfl | rfl : pk = 0 ∨ pk = 1 ∨ pk = 2 := by omega
    all_goals rfl
  rw [hvk] at hval hkn
  generalize vN (1 + pk) a1_0 a1_1 = vn at hval hkn
  generalize vS (1 + pk) a1_3 = vs at hval hkn
  obtain ⟨vk, hvke⟩ : ∃ vk, 1 + pk = vk := ⟨_, rfl⟩
  have hval' : ∀ V : World, Calls Try.prog 8 #[.int .i64 (1 + pk), .agg #[.int .i64 a1_0, .int .i64 a1_1, .int .i64 a1_2, .string a1_3]] V fun e w' => e = .returned (.agg #[.int .i64 vk, .int .i64 vn, .string vs]) ∧ Below V.heap.size V w' := fun V => by rw [← hvke]; exact hval V
  rw [hvke] at hkn
  obtain ⟨W, hW⟩ : ∃ V, w.alloc (.cells #[.int .i64 a1_0, .int .i64 a1_1, .int .i64 a1_2, .string a1_3] 30) = V := ⟨_, rfl⟩
  have hb0 := b_new w (.cells #[.int .i64 a1_0, .int .i64 a1_1, .int .i64 a1_2, .string a1_3] 30)
  rw [hW] at hb0
  have hbox : ∀ V : World, Below W.heap.size W V → V.heap[w.heap.size]? = some (.cells [.int .i64 a1_0, .int .i64 a1_1, .int .i64 a1_2, .string a1_3].toArray 30 (0, 0)) := fun V hV => by
    have h1 : W.heap[w.heap.size]? = some (.cells [.int .i64 a1_0, .int .i64 a1_1, .int .i64 a1_2, .string a1_3].toArray 30 (0, 0)) := by rw [← hW]; exact World.alloc_heap_new w _
    exact (hV.block _ (Array.getElem?_eq_some_iff.1 h1).1).trans h1
  have hF : ∀ V : World, Below w.heap.size w V → Calls Try.prog 10 #[.slice A0 rs.length c0] V (FormOut rs V) := fun V hV => form_any c0 A0 rs V (hrv.below hV)
  have HF := Lib.hid hF
  have HP := Lib.hid hp
  have HV := Lib.hid hval'
  have HKn := Lib.hid hkn
  have HW := Lib.hid hW
  have HB0 := Lib.hid hb0
  have HBox := Lib.hid hbox
  have hf0 := @fld0
  clear hF hp hval hval' hkn hW hb0 hbox hvk hpk hvke hrv hraw0 w1_0 w1_1 w1_2 w1_3 w2
  go_enter Try.func4, Try.ntmps4
  go_wp2_with fail
  rw [HW.out]
  go_upto_region 1 with fail
  go_cut [7] (fun s7 wx => ∃ B : Nat, s7 = .pointer (some ⟨B, 0, none⟩) ∧ W.heap.size ≤ B ∧ wx.heap[B]? = some (.cells #[.int .i64 vk, .int .i64 vn, .string vs] 24 (0, 0)) ∧ Below W.heap.size W wx)
  case first =>
    have HM := Lib.hid (VA.mono W a2 pk vk vn vs (.agg #[.int .i64 a1_0, .int .i64 a1_1, .int .i64 a1_2, .string a1_3]))
    have hen1 : ∀ (args : Array Value) (w : World), (callFunc 9 args).run Try.prog w = .ok (.enter 9 args) w := fun _ _ => by kernel_rfl
    have hen2 : ∀ (args : Array Value) (w : World), (callFunc 8 args).run Try.prog w = .ok (.enter 8 args) w := fun _ _ => by kernel_rfl
    refine region_fill [(0, 11), (1, 12), (2, 13), (3, 14), (4, 15), (5, 7)] (JM W 6 (VA W a2 pk vk vn vs (.agg #[.int .i64 a1_0, .int .i64 a1_1, .int .i64 a1_2, .string a1_3])) (fun f w => ∃ B, f 5 = .pointer (some ⟨B, 0, none⟩) ∧ W.heap.size ≤ B ∧ w.heap[B]? = some (.cells #[.int .i64 vk, .int .i64 vn, .string vs] 24 (0, 0)) ∧ Below W.heap.size W w)) (fun f => by simp only [fill, Act.put, List.setIfInBounds_toArray, List.set_cons_zero, List.set_cons_succ]; rfl) (by kernel_rfl) (by kernel_rfl) (by kernel_rfl) (fun f => jm_start (Below.refl _ _) f) ?_ ?_
    · intro F hFr
      refine ⟨?_, ?_, ?_, ?_, ?_, ?_, ?_, trivial⟩
      · as_aux_lemma =>
        intro D f wx hJ hD hdep K9 hK
        obtain ⟨hL, hbw, hv⟩ := jm_live hJ (by decide) hD
        exact stepF_val rfl (op_move rfl (v := .int .i64 a2) (by rw [hFr]; kernel_rfl)) (by rw [hFr, hFr]; kernel_rfl) (hK (updf f 0 (.int .i64 a2)) _ (jm_step HM.out hJ (by decide) hD (b_ref _) rfl))
      · as_aux_lemma =>
        intro D f wx hJ hD hdep K9 hK
        obtain ⟨hL, hbw, hv⟩ := jm_live hJ (by decide) hD
        have e0 : f 0 = _ := hv 0 (by decide) (done hdep 0 (by kernel_rfl))
        refine stepF_callR rfl (op_enter rfl rfl (xs := #[.int .i64 a2, .int .i64 3]) (by rw [← e0, hFr]; kernel_rfl) hen1) (HP.out wx) ?_
        rintro e w5 ⟨rfl, rfl⟩
        have hk := hK (updf f 1 (.int .i64 pk)) wx (jm_step HM.out hJ (by decide) hD (b_ref _) rfl)
        refine ⟨_, rfl, ?_⟩
        rw [hFr] at hk ⊢
        exact hk
      · as_aux_lemma =>
        intro D f wx hJ hD hdep K9 hK
        obtain ⟨hL, hbw, hv⟩ := jm_live hJ (by decide) hD
        have e1 : f 1 = _ := hv 1 (by decide) (done hdep 1 (by kernel_rfl))
        have hl : (do eqGuard .add 3 (.const (.int .i64 1)) (.tmp 12) (.int .i64 1) (.int .i64 pk); binOp .add 3 (.int .i64 1) (.int .i64 pk) : Sem Value).run Try.prog wx = .ok (.int .i64 (1 + pk)) wx := by simp [go_sem, eqGuard, IntWalk.i64_in (1 + pk) (by omega)]
        exact stepF_val rfl (op_bin rfl (p := .int .i64 1) (q := .int .i64 pk) rfl ((show _ = f 1 from by rw [hFr]; kernel_rfl).trans e1) hl) (by rw [hFr, hFr]; kernel_rfl) (hK (updf f 2 (.int .i64 (1 + pk))) _ (jm_step HM.out hJ (by decide) hD (b_ref _) rfl))
      · as_aux_lemma =>
        intro D f wx hJ hD hdep K9 hK
        obtain ⟨hL, hbw, hv⟩ := jm_live hJ (by decide) hD
        have hblk := HBox.out wx hbw
        have hl : (Instr.loadAt 30 (.pointer (some ⟨w.heap.size, 0, none⟩))).run Try.prog wx = .ok (.agg #[.int .i64 a1_0, .int .i64 a1_1, .int .i64 a1_2, .string a1_3]) wx := run_loadAt_mid _ w.heap.size 0 30 [.int .i64 a1_0, .int .i64 a1_1, .int .i64 a1_2, .string a1_3] _ (range_blk hblk) Try.underlying30 rfl (by kernel_rfl)
        exact stepF_val rfl (op_load rfl (p := .pointer (some ⟨w.heap.size, 0, none⟩)) (by rw [hFr]; kernel_rfl) hl) (by rw [hFr, hFr]; kernel_rfl) (hK (updf f 3 (.agg #[.int .i64 a1_0, .int .i64 a1_1, .int .i64 a1_2, .string a1_3])) _ (jm_step HM.out hJ (by decide) hD (b_ref _) rfl))
      · as_aux_lemma =>
        intro D f wx hJ hD hdep K9 hK
        obtain ⟨hL, hbw, hv⟩ := jm_live hJ (by decide) hD
        have e2 : f 2 = _ := hv 2 (by decide) (done hdep 2 (by kernel_rfl))
        have e3 : f 3 = _ := hv 3 (by decide) (done hdep 3 (by kernel_rfl))
        refine stepF_callR rfl (op_enter rfl rfl (xs := #[.int .i64 (1 + pk), (.agg #[.int .i64 a1_0, .int .i64 a1_1, .int .i64 a1_2, .string a1_3])]) (by rw [← e2, ← e3, hFr]; kernel_rfl) hen2) (HV.out wx) ?_
        rintro e w5 ⟨rfl, hb5⟩
        have hk := hK (updf f 4 (.agg #[.int .i64 vk, .int .i64 vn, .string vs])) w5 (jm_step HM.out hJ (by decide) hD hb5 rfl)
        refine ⟨_, rfl, ?_⟩
        rw [hFr] at hk ⊢
        exact hk
      · as_aux_lemma =>
        intro D f wx hJ hD hdep K9 hK
        obtain ⟨hL, hbw, hv⟩ := jm_live hJ (by decide) hD
        have hl : (Instr.alloc 24 true (.tuple #[])).run Try.prog wx = .ok (.pointer (some ⟨wx.heap.size, 0, none⟩)) (wx.alloc (.cells #[.int .i64 0, .int .i64 0, .string ⟨#[]⟩] 24)) := by kernel_rfl
        exact stepF_val rfl (op_alloc rfl hl) (by rw [hFr, hFr]; kernel_rfl) (hK (updf f 5 (.pointer (some ⟨wx.heap.size, 0, none⟩))) _ (jm_step HM.out hJ (by decide) hD (b_new _ _) ⟨_, rfl, hbw.size, World.alloc_heap_new _ _⟩))
      · as_aux_lemma =>
        intro D f wx hJ hD hdep K9 hK
        obtain ⟨hL, hbw, hv⟩ := jm_live hJ (by decide) hD
        have d0 := done hdep 0 (by kernel_rfl)
        have d1 := done hdep 1 (by kernel_rfl)
        have d2 := done hdep 2 (by kernel_rfl)
        have d3 := done hdep 3 (by kernel_rfl)
        have d4 := done hdep 4 (by kernel_rfl)
        have d5 := done hdep 5 (by kernel_rfl)
        obtain ⟨B, e5, hB, hblk⟩ := hv 5 (by decide) d5
        have e4 : f 4 = .agg #[.int .i64 vk, .int .i64 vn, .string vs] := hv 4 (by decide) d4
        have hl : (Instr.storeAt 24 (.pointer (some ⟨B, 0, none⟩)) (.agg #[.int .i64 vk, .int .i64 vn, .string vs])).run Try.prog wx = .ok () (wx.setRow B #[.int .i64 vk, .int .i64 vn, .string vs]) := by
          simp only [Instr.storeAt, Instr.sureAddr, Sem.run_bind, Sem.run_pure, Result.andThen_ok]
          exact run_storeVar_row wx B 24 24 _ _ hblk (by kernel_rfl) rfl (by simp [Value.oneCell'])
        have hbl9 := below_setRow hbw hB #[.int .i64 vk, .int .i64 vn, .string vs]
        have hblk9 := setRow_heap wx B _ #[.int .i64 vk, .int .i64 vn, .string vs] _ _ hblk
        have hall : ∀ i, i < 6 → D i = true := fun i hi => by
          match i, hi with
          | 0, _ => exact d0
          | 1, _ => exact d1
          | 2, _ => exact d2
          | 3, _ => exact d3
          | 4, _ => exact d4
          | 5, _ => exact d5
        exact stepF_skip rfl rfl (op_store rfl ((show _ = f 5 from by rw [hFr]; kernel_rfl).trans e5) ((show _ = f 4 from by rw [hFr]; kernel_rfl).trans e4) hl) (hK f _ (jm_last hall ⟨B, e5, hB, hblk9, hbl9⟩))
    · intro D f wx hJ hall
      obtain ⟨B, e5, hB, hblk, hbw⟩ := jm_end hJ (hall 6 (by decide))
      have HX := Lib.hid (And.intro hB (And.intro hblk hbw))
      clear hB hblk hbw hJ hall
      rw [e5]
      go_wp2_with fail
      go_meet
      exact ⟨B, rfl, HX.out⟩
  case rest =>
    obtain ⟨W1, rfl⟩ : ∃ V, V = wc := ⟨_, rfl⟩
    obtain ⟨B, rfl, hB, hblk, hbw⟩ := hcut
    have hb1 := b_trans HB0.out hbw
    have HFa := Lib.hid (HF.out W1 hb1)
    have HB1 := Lib.hid hb1
    have HBlk := Lib.hid hblk
    clear hb1 hblk hbw hB
    go_wp2_with fail
    refine HFa.out.mono ?_; rintro e w1 ⟨es, FA, fc, ps, PA, pc, rfl, hv, hpv, hfr, hpr, hb⟩
    obtain ⟨hcl, hpl, hno⟩ := form_places hv
    have hcb := countV_bd rs
    have hnl : es.length ≤ 10 := by omega
    have hfl := frow_flds hfr
    have hval9 : ∀ V : World, Below w1.heap.size w1 V → V.heap[B]? = some (.cells #[.int .i64 vk, .int .i64 vn, .string vs] 24 (0, 0)) := fun V hV => by
      have h1 : w1.heap[B]? = _ := (hb.block _ (Array.getElem?_eq_some_iff.1 HBlk.out).1).trans HBlk.out
      exact (hV.block _ (Array.getElem?_eq_some_iff.1 h1).1).trans h1
    have hbw1 := b_trans HB1.out hb
    have hat : ∀ (i : Nat) (hi : i < es.length) (V : World), Below w1.heap.size w1 V → ∃ ad, FA = some ad ∧ FdAt V (ad.add (i * 9)) es[i].fd := fun i hi V hV => by
      obtain ⟨ad, e, h⟩ := hfl.below hV i (by simpa using hi)
      exact ⟨ad, e, by rw [List.getElem_map] at h; exact h⟩
    have hasks : ∀ (i : Nat) (hi : i < es.length) (V : World) (es2 : List FE) (FA2 : Option Addr) (fc2 : Nat), es2.map FE.v = formF rs → Flds V FA2 (es2.map FE.fd) → Calls Try.prog 6 #[.slice FA2 es2.length fc2, .string es[i].nm, .agg #[.int .i64 vk, .int .i64 vn, .string vs]] V fun e w' => e = .returned (.int .i64 (tellE es[i].kind es[i].ty vk)) ∧ Below V.heap.size V w' := fun i hi V es2 FA2 fc2 h2 hf2 => by
      have := told_any es[i].nm vk vn vs (es2.map FE.fd) FA2 fc2 V hf2 (by rw [List.length_map, (form_places h2).1]; omega)
      rw [told_form hv h2 i hi HKn.out, List.length_map] at this
      exact this
    have HAt := Lib.hid hat
    have HAsks := Lib.hid hasks
    have HVal := Lib.hid hval9
    have HBw1 := Lib.hid hbw1
    clear hat hasks hval9 hbw1 hcl hpl hno hfl hcb hv hpv hfr hpr hb
    go_wp2_with fail
    go_loopw [9, 10, 20] (fun _ _ ii wr => ∃ i : Nat, ii = .int .i64 i ∧ i ≤ es.length ∧ Below w1.heap.size w1 wr) (fun _ _ ii _ => es.length - (intOf ii).toNat)
    case atStart => exact ⟨0, rfl, by omega, Below.refl _ _⟩
    case round =>
      obtain ⟨i, rfl, hile, hbr⟩ := hrel
      by_cases hlt : i < es.length
      · obtain ⟨ad, rfl, q0, q1, q2, q3, q4, q5, q6, q7, q8⟩ := HAt.out i hlt wr hbr
        have hask := HAsks.out i hlt
        obtain ⟨f, hf⟩ : ∃ f, es[i].fd = f := ⟨_, rfl⟩
        have hfn : es[i].nm = f.nm := by rw [← hf]; rfl
        have hfk : es[i].kind = f.kind := by rw [← hf]; rfl
        have hft : es[i].ty = f.ty := by rw [← hf]; rfl
        rw [hf] at q0 q1 q2 q3 q4 q5 q6 q7 q8
        rw [hfn, hfk, hft] at hask
        obtain ⟨W5, hW5⟩ : ∃ V, wr.alloc (.cells #[.string f.nm, .int .i64 f.kind, .int .i64 f.ty, .int .i64 f.d.op, .int .i64 f.d.k, .int .i64 f.d.n, .string f.d.s, .string f.d.nm, .slice f.A f.n f.c] 41) = V := ⟨_, rfl⟩
        obtain ⟨B9, hB9⟩ : ∃ B, wr.heap.size = B := ⟨_, rfl⟩
        have hbx := b_more hbr (.cells #[.string f.nm, .int .i64 f.kind, .int .i64 f.ty, .int .i64 f.d.op, .int .i64 f.d.k, .int .i64 f.d.n, .string f.d.s, .string f.d.nm, .slice f.A f.n f.c] 41)
        rw [hW5] at hbx
        have hblk5 : W5.heap[B9]? = some (.cells #[.string f.nm, .int .i64 f.kind, .int .i64 f.ty, .int .i64 f.d.op, .int .i64 f.d.k, .int .i64 f.d.n, .string f.d.s, .string f.d.nm, .slice f.A f.n f.c] 41 (0, 0)) := by rw [← hW5, ← hB9]; exact World.alloc_heap_new wr _
        have hcell : ∀ V : World, Below W5.heap.size W5 V → V.cell? ⟨B9, 0, none⟩ = some (.string f.nm) ∧ V.cell? ⟨B9, 1, none⟩ = some (.int .i64 f.kind) ∧ V.cell? ⟨B9, 2, none⟩ = some (.int .i64 f.ty) ∧ V.cell? ⟨B, 0, none⟩ = some (.int .i64 vk) ∧ V.cell? ⟨B, 1, none⟩ = some (.int .i64 vn) ∧ V.cell? ⟨B, 2, none⟩ = some (.string vs) := fun V hV => by
          have e1 : V.heap[B9]? = _ := (hV.block _ (Array.getElem?_eq_some_iff.1 hblk5).1).trans hblk5
          have e2 := HVal.out V (b_trans hbx hV)
          exact ⟨by simp [World.cell?, e1], by simp [World.cell?, e1], by simp [World.cell?, e1], by simp [World.cell?, e2], by simp [World.cell?, e2], by simp [World.cell?, e2]⟩
        have hform : ∀ V : World, Below W5.heap.size W5 V → Calls Try.prog 10 #[.slice A0 rs.length c0] V (FormOut rs V) := fun V hV => HF.out V (b_trans (b_trans HBw1.out hbx) hV)
        have HCell := Lib.hid hcell
        have HForm := Lib.hid hform
        have HAsk := Lib.hid hask
        have HW5 := Lib.hid hW5
        have HB9 := Lib.hid hB9
        have HBx := Lib.hid hbx
        have hbl := Below.refl W5.heap.size W5
        obtain ⟨k0, k1, k2, k3, k4, k5⟩ := hcell W5 hbl
        obtain ⟨R, hR⟩ : ∃ R, tellE f.kind f.ty vk = R := ⟨_, rfl⟩
        rw [hR] at HAsk
        have HR := Lib.hid hR
        have hi10 : i ≤ 10 := by omega
        clear hcell hform hask hW5 hB9 hbx hbr hf hfn hfk hft hblk5 hR
        go_wp2_with fail
        rw [HW5.out, HB9.out]
        go_upto_region 5 with fail
        go_cut [10] (fun s10 wx => s10 = .int .i64 R ∧ Below W5.heap.size W5 wx)
        case first =>
          first | (go_region_law (first | (go_simp; go_at_call 10; (with_reducible refine (HForm.out _ ?_).mono ?_); (first | exact hbl | exact b_drew hbl); rintro e w6 ⟨es2, FA2, fc2, ps2, PA2, pc2, rfl, hv2, hpv2, hfr2, hpr2, hb6⟩; have hbl : Below W5.heap.size W5 w6 := (by first | exact b_step hbl hb6 | exact b_step (b_drew hbl) hb6); have hfl2 := frow_flds hfr2; obtain ⟨k0, k1, k2, k3, k4, k5⟩ := HCell.out w6 hbl) | (go_simp; go_at_call 6; (with_reducible refine (HAsk.out _ es2 FA2 fc2 hv2 ?_).mono ?_); (first | exact hfl2 | exact hfl2.below (b_drew (Below.refl _ _))); rintro e w7 ⟨rfl, hb7⟩; have hbl : Below W5.heap.size W5 w7 := (by first | exact b_step hbl hb7 | exact b_step (b_drew hbl) hb7)))) | (fail)
          all_goals (go_wp2_with fail; go_meet; first | exact ⟨rfl, hbl⟩ | exact ⟨rfl, b_drew hbl⟩)
        case rest =>
          obtain ⟨W6, rfl⟩ : ∃ V, V = wc := ⟨_, rfl⟩
          obtain ⟨rfl, hbl6⟩ := hcut
          obtain ⟨m0, m1, m2, m3, m4, m5⟩ := HCell.out W6 hbl6
          have HBl6 := Lib.hid (b_trans HBx.out hbl6)
          clear hbl6 k0 k1 k2 k3 k4 k5
          by_cases h1 : f.kind = 1
          · have t1 : (f.kind == 1) = true := beq_iff_eq.2 h1
            by_cases h2 : vk = f.ty
            · have t2 : (f.ty == vk) = true := by rw [h2]; simp
              have hR0 : R = 0 := by rw [← HR.out]; unfold tellE; rw [if_pos h1, if_pos h2]
              subst hR0
              clear h1 h2
              go_wp2_with fail
              go_roundw
              case rel => exact ⟨i + 1, by go_num, by omega, HBl6.out⟩
              case measure => simp [intOf]; omega
            · have t2 : (f.ty == vk) = false := beq_eq_false_iff_ne.2 fun e => h2 e.symm
              have hR0 : R = 9 := by rw [← HR.out]; unfold tellE; rw [if_pos h1, if_neg h2]
              subst hR0
              clear h1 h2
              go_wp2_with fail
              go_roundw
              case rel => exact ⟨i + 1, by go_num, by omega, HBl6.out⟩
              case measure => simp [intOf]; omega
          · have t1 : (f.kind == 1) = false := beq_eq_false_iff_ne.2 h1
            have hR0 : R = 2 := by rw [← HR.out]; unfold tellE; rw [if_neg h1]
            subst hR0
            clear h1
            go_wp2_with fail
            go_roundw
            case rel => exact ⟨i + 1, by go_num, by omega, HBl6.out⟩
            case measure => simp [intOf]; omega
      · have hblk := HVal.out wr hbr
        have hl := (Array.getElem?_eq_some_iff.1 hblk).1
        have m0 : wr.cell? ⟨B, 0, none⟩ = some (.int .i64 vk) := by simp [World.cell?, hblk]
        have m1 : wr.cell? ⟨B, 1, none⟩ = some (.int .i64 vn) := by simp [World.cell?, hblk]
        have m2 : wr.cell? ⟨B, 2, none⟩ = some (.string vs) := by simp [World.cell?, hblk]
        have h5 : toldE [] ⟨#[97]⟩ vk vn vs = 5 := by unfold toldE; rw [dif_neg (by simp)]
        have hc1 := told_any ⟨#[97]⟩ vk vn vs [] none 0 wr (fun i hi => absurd hi (by simp)) (by simp)
        rw [h5] at hc1
        have HC1 := Lib.hid hc1
        have HBr := Lib.hid (b_trans HBw1.out hbr)
        have HBlk9 := Lib.hid hblk
        clear hc1 h5 hbr hblk
        go_wp2_with fail
        refine HC1.out.mono ?_; rintro e w8 ⟨rfl, hb8⟩
        obtain ⟨cA, cB⟩ := bcell hb8
        have hz := zlt hb8
        have hone : toldE [⟨⟨#[97]⟩, 1, vk, ⟨0, 0, 0, ⟨#[]⟩, ⟨#[]⟩⟩, none, 0, 0⟩] ⟨#[97]⟩ vk vn vs = 0 := by
          have e0 : atF [⟨⟨#[97]⟩, 1, vk, ⟨0, 0, 0, ⟨#[]⟩, ⟨#[]⟩⟩, none, 0, 0⟩] ⟨#[97]⟩ = 0 := by unfold atF; rw [if_pos rfl]
          unfold toldE
          rw [dif_pos (by rw [e0]; exact Nat.zero_lt_one)]
          simp only [e0]
          show (if (1 : Int) = 1 then (if knownB vk vn vs.data.toList = true ∧ vk = vk then (0 : Int) else 9) else 2) = 0
          rw [if_pos rfl, if_pos ⟨HKn.out, rfl⟩]
        have hc2 := told_any ⟨#[97]⟩ vk vn vs [⟨⟨#[97]⟩, 1, vk, ⟨0, 0, 0, ⟨#[]⟩, ⟨#[]⟩⟩, none, 0, 0⟩] (some ⟨w8.heap.size, 0, none⟩) 1 (w8.alloc (.cells #[.string ⟨#[97]⟩, .int .i64 1, .int .i64 vk, .int .i64 0, .int .i64 0, .int .i64 0, .string ⟨#[]⟩, .string ⟨#[]⟩, .slice none 0 0] 41)) (fun i hi => by
          obtain rfl : i = 0 := by simpa using hi
          refine ⟨_, rfl, ?_⟩
          rw [add_block]
          refine fdAt_of fun j hj => ?_
          rw [cell_blk (World.alloc_heap_new w8 _)]
          match j, hj with
          | 0, _ | 1, _ | 2, _ | 3, _ | 4, _ | 5, _ | 6, _ | 7, _ | 8, _ => rfl) (by simp)
        rw [hone] at hc2
        have HC2 := Lib.hid hc2
        have HB8 := Lib.hid (b_trans HBr.out hb8)
        clear hc2 hone hb8
        go_wp2_with fail
        refine HC2.out.mono ?_; rintro e w9 ⟨rfl, hb9⟩
        have HB9 := Lib.hid (b_trans HB8.out (b_then hb9))
        clear hb9
        go_wp2_with fail
        go_ret
        exact ⟨rfl, HB9.out⟩

/-! ### The row's step -/
set_option maxRecDepth 100000 in
theorem lifted (os : Os) (started : os.Started) (H : Type) (enc : TypeId × Value → H) :
    ReturnsInHanded {} Try.checked os 4 .any (Rows.fieldAsksSpec.pre6 enc Try.prog Try.f4 Rows.fieldAsksRow.domain false) (Rows.fieldAsksSpec.post enc Try.prog Try.f4 false true false false) := by
  refine returnsInHanded_of_change (C := Try.checked) own started (by kernel_rfl) Try.func4
    (ChangeSpec.witness6 (enc := enc) (C := Try.checked) false ⟨#[], #[.slice none 0 0, .agg #[.int .i64 0, .int .i64 0, .int .i64 0, .string ⟨#[]⟩], .int .i64 0], []⟩ 8 (by kernel_rfl) (by kernel_rfl) (by kernel_rfl) (by kernel_rfl)) ?_
  intro W base args ds gs before hval0 hW hcnd _
  have hval : ∀ (j : Nat) t v, Try.f4.params[j]? = some t → args[j]? = some v → Value.okWide Try.prog W .any base t v := hval0
  have hW' := hW
  obtain ⟨p, q, hA0, hV, rfl, hfz, hnd⟩ := hW
  have hA : DataW.TrodAll enc Try.prog W 0 (fun _ => true) true Try.f4.params.toList args.toList ds p := hA0
  rw [Try.params4] at hA hval
  obtain ⟨v0, vs0, d0, ds0, p0, q0, hargs, rfl, rfl, h0, r0⟩ := trodAll_cons hA
  obtain ⟨v1, vs1, d1, ds1, p1, q1, rfl, rfl, rfl, h1, r1⟩ := trodAll_cons r0
  obtain ⟨v2, vs2, d2, ds2, p2, q2, rfl, rfl, rfl, h2, r2⟩ := trodAll_cons r1
  obtain ⟨rfl, rfl, rfl⟩ := trodAll_nil r2
  obtain rfl : args = #[v0, v1, v2] := by cases args; simp_all
  obtain ⟨rfl, rfl⟩ := trodVars_none hV
  have k0 := h0
  have lt0 : ∀ x ∈ p0, x.block < W.heap.size := by obtain ⟨m, hm⟩ := k0; exact DataW.trod_lt m _ _ _ hm
  obtain ⟨A0, n0, c0, rfl, hraw0⟩ := RawO.open_raws (hval 0 28 v0 rfl rfl) h0
  have k1 := h1
  have lt1 : ∀ x ∈ p1, x.block < W.heap.size := by obtain ⟨m, hm⟩ := k1; exact DataW.trod_lt m _ _ _ hm
  obtain ⟨a1_0, a1_1, a1_2, a1_3, rfl, w1_0, w1_1, w1_2, w1_3⟩ := open30 (hval 1 30 v1 rfl rfl) h1
  have k2 := h2
  have lt2 : ∀ x ∈ p2, x.block < W.heap.size := by obtain ⟨m, hm⟩ := k2; exact DataW.trod_lt m _ _ _ hm
  obtain ⟨a2, rfl, rfl, rfl, w2⟩ := open_int Try.underlying3 (hval 2 3 v2 rfl rfl) h2
  clear hA0 hval0
  refine (walk A0 n0 c0 a1_0 a1_1 a1_2 a1_3 a2 w1_0 w1_1 w1_2 w1_3 w2 W hraw0).mono fun e W' ⟨he, bel⟩ => ?_
  subst he
  exact ⟨_, rfl, _, _, _, [], _, [], hW', trodAll_mk1 (shut_bool Try.underlying4 _), (trodAll_cons_mk (Below.trod laidOut (by kernel_rfl) (of_decide_eq_true (by kernel_rfl)) k0 bel lt0) (trodAll_cons_mk (Below.trod laidOut (by kernel_rfl) (of_decide_eq_true (by kernel_rfl)) k1 bel lt1) (trodAll_cons_mk (Below.trod laidOut (by kernel_rfl) (of_decide_eq_true (by kernel_rfl)) k2 bel lt2) trodAll_mk0))), rfl, bel.frame _, fun h => by cases h⟩

theorem over : Rows.fieldAsksRow.holds Try.pinned (OpenSpec.ofChange Rows.fieldAsksSpec) :=
  OpenClaim.holds_of_wide 4 Try.f4 rfl rfl rfl rfl rfl rfl rfl ⟨rfl, rfl, rfl, rfl, rfl⟩ rfl rfl rfl rfl rfl (by kernel_rfl) Try.func4 (by kernel_rfl)
    (of_decide_eq_true (by kernel_rfl)) (by unfold Func.isWrapper; first | (rw [if_pos (by decide +kernel)]; kernel_rfl) | (rw [if_neg (by decide +kernel)]; exact ⟨rfl, rfl⟩))
    (fun os started H enc _ => lifted os started H enc)

theorem proved : Rows.FieldAsksSaid := over
#print axioms proved
end Go.Proofs.Ytmelbldmpnepcaa.fieldAsks
