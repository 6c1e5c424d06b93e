/- What is proved: the Go law lychwaykeep.ValueBack returns true for all its arguments, and leaves them as they were. No condition. -/
import Derived.Test.YtlcilibelbmeeaaDoorRows
import Derived.Test.YtlcilibelbmeeaaDoorParse
import Derived.Test.YtlcilibelbmeeaaDoorShow
import Derived.Test.YtlcilibelbmeeaaDoorRawValue
import Derived.Test.YtlcilibelbmeeaaDoorKit
import Derived.WalkKit
import Derived.ProofKit
import Derived.OpenShut
import Derived.Deep.RegionHeld3
import Derived.Deep.DeepCutAuto
import Derived.Deep.QuietTactic
import Derived.BigQuiet
import Derived.WalkSpells
import Derived.WalkLawsBesides
import Derived.Lib.Hide
import Derived.Outline
import Derived.ShutString
import Derived.ChangeOld
import Derived.Below
import Derived.LaidMore
import Derived.SizedLaws
import Derived.Stop.Joined
import Derived.Stop.LaidErr
import Derived.Lib.LaidTab
import Derived.SevenTiedAt
import Derived.Test.YtlcilibelbmeeaaDoorCards
import Derived.Test.YtlcilibelbmeeaaDoorTie
namespace Go.Proofs.YtlcilibelbmeeaaDoor.valueBack
open NumM ValM Kit ShowM Show Parse Within RawV
open Go.ChangeShapes Go.WideShapes Go.ChangeAt Go.RowKit
open Go.ChangeMaps (open_string shut_string)
set_option linter.unusedVariables false

theorem own : ownKnob Tryd.prog.godebug = none := by kernel_rfl
theorem laidOut : laidOutB Tryd.prog = true := by kernel_rfl

theorem list4 {α : Type} {cs : List α} (h : cs.length = 4) : ∃ d0 d1 d2 d3, cs = [d0, d1, d2, d3] := by
  match cs, h with
  | [d0, d1, d2, d3], _ => exact ⟨d0, d1, d2, d3, rfl⟩
theorem row32 {H : Type} {enc : TypeId × Value → H} {W : World} {cs : List Value} {fuel : Nat} {y : DataW H × List MemPlace}
    (h : DataW.trod enc Tryd.prog W 0 (fun _ => true) true fuel 32 cs = some y) :
    ∃ (x0 : Int) (x1 : Int) (x2 : Int) (x3 : ByteArray), cs = [.int .i64 x0, .int .i64 x1, .int .i64 x2, .string x3] ∧ (Lit.int .i64 x0).wf = true ∧ (Lit.int .i64 x1).wf = true ∧ (Lit.int .i64 x2).wf = true ∧ x3.size ≤ maxLen := by
  obtain ⟨ys, n, hx, _, hl, hlen, hf⟩ := DataW.trod_struct Tryd.underlying32 h
  have hC : Tryd.prog.cellsOf 32 = 4 := by kernel_rfl
  rw [hC] at hl
  have g0 := hf 0 _ rfl
  have c0 : Tryd.prog.cellsOf 3 = 1 := by kernel_rfl
  have g1 := hf 1 _ rfl
  have c1 : Tryd.prog.cellsOf 3 = 1 := by kernel_rfl
  have g2 := hf 2 _ rfl
  have c2 : Tryd.prog.cellsOf 3 = 1 := by kernel_rfl
  have g3 := hf 3 _ rfl
  have c3 : Tryd.prog.cellsOf 9 = 1 := by kernel_rfl
  obtain ⟨d0, d1, d2, d3, rfl⟩ := list4 hl
  obtain ⟨y0, y1, y2, y3, rfl⟩ := list4 (show ys.length = 4 from hlen)
  simp [c0] at g0
  obtain ⟨x0, e0, _, f0⟩ := DataW.trod_int Tryd.underlying3 g0
  simp only [List.cons.injEq, and_true] at e0
  subst e0
  simp [c1] at g1
  obtain ⟨x1, e1, _, f1⟩ := DataW.trod_int Tryd.underlying3 g1
  simp only [List.cons.injEq, and_true] at e1
  subst e1
  simp [c2] at g2
  obtain ⟨x2, e2, _, f2⟩ := DataW.trod_int Tryd.underlying3 g2
  simp only [List.cons.injEq, and_true] at e2
  subst e2
  simp [c3] at g3
  obtain ⟨x3, e3, _, f3⟩ := DataW.trod_string Tryd.underlying9 g3
  simp only [List.cons.injEq, and_true] at e3
  subst e3
  exact ⟨x0, x1, x2, x3, rfl, f0, f1, f2, f3⟩
theorem open32 {H : Type} {enc : TypeId × Value → H} {W : World} {base : Nat} {v : Value} {d : DataW H} {p : List MemPlace}
    (hv : Value.okWide Tryd.prog W .any base 32 v) (h : DataW.Trod enc Tryd.prog W 0 (fun _ => true) true 32 v d p) :
    ∃ (x0 : Int) (x1 : Int) (x2 : Int) (x3 : ByteArray), v = .agg #[.int .i64 x0, .int .i64 x1, .int .i64 x2, .string x3] ∧ (Lit.int .i64 x0).wf = true ∧ (Lit.int .i64 x1).wf = true ∧ (Lit.int .i64 x2).wf = true ∧ x3.size ≤ maxLen := by
  obtain ⟨cs, rfl, hsz⟩ := okWide_struct Tryd.underlying32 hv
  obtain ⟨fuel, hf⟩ := h
  obtain ⟨x0, x1, x2, x3, e, f⟩ := row32 hf
  have e' : cs.toList = _ := e
  obtain rfl : cs = #[.int .i64 x0, .int .i64 x1, .int .i64 x2, .string x3] := by rw [← Array.toArray_toList (xs := cs), e']
  exact ⟨x0, x1, x2, x3, rfl, f⟩

/-! ### The walk -/
theorem itoa_le (n : Int) (h1 : -1099511627776 ≤ n) (h2 : n ≤ 1099511627776) : (Lib.itoa n).length ≤ 30 := by have := ParseM.itoa_short n h1 h2; omega
theorem show_len {k n : Int} {l : List UInt8} (h : valE k n l = 0) : (showL k n l).length ≤ 100 := by
  obtain ⟨h1, h2⟩ := val_ok h
  rcases num_ok h1 with ⟨rfl, g1, g2⟩ | ⟨rfl, g⟩ | ⟨rfl, rfl⟩ | ⟨rfl, rfl⟩ | ⟨rfl, g1, g2⟩
  · have e : showL 1 n l = Lib.itoa n := by simp [showL]
    rw [e]; have := itoa_le n g1 g2; omega
  · rcases g with rfl | rfl
    · show (Lib.formatBool false).length ≤ 100; decide
    · show (Lib.formatBool true).length ≤ 100; decide
  · have e : showL 3 0 l = 34 :: (escL l ++ [34]) := by simp [showL, quoteL]
    rw [e]; have := escL_len l; have := (str_ok h2).1; simp; omega
  · show ([63] : List UInt8).length ≤ 100; decide
  · have e : showL 5 n l = 33 :: Lib.itoa n := by simp [showL]
    rw [e]; have := itoa_le n (by omega) (by omega); simp; omega
theorem show_ne {k n : Int} {l : List UInt8} (h : valE k n l = 0) : showL k n l ≠ [] := fun e => by
  have := ParseM.cand_show (val_ok h).1 (val_ok h).2
  rw [e] at this
  revert this
  show ¬ (ParseM.candF [] = some (k, n, l))
  intro g
  have : ParseM.candF [] = none := by decide
  rw [this] at g; cases g
theorem walk (a0 : Int) (a1_0 : Int) (a1_1 : Int) (a1_2 : Int) (a1_3 : ByteArray) (w0 : (Lit.int .i64 a0).wf = true) (w1_0 : (Lit.int .i64 a1_0).wf = true) (w1_1 : (Lit.int .i64 a1_1).wf = true) (w1_2 : (Lit.int .i64 a1_2).wf = true) (w1_3 : a1_3.size ≤ maxLen) (w : World) (hp : Show.Pow w) (hErrRange : ∃ p, w.var? Tryd.prog "strconv.ErrRange" = some #[.iface 88 p]) (hErrSyntax : ∃ p, w.var? Tryd.prog "strconv.ErrSyntax" = some #[.iface 88 p]) :
    Calls Tryd.prog 5 #[.int .i64 a0, .agg #[.int .i64 a1_0, .int .i64 a1_1, .int .i64 a1_2, .string a1_3]] w fun e w' => e = .returned (.bool true) ∧ Below w.heap.size w w' := by
  have hv : Vars w := ⟨hp, hErrSyntax, hErrRange⟩
  have HV := Lib.hid hv
  clear hp hErrSyntax hErrRange hv
  obtain ⟨q, hq⟩ : ∃ q, pick a0 3 = q := ⟨_, rfl⟩
  have c0 := fun W => picked_any a0 3 W w0 (by omega) (by omega)
  have hb := pick_bd a0 3 (by omega)
  rw [hq] at c0 hb
  obtain ⟨hb1, hb2⟩ := hb
  have c1 := fun W => value_any (1 + q) a1_0 a1_1 a1_2 a1_3 W w1_0 w1_1 w1_3
  have hk := v_known (1 + q) a1_0 a1_1 a1_3
  obtain ⟨k, hk1⟩ : ∃ k, vK (1 + q) = k := ⟨_, rfl⟩
  obtain ⟨n, hn1⟩ : ∃ n, vN (1 + q) a1_0 a1_1 = n := ⟨_, rfl⟩
  obtain ⟨t, ht1⟩ : ∃ t, vS (1 + q) a1_3 = t := ⟨_, rfl⟩
  rw [hk1, hn1, ht1] at c1 hk
  have he : valE k n t.data.toList = 0 := by
    unfold knownB at hk; simp only [Bool.and_eq_true, decide_eq_true_eq] at hk; exact hk.2
  have c4 := fun W => Val.known_any k n t W
  rw [hk] at c4
  have hlen := show_len he
  have hne := show_ne he
  obtain ⟨s, hs⟩ : ∃ s : ByteArray, ByteArray.mk (showL k n t.data.toList).toArray = s := ⟨_, rfl⟩
  have hsl : showL k n t.data.toList = s.data.toList := by rw [← hs]
  have c2 := fun W hp => show_good k n t W he hp
  rw [hs] at c2
  rw [hsl] at hlen hne
  have c3 := parse_of k n t s (by rw [len_size] at hlen; omega) he hsl
  have hne' : s.toList.isEmpty = false ∧ (!s.toList.isEmpty) = true := by
    have := Val.empty_b s (by
      rcases Nat.eq_zero_or_pos s.size with g | g
      · exact absurd (nil_of_size s g) hne
      · exact g)
    exact ⟨this.2, this.1⟩
  obtain ⟨e1, e2⟩ := hne'
  have C0 := Lib.hid c0
  have C1 := Lib.hid c1
  have C2 := Lib.hid c2
  have C3 := Lib.hid c3
  have C4 := Lib.hid c4
  clear c0 c1 c2 c3 c4 hq hk hk1 hn1 ht1 he hlen hne hs hsl w0 w1_0 w1_1 w1_2 w1_3
  have hsum : IntKind.i64.wrap (1 + q) = 1 + q := IntWalk.i64_in _ (by omega)
  clear hb1 hb2
  go_enter Tryd.func5, Tryd.ntmps5
  go_upto_region 1 with fail
  go_cut [4, 5] (fun s4 s5 wx => ∃ B : Nat, s4 = .bool false ∧ s5 = .pointer (some ⟨B, 0, none⟩) ∧ wx.cell? ⟨B, 0, none⟩ = some (.int .i64 k) ∧ wx.cell? ⟨B, 1, none⟩ = some (.int .i64 n) ∧ wx.cell? ⟨B, 2, none⟩ = some (.string t) ∧ B < wx.heap.size ∧ Below w.heap.size w wx)
  case first =>
    go_region_held3 (fun w' => w'.cell? ⟨w.heap.size, 0, none⟩ = some (.int .i64 a1_0) ∧ w'.cell? ⟨w.heap.size, 1, none⟩ = some (.int .i64 a1_1) ∧ w'.cell? ⟨w.heap.size, 2, none⟩ = some (.int .i64 a1_2) ∧ w'.cell? ⟨w.heap.size, 3, none⟩ = some (.string a1_3)) (go_keep)
      (first | (go_at_call 12; (with_reducible refine (C0.out _).mono ?_); rintro e w1 ⟨rfl, rfl⟩) | (go_at_call 11; (with_reducible refine (C1.out _).mono ?_); rintro e w1 ⟨rfl, b1⟩; obtain ⟨d1, f1⟩ := bcell b1; obtain ⟨g0, g1, g2, g3, g4⟩ := box4 w.heap.size a1_0 a1_1 a1_2 a1_3 b1 (by first | (simp; done) | (simp; omega)) (by simp [go_sem]) (by simp [go_sem]) (by simp [go_sem]) (by simp [go_sem]); have z1 := zlt b1))
    all_goals (go_wp2_with fail; go_meet)
    all_goals (first | exact ⟨_, rfl, rfl, by simp [go_sem], by simp [go_sem], by simp [go_sem], by simp, b_more (b_thenD b1) _⟩ | exact ⟨_, rfl, rfl, by simp [go_sem, d1], by simp [go_sem, d1], by simp [go_sem, d1], by rw [sz_set, sz_set, sz_set]; exact z1 _ (by simp), b_set3 (b_then (b_thenD b1)) _ (by simp) _ _ _⟩)
  case rest =>
    obtain ⟨B, rfl, rfl, m0, m1, m2, hB, b1⟩ := hcut
    have V1 := Lib.hid (HV.out.below b1)
    go_wp2_with fail
    refine (C2.out _ V1.out.pow).mono ?_; rintro e w2 ⟨rfl, b2⟩
    have V2 := Lib.hid (V1.out.below b2)
    obtain ⟨g0, g1, g2, g3⟩ := box3 B k n t b2 hB m0 m1 m2
    go_wp2_with fail
    refine (C3.out _ V2.out).mono ?_; rintro e w3 ⟨rfl, b3⟩
    obtain ⟨g0, g1, g2, g3⟩ := box3 B k n t b3 g3 g0 g1 g2
    go_wp2_with fail
    refine (C4.out _).mono ?_; rintro e w4 ⟨rfl, b4⟩
    go_wp2_with fail
    go_ret
    exact ⟨rfl, b_trans b1 (b_trans b2 (b_trans b3 (b_then b4)))⟩

/-- The door's own heap meets the condition. -/
theorem door_met (os : Os) (args : Array Value) : laidMetH Tryd.prog Rows.valueBackRow.laid ((World.doorLaid Tryd.prog 62 os).forCall (fun _ _ => 0) ⟨#[], args, []⟩).memory :=
  laidMetH_of_parts3 (fuel := 8) (laidMet_of_run' 8 (by kernel_rfl) (by kernel_rfl)) (by kernel_rfl) (by kernel_rfl)

theorem star : "*" ++ "errors.errorString" = "*errors.errorString" := by decide
theorem row_es (u : TypeId) (h : Tryd.prog.typeName? 3 u = some "*errors.errorString") : u = 88 :=
  typeName_ptr_named (nm := "errors.errorString") (by rw [star]; kernel_rfl) (by kernel_rfl) (by decide) u (by rw [star]; exact h)
theorem ErrRange_of {W : World} (h : laidMetH Tryd.prog Rows.valueBackRow.laid W) : ∃ p, W.var? Tryd.prog "strconv.ErrRange" = some #[.iface 88 p] := by
  have h0 : laidMet Tryd.prog Rows.valueBackRow.laid W := by rw [MakeChecks.laidMetH_plain _ _ _ (by kernel_rfl)] at h; exact h
  obtain ⟨a0, s0, hv0, hc0, hs0, hz0⟩ := laid_sentinel (g := 1) (ti := 42) h0.tail.tail.tail (by kernel_rfl) (by kernel_rfl) Tryd.underlying42 (row_es) Tryd.underlying88 Tryd.underlying90 rfl rfl Tryd.underlying9 (by kernel_rfl) (by kernel_rfl)
  exact ⟨_, hv0⟩

theorem ErrSyntax_of {W : World} (h : laidMetH Tryd.prog Rows.valueBackRow.laid W) : ∃ p, W.var? Tryd.prog "strconv.ErrSyntax" = some #[.iface 88 p] := by
  have h0 : laidMet Tryd.prog Rows.valueBackRow.laid W := by rw [MakeChecks.laidMetH_plain _ _ _ (by kernel_rfl)] at h; exact h
  obtain ⟨a0, s0, hv0, hc0, hs0, hz0⟩ := laid_sentinel (g := 0) (ti := 42) h0.tail.tail.tail.tail (by kernel_rfl) (by kernel_rfl) Tryd.underlying42 (row_es) Tryd.underlying88 Tryd.underlying90 rfl rfl Tryd.underlying9 (by kernel_rfl) (by kernel_rfl)
  exact ⟨_, hv0⟩

theorem pow_of {W : World} (h : laidMetH Tryd.prog Rows.valueBackRow.laid W) : Show.Pow W := by
  have h0 : laidMet Tryd.prog Rows.valueBackRow.laid W := by rw [MakeChecks.laidMetH_plain _ _ _ (by kernel_rfl)] at h; exact h
  have h1 := h0.tail.tail
  exact Lib.tabIs_of_head (k := .u64) (zs := Lib.pow10Tab) (g := 2) (t := 83) (e := 70) (n := 20) (by kernel_rfl) (by kernel_rfl) Tryd.underlying83 Tryd.underlying70 (by kernel_rfl) (by kernel_rfl) h1

/-! ### The row's step -/
set_option maxRecDepth 100000 in
theorem lifted (os : Os) (started : os.Started) (H : Type) (enc : TypeId × Value → H) :
    ReturnsInHanded {} Tryd.checked os 5 .any (fun w args => (Rows.valueBackSpec.pre enc Tryd.prog Tryd.f5 [] false w args ∧ laidMetH Tryd.prog Rows.valueBackRow.laid w) ∧ sizedMet enc Tryd.prog Tryd.f5 (OpenSpec.ofChange Rows.valueBackSpec) false w args) (Rows.valueBackSpec.post enc Tryd.prog Tryd.f5 false true false false) := by
  refine returnsInHanded_of_change_and (C := Tryd.checked) (X := fun w _ => laidMetH Tryd.prog Rows.valueBackRow.laid w) (fun _ _ _ hh h => h.of_heap hh) own started (by kernel_rfl) Tryd.func5
    (ChangeSpec.witness_shaped (enc := enc) (C := Tryd.checked) (os := os) (X := fun w _ => laidMetH Tryd.prog Rows.valueBackRow.laid w) false (World.doorLaid Tryd.prog 62 os) #[.int .i64 0, .agg #[.int .i64 0, .int .i64 0, .int .i64 0, .string ⟨#[]⟩]] 8 rfl (World.shaped_of_RefB (by kernel_rfl) (by kernel_rfl)) (by kernel_rfl) (by kernel_rfl) (by kernel_rfl) (door_met os _)) ?_
  intro W base args ds gs before hval0 hW hcnd hsz hL _
  have hval : ∀ (j : Nat) t v, Tryd.f5.params[j]? = some t → args[j]? = some v → Value.okWide Tryd.prog W .any base t v := hval0
  have hW' := hW
  obtain ⟨p, q, hA0, hV, rfl, hfz, hnd⟩ := hW
  have hA : DataW.TrodAll enc Tryd.prog W 0 (fun _ => true) true Tryd.f5.params.toList args.toList ds p := hA0
  rw [Tryd.params5] at hA hval
  obtain ⟨v0, vs0, d0, ds0, p0, q0, hargs, rfl, rfl, h0, r0⟩ := trodAll_cons hA
  obtain ⟨v1, vs1, d1, ds1, p1, q1, rfl, rfl, rfl, h1, r1⟩ := trodAll_cons r0
  obtain ⟨rfl, rfl, rfl⟩ := trodAll_nil r1
  obtain rfl : args = #[v0, v1] := by cases args; simp_all
  obtain ⟨rfl, rfl⟩ := trodVars_none hV
  have k0 := h0
  have lt0 : ∀ x ∈ p0, x.block < W.heap.size := by obtain ⟨m, hm⟩ := k0; exact DataW.trod_lt m _ _ _ hm
  obtain ⟨a0, rfl, rfl, rfl, w0⟩ := open_int Tryd.underlying3 (hval 0 3 v0 rfl rfl) h0
  have k1 := h1
  have lt1 : ∀ x ∈ p1, x.block < W.heap.size := by obtain ⟨m, hm⟩ := k1; exact DataW.trod_lt m _ _ _ hm
  obtain ⟨a1_0, a1_1, a1_2, a1_3, rfl, w1_0, w1_1, w1_2, w1_3⟩ := open32 (hval 1 32 v1 rfl rfl) h1
  clear hA0 hval0
  refine (walk a0 a1_0 a1_1 a1_2 a1_3 w0 w1_0 w1_1 w1_2 w1_3 W (pow_of hL) (ErrRange_of hL) (ErrSyntax_of hL)).mono fun e W' ⟨he, bel⟩ => ?_
  subst he
  exact ⟨_, rfl, _, _, _, [], _, [], hW', trodAll_mk1 (shut_bool Tryd.underlying4 _), (trodAll_cons_mk (Below.trod laidOut (by kernel_rfl) (of_decide_eq_true (by kernel_rfl)) k0 bel lt0) (trodAll_cons_mk (Below.trod laidOut (by kernel_rfl) (of_decide_eq_true (by kernel_rfl)) k1 bel lt1) trodAll_mk0)), rfl, bel.frame _, fun h => by cases h⟩

theorem over : Rows.valueBackRow.holds Tryd.pinned (OpenSpec.ofChange Rows.valueBackSpec) :=
  OpenClaim.holds_of_wide 5 Tryd.f5 rfl rfl rfl rfl rfl rfl rfl ⟨rfl, rfl, rfl, rfl, rfl⟩ rfl rfl rfl rfl rfl (by kernel_rfl) Tryd.func5 (by kernel_rfl)
    (of_decide_eq_true (by kernel_rfl)) (by unfold Func.isWrapper; first | (rw [if_pos (by decide +kernel)]; kernel_rfl) | (rw [if_neg (by decide +kernel)]; exact ⟨rfl, rfl⟩))
    (fun os started H enc _ => lifted os started H enc)

/-- The tied card. -/
theorem proved : Rows.ValueBackCardSaid :=
  Claim7.holds_tied_plain_at .later [] [.data, .data, .data, .sentinel, .sentinel] true (true, "852ad3e5935413dc83af3aa07db772229e11ae162b3241a95f2a76545099349d") true
    over (fun _ h => by cases h) (by kernel_rfl) (fun _ h => by cases h) valueBack_row_tie rfl ⟨rfl, rfl⟩ (by kernel_rfl) rfl
    (fun f fn hf hfn => by
      obtain rfl : f = 5 := Option.some.inj ((show Tryd.prog.funcNamed "lychway/lychwaykeep.ValueBack" = some 5 by kernel_rfl).symm.trans hf) |>.symm
      obtain rfl : fn = Tryd.f5 := (Option.some.inj (Tryd.func5.symm.trans hfn)).symm
      exact ⟨by kernel_rfl, fun j t ht => by
        rw [Tryd.params5] at ht
        have hm : t ∈ [3, 32] := by simpa using Array.mem_of_getElem? ht
        have hall : ([3, 32].all fun u => !Tryd.prog.wantsStandIn u) = true := by kernel_rfl
        exact (show Tryd.prog.wantsStandIn t = false by simpa using List.all_eq_true.1 hall t hm)⟩)
    (by kernel_rfl)
#print axioms proved
end Go.Proofs.YtlcilibelbmeeaaDoor.valueBack
