/- What is proved: the Go law lychwaylaw.ValueParses returns true for all its arguments, and leaves them as they were. No condition. -/
import Derived.Test.YtlcilibelbmeeaaDoorRows
import Derived.Test.YtlcilibelbmeeaaDoorParseRef
import Derived.Test.YtlcilibelbmeeaaDoorParse
import Derived.Test.YtlcilibelbmeeaaDoorShow
import Derived.Test.YtlcilibelbmeeaaDoorKit
import Derived.WalkKit
import Derived.ProofKit
import Derived.OpenShut
import Derived.Deep.RegionHeld3
import Derived.Deep.DeepCutAuto
import Derived.Deep.QuietTactic
import Derived.BigQuiet
import Derived.WalkSpells
import Derived.WalkLawsBesides
import Derived.Lib.Hide
import Derived.Outline
import Derived.ShutString
import Derived.ChangeOld
import Derived.Below
import Derived.LaidMore
import Derived.SizedLaws
import Derived.Stop.Joined
import Derived.Stop.LaidErr
import Derived.Lib.LaidTab
import Derived.SevenTiedAt
import Derived.Test.YtlcilibelbmeeaaDoorCards
import Derived.Test.YtlcilibelbmeeaaDoorTie
namespace Go.Proofs.YtlcilibelbmeeaaDoor.valueParses
open NumM ValM Kit ShowM Show Parse ParseRef
open Go.ChangeShapes Go.WideShapes Go.ChangeAt Go.RowKit
open Go.ChangeMaps (open_string shut_string)
set_option linter.unusedVariables false

theorem own : ownKnob Tryd.prog.godebug = none := by kernel_rfl
theorem laidOut : laidOutB Tryd.prog = true := by kernel_rfl


/-! ### The walk -/
theorem walk (a0 : ByteArray) (w0 : a0.size ≤ maxLen) (w : World) (hp : Show.Pow w) (hErrRange : ∃ p, w.var? Tryd.prog "strconv.ErrRange" = some #[.iface 88 p]) (hErrSyntax : ∃ p, w.var? Tryd.prog "strconv.ErrSyntax" = some #[.iface 88 p]) (rb0 : a0.size ≤ 140737488351232) :
    Calls Tryd.prog 4 #[.string a0] w fun e w' => e = .returned (.bool true) ∧ Below w.heap.size w w' := by
  have hv : Vars w := ⟨hp, hErrSyntax, hErrRange⟩
  have HV := Lib.hid hv
  clear hp hErrSyntax hErrRange hv
  obtain ⟨j, z, m, t, hd, hc⟩ := parse_any a0 rb0
  have hr := fun (W : World) (hv : Vars W) => valueOf_any a0 W rb0 hv j z m t (fun k n u h => by
    rcases hd with ⟨rfl, h1, h2⟩ | ⟨_, _, _, _, hno⟩
    · have e1 := ParseM.cand_show (val_ok h1).1 (val_ok h1).2
      have e2 := ParseM.cand_show (val_ok h.1).1 (val_ok h.1).2
      rw [h2] at e1
      rw [h.2, e1] at e2
      simp only [Option.some.injEq, Prod.mk.injEq] at e2
      obtain ⟨rfl, rfl, hu⟩ := e2
      exact ⟨rfl, rfl, (WideShapes.bytes_inj hu).symm, rfl⟩
    · exact absurd h.2 (hno k n _ h.1)) (fun hno => by
    rcases hd with ⟨rfl, h1, h2⟩ | ⟨a, b, c, d, _⟩
    · exact absurd ⟨h1, h2⟩ (hno j z t)
    · exact ⟨b, c, d, a⟩)
  have HC := Lib.hid hc
  have HR := Lib.hid hr
  clear hc hd hr
  go_enter Tryd.func4, Tryd.ntmps4
  go_wp2_with fail
  refine (HC.out _ HV.out).mono ?_; rintro e w1 ⟨rfl, b1⟩
  have V1 := Lib.hid (HV.out.below b1)
  go_wp2_with fail
  refine (HR.out _ (V1.out.below (b_new w1 _))).mono ?_; rintro e w2 ⟨rfl, b2⟩
  have hz : w1.heap.size < w2.heap.size := lt_b b2 (by simp)
  obtain ⟨c2, d2⟩ := bcell b2
  go_wp2_with fail
  go_ret
  exact ⟨rfl, b_more (b_trans b1 (b_then b2)) _⟩

/-- The door's own heap meets the condition. -/
theorem door_met (os : Os) (args : Array Value) : laidMetH Tryd.prog Rows.valueParsesRow.laid ((World.doorLaid Tryd.prog 62 os).forCall (fun _ _ => 0) ⟨#[], args, []⟩).memory :=
  laidMetH_of_parts3 (fuel := 8) (laidMet_of_run' 8 (by kernel_rfl) (by kernel_rfl)) (by kernel_rfl) (by kernel_rfl)

theorem star : "*" ++ "errors.errorString" = "*errors.errorString" := by decide
theorem row_es (u : TypeId) (h : Tryd.prog.typeName? 3 u = some "*errors.errorString") : u = 88 :=
  typeName_ptr_named (nm := "errors.errorString") (by rw [star]; kernel_rfl) (by kernel_rfl) (by decide) u (by rw [star]; exact h)
theorem ErrRange_of {W : World} (h : laidMetH Tryd.prog Rows.valueParsesRow.laid W) : ∃ p, W.var? Tryd.prog "strconv.ErrRange" = some #[.iface 88 p] := by
  have h0 : laidMet Tryd.prog Rows.valueParsesRow.laid W := by rw [MakeChecks.laidMetH_plain _ _ _ (by kernel_rfl)] at h; exact h
  obtain ⟨a0, s0, hv0, hc0, hs0, hz0⟩ := laid_sentinel (g := 1) (ti := 42) h0.tail.tail.tail (by kernel_rfl) (by kernel_rfl) Tryd.underlying42 (row_es) Tryd.underlying88 Tryd.underlying90 rfl rfl Tryd.underlying9 (by kernel_rfl) (by kernel_rfl)
  exact ⟨_, hv0⟩

theorem ErrSyntax_of {W : World} (h : laidMetH Tryd.prog Rows.valueParsesRow.laid W) : ∃ p, W.var? Tryd.prog "strconv.ErrSyntax" = some #[.iface 88 p] := by
  have h0 : laidMet Tryd.prog Rows.valueParsesRow.laid W := by rw [MakeChecks.laidMetH_plain _ _ _ (by kernel_rfl)] at h; exact h
  obtain ⟨a0, s0, hv0, hc0, hs0, hz0⟩ := laid_sentinel (g := 0) (ti := 42) h0.tail.tail.tail.tail (by kernel_rfl) (by kernel_rfl) Tryd.underlying42 (row_es) Tryd.underlying88 Tryd.underlying90 rfl rfl Tryd.underlying9 (by kernel_rfl) (by kernel_rfl)
  exact ⟨_, hv0⟩

theorem pow_of {W : World} (h : laidMetH Tryd.prog Rows.valueParsesRow.laid W) : Show.Pow W := by
  have h0 : laidMet Tryd.prog Rows.valueParsesRow.laid W := by rw [MakeChecks.laidMetH_plain _ _ _ (by kernel_rfl)] at h; exact h
  have h1 := h0.tail.tail
  exact Lib.tabIs_of_head (k := .u64) (zs := Lib.pow10Tab) (g := 2) (t := 83) (e := 70) (n := 20) (by kernel_rfl) (by kernel_rfl) Tryd.underlying83 Tryd.underlying70 (by kernel_rfl) (by kernel_rfl) h1

/-! ### The row's step -/
set_option maxRecDepth 100000 in
theorem lifted (os : Os) (started : os.Started) (H : Type) (enc : TypeId × Value → H) :
    ReturnsInHanded {} Tryd.checked os 4 .any (fun w args => (Rows.valueParsesSpec.pre enc Tryd.prog Tryd.f4 [] false w args ∧ laidMetH Tryd.prog Rows.valueParsesRow.laid w) ∧ sizedMet enc Tryd.prog Tryd.f4 (OpenSpec.ofChange Rows.valueParsesSpec) false w args) (Rows.valueParsesSpec.post enc Tryd.prog Tryd.f4 false true false false) := by
  refine returnsInHanded_of_change_and (C := Tryd.checked) (X := fun w _ => laidMetH Tryd.prog Rows.valueParsesRow.laid w) (fun _ _ _ hh h => h.of_heap hh) own started (by kernel_rfl) Tryd.func4
    (ChangeSpec.witness_shaped (enc := enc) (C := Tryd.checked) (os := os) (X := fun w _ => laidMetH Tryd.prog Rows.valueParsesRow.laid w) false (World.doorLaid Tryd.prog 62 os) #[.string ⟨#[]⟩] 8 rfl (World.shaped_of_RefB (by kernel_rfl) (by kernel_rfl)) (by kernel_rfl) (by kernel_rfl) (by kernel_rfl) (door_met os _)) ?_
  intro W base args ds gs before hval0 hW hcnd hsz hL _
  have hval : ∀ (j : Nat) t v, Tryd.f4.params[j]? = some t → args[j]? = some v → Value.okWide Tryd.prog W .any base t v := hval0
  have hW' := hW
  obtain ⟨p, q, hA0, hV, rfl, hfz, hnd⟩ := hW
  have hA : DataW.TrodAll enc Tryd.prog W 0 (fun _ => true) true Tryd.f4.params.toList args.toList ds p := hA0
  rw [Tryd.params4] at hA hval
  obtain ⟨v0, vs0, d0, ds0, p0, q0, hargs, rfl, rfl, h0, r0⟩ := trodAll_cons hA
  obtain ⟨rfl, rfl, rfl⟩ := trodAll_nil r0
  obtain rfl : args = #[v0] := by cases args; simp_all
  obtain ⟨rfl, rfl⟩ := trodVars_none hV
  have k0 := h0
  have lt0 : ∀ x ∈ p0, x.block < W.heap.size := by obtain ⟨m, hm⟩ := k0; exact DataW.trod_lt m _ _ _ hm
  obtain ⟨a0, rfl, rfl, rfl, w0⟩ := open_string Tryd.underlying9 (hval 0 9 v0 rfl rfl) h0
  rw [Tryd.params4] at hsz
  have rb0 : a0.size ≤ 140737488351232 := by
    have h1 := sized_string hsz (j := 0) (t := 9) rfl rfl
    have h2 : reachBytes = 140737488351232 := by decide
    have e1 : a0.size = a0.data.size := rfl
    have e2 : a0.data.toList.length = a0.data.size := Array.length_toList
    omega
  clear hA0 hval0
  refine (walk a0 w0 W (pow_of hL) (ErrRange_of hL) (ErrSyntax_of hL) rb0).mono fun e W' ⟨he, bel⟩ => ?_
  subst he
  exact ⟨_, rfl, _, _, _, [], _, [], hW', trodAll_mk1 (shut_bool Tryd.underlying4 _), (trodAll_cons_mk (Below.trod laidOut (by kernel_rfl) (of_decide_eq_true (by kernel_rfl)) k0 bel lt0) trodAll_mk0), rfl, bel.frame _, fun h => by cases h⟩

theorem over : Rows.valueParsesRow.holds Tryd.pinned (OpenSpec.ofChange Rows.valueParsesSpec) :=
  OpenClaim.holds_of_wide 4 Tryd.f4 rfl rfl rfl rfl rfl rfl rfl ⟨rfl, rfl, rfl, rfl, rfl⟩ rfl rfl rfl rfl rfl (by kernel_rfl) Tryd.func4 (by kernel_rfl)
    (of_decide_eq_true (by kernel_rfl)) (by unfold Func.isWrapper; first | (rw [if_pos (by decide +kernel)]; kernel_rfl) | (rw [if_neg (by decide +kernel)]; exact ⟨rfl, rfl⟩))
    (fun os started H enc _ => lifted os started H enc)

/-- The tied card. -/
theorem proved : Rows.ValueParsesCardSaid :=
  Claim7.holds_tied_plain_at .later [] [.data, .data, .data, .sentinel, .sentinel] true (true, "852ad3e5935413dc83af3aa07db772229e11ae162b3241a95f2a76545099349d") true
    over (fun _ h => by cases h) (by kernel_rfl) (fun _ h => by cases h) valueParses_row_tie rfl ⟨rfl, rfl⟩ (by kernel_rfl) rfl
    (fun f fn hf hfn => by
      obtain rfl : f = 4 := Option.some.inj ((show Tryd.prog.funcNamed "lychway/lychwaylaw.ValueParses" = some 4 by kernel_rfl).symm.trans hf) |>.symm
      obtain rfl : fn = Tryd.f4 := (Option.some.inj (Tryd.func4.symm.trans hfn)).symm
      exact ⟨by kernel_rfl, fun j t ht => by
        rw [Tryd.params4] at ht
        have hm : t ∈ [9] := by simpa using Array.mem_of_getElem? ht
        have hall : ([9].all fun u => !Tryd.prog.wantsStandIn u) = true := by kernel_rfl
        exact (show Tryd.prog.wantsStandIn t = false by simpa using List.all_eq_true.1 hall t hm)⟩)
    (by kernel_rfl)
#print axioms proved
end Go.Proofs.YtlcilibelbmeeaaDoor.valueParses
