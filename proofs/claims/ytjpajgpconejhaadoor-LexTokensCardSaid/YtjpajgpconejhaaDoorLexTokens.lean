/- What is proved: the Go law lychwaylaw.LexTokens returns true for all its arguments, and leaves them as they were. No condition. -/
import Derived.Test.YtjpajgpconejhaaDoorRows
import Derived.Test.YtjpajgpconejhaaDoorLexRefEnd
import Derived.Test.YtjpajgpconejhaaDoorLexSame
import Derived.Test.YtjpajgpconejhaaDoorKit
import Derived.WalkKit
import Derived.ProofKit
import Derived.OpenShut
import Derived.Deep.RegionHeld3
import Derived.Deep.DrawnRows
import Derived.Deep.DeepCutAuto
import Derived.Deep.QuietTactic
import Derived.BigQuiet
import Derived.WalkSpells
import Derived.WalkLawsBesides
import Derived.Lib.Hide
import Derived.Outline
import Derived.ShutString
import Derived.ChangeOld
import Derived.Below
import Derived.LaidMore
import Derived.SizedLaws
import Derived.Stop.Joined
import Derived.Stop.LaidErr
import Derived.Lib.LaidTab
import Derived.SevenTiedAt
import Derived.Lay
import Derived.LaidOnce
import Derived.Test.YtjpajgpconejhaaDoorCards
import Derived.Test.YtjpajgpconejhaaDoorTie
namespace Go.Proofs.YtjpajgpconejhaaDoor.lexTokens
open LexM LexB LexT Lex LexRef LexSame Kit
open Go.ChangeShapes Go.WideShapes Go.ChangeAt Go.RowKit
open Go.ChangeMaps (open_string shut_string)
set_option linter.unusedVariables false

theorem own : ownKnob Tryd.prog.godebug = none := by kernel_rfl
theorem laidOut : laidOutB Tryd.prog = true := by kernel_rfl


/-! ### The walk -/
set_option maxHeartbeats 1000000 in
theorem walk (a0 : ByteArray) (w0 : a0.size ≤ maxLen) (w : World) (hErrRange : ∃ p, w.var? Tryd.prog "strconv.ErrRange" = some #[.iface 97 p]) (hErrSyntax : ∃ p, w.var? Tryd.prog "strconv.ErrSyntax" = some #[.iface 97 p]) (rb0 : a0.size ≤ 140737488351232) (t_signs : StrTab.Is Tryd.prog w "lychway/lex.signs" [[60, 61], [33, 61], [60], [61], [43], [45], [42], [47], [37], [38], [40], [41], [44]]) :
    Calls Tryd.prog 3 #[.string a0] w fun e w' => e = .returned (.bool true) ∧ Below w.heap.size w w' := by
  have hv : Vars w := ⟨hErrSyntax, hErrRange, t_signs⟩
  have HV := Lib.hid hv
  clear hErrSyntax hErrRange t_signs hv
  have hf := lex_len a0.data.toList
  obtain ⟨ts, p, e, hR⟩ : ∃ ts p e, lexR a0.data.toList = (ts, p, e) := ⟨_, _, _, rfl⟩
  rw [hR] at hf
  have hf2 : ts.length ≤ 160 := hf
  have c1 := fun W hv => tokens_is a0 hR W rb0 hv
  have c2 := fun W hv => refTokens_is a0 hR W rb0 hv
  have C1 := Lib.hid c1
  have C2 := Lib.hid c2
  clear c1 c2 hR hf
  go_enter Tryd.func3, Tryd.ntmps3
  go_wp2_with fail
  refine (C1.out _ HV.out).mono ?_; rintro x w1 ⟨v1, rfl, ho1, hb1⟩
  go_wp2_with fail
  refine (C2.out _ (HV.out.below hb1)).mono ?_; rintro x w2 ⟨v2, rfl, ho2, hb2⟩
  have ho1 := own_below ho1 hb2
  obtain ⟨A1, p1, rfl⟩ := own_slice ho1
  obtain ⟨A2, p2, rfl⟩ := own_slice ho2
  have c3 := same_any w2 ts A1 A2 p1 p2 hf2 (Holds.of_own ho1) (Holds.of_own ho2)
  have C3 := Lib.hid c3
  clear c3 ho1 ho2
  go_wp2_with fail
  refine C3.out.mono ?_; rintro x w3 ⟨rfl, m, rfl⟩
  go_wp2_with fail
  go_ret
  exact ⟨by simp, b_drewN (b_trans hb1 hb2) _⟩

theorem star : "*" ++ "errors.errorString" = "*errors.errorString" := by decide
theorem row_es (u : TypeId) (h : Tryd.prog.typeName? 3 u = some "*errors.errorString") : u = 97 :=
  typeName_ptr_named (nm := "errors.errorString") (by rw [star]; kernel_rfl) (by kernel_rfl) (by decide) u (by rw [star]; exact h)
theorem ErrRange_of {W : World} (h : laidMetH Tryd.prog Rows.lexTokensRow.laid W) : ∃ p, W.var? Tryd.prog "strconv.ErrRange" = some #[.iface 97 p] := by
  have h0 : laidMet Tryd.prog Rows.lexTokensRow.laid W := by rw [MakeChecks.laidMetH_plain _ _ _ (by kernel_rfl)] at h; exact h
  obtain ⟨a0, s0, hv0, hc0, hs0, hz0⟩ := laid_sentinel (g := 2) (ti := 42) h0.tail.tail.tail (by kernel_rfl) (by kernel_rfl) Tryd.underlying42 (row_es) Tryd.underlying97 Tryd.underlying99 rfl rfl Tryd.underlying9 (by kernel_rfl) (by kernel_rfl)
  exact ⟨_, hv0⟩

theorem ErrSyntax_of {W : World} (h : laidMetH Tryd.prog Rows.lexTokensRow.laid W) : ∃ p, W.var? Tryd.prog "strconv.ErrSyntax" = some #[.iface 97 p] := by
  have h0 : laidMet Tryd.prog Rows.lexTokensRow.laid W := by rw [MakeChecks.laidMetH_plain _ _ _ (by kernel_rfl)] at h; exact h
  obtain ⟨a0, s0, hv0, hc0, hs0, hz0⟩ := laid_sentinel (g := 1) (ti := 42) h0.tail.tail.tail.tail (by kernel_rfl) (by kernel_rfl) Tryd.underlying42 (row_es) Tryd.underlying97 Tryd.underlying99 rfl rfl Tryd.underlying9 (by kernel_rfl) (by kernel_rfl)
  exact ⟨_, hv0⟩

theorem signs_of {W : World} (h : laidMetH Tryd.prog Rows.lexTokensRow.laid W) : StrTab.Is Tryd.prog W "lychway/lex.signs" [[60, 61], [33, 61], [60], [61], [43], [45], [42], [47], [37], [38], [40], [41], [44]] := by
  have h0 : laidMet Tryd.prog Rows.lexTokensRow.laid W := by rw [MakeChecks.laidMetH_plain _ _ _ (by kernel_rfl)] at h; exact h
  have h1 := h0.tail.tail.tail.tail.tail
  exact StrTab.is_of_head (g := 0) (t := 67) (e := 9) (n := 13) (by kernel_rfl) (by kernel_rfl) Tryd.underlying67 Tryd.underlying9 (by kernel_rfl) (by kernel_rfl) h1

/-! ### The row's step -/
set_option maxRecDepth 100000 in
theorem lifted (os : Os) (started : os.Started) (H : Type) (enc : TypeId × Value → H) :
    ReturnsInHanded {} Tryd.checked os 3 .any (fun w args => (Rows.lexTokensSpec.pre enc Tryd.prog Tryd.f3 [] false w args ∧ laidMetH Tryd.prog Rows.lexTokensRow.laid w) ∧ sizedMet enc Tryd.prog Tryd.f3 (OpenSpec.ofChange Rows.lexTokensSpec) false w args) (Rows.lexTokensSpec.post enc Tryd.prog Tryd.f3 false true false false) := by
  refine returnsInHanded_of_change_and (C := Tryd.checked) (X := fun w _ => laidMetH Tryd.prog Rows.lexTokensRow.laid w) (fun _ _ _ hh h => h.of_heap hh) own started (by kernel_rfl) Tryd.func3
    (ChangeSpec.witness_shaped (enc := enc) (C := Tryd.checked) (os := os) (X := fun w _ => laidMetH Tryd.prog Rows.lexTokensRow.laid w) false (World.laidAll Tryd.prog os Rows.lexTokensRow.laid) #[.string ⟨#[]⟩] 8 (World.laidAll_os _ _ _) (World.shaped_of_ZipB (by kernel_rfl) (by kernel_rfl)) (by kernel_rfl) (by kernel_rfl) (by kernel_rfl) (by rw [MakeChecks.laidMetH_plain _ _ _ (by kernel_rfl)]; exact laidMet_laidAll _ (by kernel_rfl) (by kernel_rfl))) ?_
  intro W base args ds gs before hval0 hW hcnd hsz hL _
  have hval : ∀ (j : Nat) t v, Tryd.f3.params[j]? = some t → args[j]? = some v → Value.okWide Tryd.prog W .any base t v := hval0
  have hW' := hW
  obtain ⟨p, q, hA0, hV, rfl, hfz, hnd⟩ := hW
  have hA : DataW.TrodAll enc Tryd.prog W 0 (fun _ => true) true Tryd.f3.params.toList args.toList ds p := hA0
  rw [Tryd.params3] at hA hval
  obtain ⟨v0, vs0, d0, ds0, p0, q0, hargs, rfl, rfl, h0, r0⟩ := trodAll_cons hA
  obtain ⟨rfl, rfl, rfl⟩ := trodAll_nil r0
  obtain rfl : args = #[v0] := by cases args; simp_all
  obtain ⟨rfl, rfl⟩ := trodVars_none hV
  have k0 := h0
  have lt0 : ∀ x ∈ p0, x.block < W.heap.size := by obtain ⟨m, hm⟩ := k0; exact DataW.trod_lt m _ _ _ hm
  obtain ⟨a0, rfl, rfl, rfl, w0⟩ := open_string Tryd.underlying9 (hval 0 9 v0 rfl rfl) h0
  rw [Tryd.params3] at hsz
  have rb0 : a0.size ≤ 140737488351232 := by
    have h1 := sized_string hsz (j := 0) (t := 9) rfl rfl
    have h2 : reachBytes = 140737488351232 := by decide
    have e1 : a0.size = a0.data.size := rfl
    have e2 : a0.data.toList.length = a0.data.size := Array.length_toList
    omega
  clear hA0 hval0
  refine (walk a0 w0 W (ErrRange_of hL) (ErrSyntax_of hL) rb0 (signs_of hL)).mono fun e W' ⟨he, bel⟩ => ?_
  subst he
  exact ⟨_, rfl, _, _, _, [], _, [], hW', trodAll_mk1 (shut_bool Tryd.underlying4 _), (trodAll_cons_mk (Below.trod laidOut (by kernel_rfl) (of_decide_eq_true (by kernel_rfl)) k0 bel lt0) trodAll_mk0), rfl, bel.frame _, fun h => by cases h⟩

theorem over : Rows.lexTokensRow.holds Tryd.pinned (OpenSpec.ofChange Rows.lexTokensSpec) :=
  OpenClaim.holds_of_wide 3 Tryd.f3 rfl rfl rfl rfl rfl rfl rfl ⟨rfl, rfl, rfl, rfl, rfl⟩ rfl rfl rfl rfl rfl (by kernel_rfl) Tryd.func3 (by kernel_rfl)
    (of_decide_eq_true (by kernel_rfl)) (by unfold Func.isWrapper; first | (rw [if_pos (by decide +kernel)]; kernel_rfl) | (rw [if_neg (by decide +kernel)]; exact ⟨rfl, rfl⟩))
    (fun os started H enc _ => lifted os started H enc)

/-- The tied card. -/
theorem proved : Rows.LexTokensCardSaid :=
  Claim7.holds_tied_plain_at .later [] [.data, .data, .data, .sentinel, .sentinel, .data] true (true, "0d3b2f4f74b5d1a0f58102e7aba8f9444d2000b29a38413b9d9b3beda251e91d") true
    over (fun _ h => by cases h) (by kernel_rfl) (fun _ h => by cases h) lexTokens_row_tie rfl ⟨rfl, rfl⟩ (by kernel_rfl) rfl
    (fun f fn hf hfn => by
      obtain rfl : f = 3 := Option.some.inj ((show Tryd.prog.funcNamed "lychway/lychwaylaw.LexTokens" = some 3 by kernel_rfl).symm.trans hf) |>.symm
      obtain rfl : fn = Tryd.f3 := (Option.some.inj (Tryd.func3.symm.trans hfn)).symm
      exact ⟨by kernel_rfl, fun j t ht => by
        rw [Tryd.params3] at ht
        have hm : t ∈ [9] := by simpa using Array.mem_of_getElem? ht
        have hall : ([9].all fun u => !Tryd.prog.wantsStandIn u) = true := by kernel_rfl
        exact (show Tryd.prog.wantsStandIn t = false by simpa using List.all_eq_true.1 hall t hm)⟩)
    (by kernel_rfl)
#print axioms proved
end Go.Proofs.YtjpajgpconejhaaDoor.lexTokens
