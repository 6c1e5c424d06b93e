/- What is proved: the Go law lychwaykeep.LexCovers returns true for all its arguments, and leaves them as they were. No condition. -/
import Derived.Test.YtjpajgpconejhaaDoorRows
import Derived.Test.YtjpajgpconejhaaDoorLex
import Derived.Test.YtjpajgpconejhaaDoorKit
import Derived.WalkKit
import Derived.ProofKit
import Derived.OpenShut
import Derived.Deep.RegionHeld3
import Derived.Deep.DrawnRows
import Derived.Deep.DeepCutAuto
import Derived.Deep.QuietTactic
import Derived.BigQuiet
import Derived.WalkSpells
import Derived.WalkLawsBesides
import Derived.Lib.Hide
import Derived.Outline
import Derived.ShutString
import Derived.ChangeOld
import Derived.Below
import Derived.LaidMore
import Derived.SizedLaws
import Derived.Stop.Joined
import Derived.Stop.LaidErr
import Derived.Lib.LaidTab
import Derived.SevenTiedAt
import Derived.Lay
import Derived.LaidOnce
import Derived.Test.YtjpajgpconejhaaDoorCards
import Derived.Test.YtjpajgpconejhaaDoorTie
namespace Go.Proofs.YtjpajgpconejhaaDoor.lexCovers
open LexM LexB LexT Lex Kit
open Go.ChangeShapes Go.WideShapes Go.ChangeAt Go.RowKit
open Go.ChangeMaps (open_string shut_string)
set_option linter.unusedVariables false

theorem own : ownKnob Tryd.prog.godebug = none := by kernel_rfl
theorem laidOut : laidOutB Tryd.prog = true := by kernel_rfl


/-! ### The walk -/
structure CInv (w : World) (s : ByteArray) (ts : List Tk) (v : Value) (k p : Nat) (wr : World) : Prop where
  le : k ≤ ts.length
  lep : p ≤ s.size
  is : tokens (s.data.toList.drop p) p = .ok (ts.drop k)
  own : wr.ownsRow w.heap.size 31 6 v ts.length (tksC ts)
  below : Below w.heap.size w wr
set_option maxHeartbeats 2000000 in
set_option maxRecDepth 100000 in
theorem walk (a0 : ByteArray) (w0 : a0.size ≤ maxLen) (w : World) (hErrRange : ∃ p, w.var? Tryd.prog "strconv.ErrRange" = some #[.iface 97 p]) (hErrSyntax : ∃ p, w.var? Tryd.prog "strconv.ErrSyntax" = some #[.iface 97 p]) (rb0 : a0.size ≤ 140737488351232) (t_signs : StrTab.Is Tryd.prog w "lychway/lex.signs" [[60, 61], [33, 61], [60], [61], [43], [45], [42], [47], [37], [38], [40], [41], [44]]) :
    Calls Tryd.prog 4 #[.string a0] w fun e w' => e = .returned (.bool true) ∧ Below w.heap.size w w' := by
  have hv : Vars w := ⟨hErrSyntax, hErrRange, t_signs⟩
  have HV := Lib.hid hv
  clear hErrSyntax hErrRange t_signs hv
  have k0 : lexR (ByteArray.mk #[32, 97, 43, 49]).data.toList = ([⟨2, 1, [97], 0, 0, []⟩, ⟨4, 2, [43], 0, 0, []⟩, ⟨1, 3, [49], 1, 1, []⟩], 0, 0) := by rfl
  have c2 := fun W hv => tokens_is ⟨#[32, 97, 43, 49]⟩ k0 W (by decide) hv
  have C2 := Lib.hid c2
  clear c2 k0 w0
  have hsz : a0.size ≤ 9223372036854775807 := by omega
  rcases lex_cases a0.data.toList with ⟨ts, hl, ht, hR⟩ | ⟨_, hR⟩ | ⟨p, e, ts, hl, hlt, he, hR, hR2⟩
  · have c1 := fun W hv => tokens_is a0 hR W rb0 hv
    have hfew := few _ _ _ ht
    have hl2 : a0.size ≤ 160 := hl
    have htl : ts.length ≤ 160 := by have : a0.data.toList.length = a0.size := rfl; omega
    have C1 := Lib.hid c1
    have HT := Lib.hid ht
    clear c1 hR hl ht hfew
    go_enter Tryd.func4, Tryd.ntmps4
    go_wp2_with fail
    refine (C1.out _ HV.out).mono ?_; rintro x w1 ⟨v1, rfl, ho1, hb1⟩
    go_wp2_with fail
    refine (C2.out _ (HV.out.below hb1)).mono ?_; rintro x w2 ⟨v2, rfl, ho2, hb2⟩
    have ho1 := own_below ho1 hb2
    obtain ⟨g2, p2, rfl, _, _, _, _, q2⟩ := own_form ho2 (by simp)
    have r0 : w2.cell? ⟨g2, 1, none⟩ = some (.int .i64 1) := q2 1 (by simp)
    have r0' : w2.cell? ⟨g2, 0 + 1, none⟩ = some (.int .i64 1) := r0
    have hI0 : CInv w a0 ts v1 0 0 w2 := ⟨Nat.zero_le _, Nat.zero_le _, HT.out, ho1, b_trans hb1 hb2⟩
    obtain ⟨A1, p1, rfl⟩ := own_slice ho1
    have HI0 := Lib.hid hI0
    clear q2 ho1 ho2 hI0
    go_wp2_with fail
    go_loopw [9, 44] (fun v i wr => ∃ k p : Nat, i = .int .i64 k ∧ v = .int .i64 p ∧ CInv w a0 ts (.slice A1 ts.length p1) k p wr) (fun _ i _ => ts.length - (intOf i).toNat)
    case atStart => exact ⟨0, 0, rfl, rfl, HI0.out⟩
    case round =>
      clear r0 r0'
      obtain ⟨k, p, rfl, rfl, hI⟩ := hrel
      have hle := hI.le
      have hlp := hI.lep
      have HI := Lib.hid hI
      clear hI
      by_cases hlt : k < ts.length
      · obtain ⟨x, us, hx⟩ : ∃ x us, ts.drop k = x :: us := ⟨_, _, List.drop_eq_getElem_cons hlt⟩
        obtain ⟨g1, g2, g3, g4, g5, g6⟩ := (covers _ _ hlp _ HI.out.is).2 x us hx
        obtain ⟨g, cap, hA, _, hgl, _, _, q1⟩ := own_form HI.out.own (by omega)
        injection hA with hA _ hcp
        subst hA
        subst hcp
        have y0 : wr.cell? ⟨g, k * 6, none⟩ = some (.int .i64 x.kind) := by rw [q1 (k * 6) (by omega)]; exact tksC_at ts k x us hx 0 (by omega)
        have y1 : wr.cell? ⟨g, k * 6 + 1, none⟩ = some (.int .i64 x.pos) := by rw [q1 (k * 6 + 1) (by omega)]; exact tksC_at ts k x us hx 1 (by omega)
        have y2 : wr.cell? ⟨g, k * 6 + 2, none⟩ = some (.string ⟨x.s.toArray⟩) := by rw [q1 (k * 6 + 2) (by omega)]; exact tksC_at ts k x us hx 2 (by omega)
        have y3 : wr.cell? ⟨g, k * 6 + 3, none⟩ = some (.int .i64 x.vk) := by rw [q1 (k * 6 + 3) (by omega)]; exact tksC_at ts k x us hx 3 (by omega)
        have y4 : wr.cell? ⟨g, k * 6 + 4, none⟩ = some (.int .i64 x.n) := by rw [q1 (k * 6 + 4) (by omega)]; exact tksC_at ts k x us hx 4 (by omega)
        have y5 : wr.cell? ⟨g, k * 6 + 5, none⟩ = some (.string ⟨x.t.toArray⟩) := by rw [q1 (k * 6 + 5) (by omega)]; exact tksC_at ts k x us hx 5 (by omega)
        clear q1
        obtain ⟨xk, hxk⟩ : ∃ y, y = x.kind := ⟨_, rfl⟩
        obtain ⟨xp, hxp⟩ : ∃ y, y = x.pos := ⟨_, rfl⟩
        obtain ⟨xv, hxv⟩ : ∃ y, y = x.vk := ⟨_, rfl⟩
        obtain ⟨xn, hxn⟩ : ∃ y, y = x.n := ⟨_, rfl⟩
        obtain ⟨u, hu⟩ : ∃ u : ByteArray, u = ⟨x.s.toArray⟩ := ⟨_, rfl⟩
        obtain ⟨t, htt⟩ : ∃ u : ByteArray, u = ⟨x.t.toArray⟩ := ⟨_, rfl⟩
        have hul : u.data.toList = x.s := by rw [hu]
        have hus : u.size = x.s.length := by rw [hu]; rfl
        rw [← hxk] at y0
        rw [← hxp] at y1 g1 g3 g4 g5 g6
        rw [← hu] at y2
        rw [← hxv] at y3
        rw [← hxn] at y4
        rw [← htt] at y5
        rw [← hus] at g3 g4 g6
        rw [← hul] at g2 g4
        have hN : ∀ w3, Below wr.heap.size wr w3 → CInv w a0 ts (.slice (some ⟨g, 0, none⟩) ts.length p1) (k + 1) (xp + u.size) w3 := fun w3 hb => ⟨hlt, g3, by
          rw [g6, ← List.drop_drop, hx]; rfl, own_below HI.out.own hb, HI.out.below.trans (hb.mono HI.out.below.size)⟩
        have HN := Lib.hid hN
        have hup : 0 < u.size := by
          rcases Nat.eq_zero_or_pos u.size with h | h
          · exact absurd (List.eq_nil_of_length_eq_zero h) g2
          · exact h
        obtain ⟨f1, f2, _⟩ := empty_f u hup
        have f3 : ((a0.extract xp (xp + u.size)).toList != u.toList) = false := by
          rw [ByteArray.toList_eq, ByteArray.toList_eq]
          have : (a0.extract xp (xp + u.size)).data.toList = u.data.toList := by
            rw [← g4]; simp [ByteArray.data_extract]
          rw [this]; simp
        have f4 : ((a0.extract xp (xp + u.size)).toList == u.toList) = true := by simpa [bne] using f3
        have hsp : (a0.extract p xp).data.toList.all (· == 32) = true := by
          rw [← g5]; simp [ByteArray.data_extract]
        have c3 := fun W => trim_sp (a0.extract p xp) (by simp; omega) hsp W
        have C3 := Lib.hid c3
        have g3' : xp + u.size ≤ a0.size := g3
        clear hN hxk hxp hxv hxn hu htt hul hus hsp c3 g2 g4 g5 g6 hx g3
        have z1 : ((xp : Int) < p) = False := by simp; omega
        have z1' : decide ((xp : Int) < p) = false := decide_eq_false (by omega)
        have z2 : IntKind.i64.wrap ((xp : Int) + u.size) = (xp : Int) + u.size := IntWalk.i64_in _ (by omega)
        have z3 : decide ((a0.size : Int) < (xp : Int) + u.size) = false := decide_eq_false (by omega)
        have z4 : ((xp : Int) + u.size).toNat = xp + u.size := by omega
        have z5 : (0 : Int) ≤ xp := by omega
        have z6 : (xp : Int) ≤ (xp : Int) + u.size := by omega
        have z7 : (xp : Int) + u.size ≤ a0.size := by omega
        have z8 : (0 : Int) ≤ p := by omega
        have z9 : (p : Int) ≤ xp := by omega
        have z10 : (xp : Int) ≤ a0.size := by omega
        have z11 : (0 : Int) ≤ (xp : Int) + u.size := by omega
        go_wp2_with fail
        go_quiet ((go_at_call 11; exact Calls.quiet_of (C3.out _)))
        go_wp2_with fail
        go_roundw
        case rel => exact ⟨k + 1, xp + u.size, by go_num, by go_num, HN.out _ (b_drewN (b_new wr _) _)⟩
        case measure => simp [intOf]; omega
      · have hd : ts.drop k = [] := List.drop_eq_nil_of_le (by omega)
        have hsp : (a0.extract p a0.size).data.toList.all (· == 32) = true := by
          rw [drop_of]
          exact (covers _ _ hlp _ HI.out.is).1 hd
        have c3 := fun W => trim_sp (a0.extract p a0.size) (by simp; omega) hsp W
        have C3 := Lib.hid c3
        clear hd hsp c3
        have z8 : (0 : Int) ≤ p := by omega
        have z9 : (p : Int) ≤ a0.size := by omega
        go_wp2_with fail
        refine (C3.out _).mono ?_; rintro x w3 ⟨rfl, m, rfl⟩
        go_wp2_with fail
        go_ret
        exact ⟨rfl, b_drewN HI.out.below _⟩
  · have c1 := fun W hv => tokens_is a0 hR W rb0 hv
    have C1 := Lib.hid c1
    clear c1 hR
    go_enter Tryd.func4, Tryd.ntmps4
    go_wp2_with fail
    refine (C1.out _ HV.out).mono ?_; rintro x w1 ⟨v1, rfl, ho1, hb1⟩
    go_wp2_with fail
    refine (C2.out _ (HV.out.below hb1)).mono ?_; rintro x w2 ⟨v2, rfl, ho2, hb2⟩
    obtain ⟨A1, p1, rfl⟩ := own_slice ho1
    obtain ⟨g2, p2, rfl, _, _, _, _, q2⟩ := own_form ho2 (by simp)
    have r0 : w2.cell? ⟨g2, 1, none⟩ = some (.int .i64 1) := q2 1 (by simp)
    have r0' : w2.cell? ⟨g2, 0 + 1, none⟩ = some (.int .i64 1) := r0
    clear q2 ho1 ho2
    go_wp2_with fail
    go_ret
    exact ⟨rfl, b_trans hb1 hb2⟩
  · have c1 := fun W hv => tokens_is a0 hR W rb0 hv
    have C1 := Lib.hid c1
    have t1 : (e != 0) = true := by rw [bne_iff_ne]; omega
    clear c1 hR hR2
    go_enter Tryd.func4, Tryd.ntmps4
    go_wp2_with fail
    refine (C1.out _ HV.out).mono ?_; rintro x w1 ⟨v1, rfl, ho1, hb1⟩
    go_wp2_with fail
    refine (C2.out _ (HV.out.below hb1)).mono ?_; rintro x w2 ⟨v2, rfl, ho2, hb2⟩
    obtain ⟨A1, p1, rfl⟩ := own_slice ho1
    obtain ⟨g2, p2, rfl, _, _, _, _, q2⟩ := own_form ho2 (by simp)
    have r0 : w2.cell? ⟨g2, 1, none⟩ = some (.int .i64 1) := q2 1 (by simp)
    have r0' : w2.cell? ⟨g2, 0 + 1, none⟩ = some (.int .i64 1) := r0
    clear q2 ho1 ho2 he
    go_wp2_with fail
    go_ret
    exact ⟨rfl, b_trans hb1 hb2⟩

theorem star : "*" ++ "errors.errorString" = "*errors.errorString" := by decide
theorem row_es (u : TypeId) (h : Tryd.prog.typeName? 3 u = some "*errors.errorString") : u = 97 :=
  typeName_ptr_named (nm := "errors.errorString") (by rw [star]; kernel_rfl) (by kernel_rfl) (by decide) u (by rw [star]; exact h)
theorem ErrRange_of {W : World} (h : laidMetH Tryd.prog Rows.lexCoversRow.laid W) : ∃ p, W.var? Tryd.prog "strconv.ErrRange" = some #[.iface 97 p] := by
  have h0 : laidMet Tryd.prog Rows.lexCoversRow.laid W := by rw [MakeChecks.laidMetH_plain _ _ _ (by kernel_rfl)] at h; exact h
  obtain ⟨a0, s0, hv0, hc0, hs0, hz0⟩ := laid_sentinel (g := 2) (ti := 42) h0.tail.tail.tail.tail (by kernel_rfl) (by kernel_rfl) Tryd.underlying42 (row_es) Tryd.underlying97 Tryd.underlying99 rfl rfl Tryd.underlying9 (by kernel_rfl) (by kernel_rfl)
  exact ⟨_, hv0⟩

theorem ErrSyntax_of {W : World} (h : laidMetH Tryd.prog Rows.lexCoversRow.laid W) : ∃ p, W.var? Tryd.prog "strconv.ErrSyntax" = some #[.iface 97 p] := by
  have h0 : laidMet Tryd.prog Rows.lexCoversRow.laid W := by rw [MakeChecks.laidMetH_plain _ _ _ (by kernel_rfl)] at h; exact h
  obtain ⟨a0, s0, hv0, hc0, hs0, hz0⟩ := laid_sentinel (g := 1) (ti := 42) h0.tail.tail.tail.tail.tail (by kernel_rfl) (by kernel_rfl) Tryd.underlying42 (row_es) Tryd.underlying97 Tryd.underlying99 rfl rfl Tryd.underlying9 (by kernel_rfl) (by kernel_rfl)
  exact ⟨_, hv0⟩

theorem signs_of {W : World} (h : laidMetH Tryd.prog Rows.lexCoversRow.laid W) : StrTab.Is Tryd.prog W "lychway/lex.signs" [[60, 61], [33, 61], [60], [61], [43], [45], [42], [47], [37], [38], [40], [41], [44]] := by
  have h0 : laidMet Tryd.prog Rows.lexCoversRow.laid W := by rw [MakeChecks.laidMetH_plain _ _ _ (by kernel_rfl)] at h; exact h
  have h1 := h0.tail.tail.tail.tail.tail.tail
  exact StrTab.is_of_head (g := 0) (t := 67) (e := 9) (n := 13) (by kernel_rfl) (by kernel_rfl) Tryd.underlying67 Tryd.underlying9 (by kernel_rfl) (by kernel_rfl) h1

/-! ### The row's step -/
set_option maxRecDepth 100000 in
theorem lifted (os : Os) (started : os.Started) (H : Type) (enc : TypeId × Value → H) :
    ReturnsInHanded {} Tryd.checked os 4 .any (fun w args => (Rows.lexCoversSpec.pre enc Tryd.prog Tryd.f4 [] false w args ∧ laidMetH Tryd.prog Rows.lexCoversRow.laid w) ∧ sizedMet enc Tryd.prog Tryd.f4 (OpenSpec.ofChange Rows.lexCoversSpec) false w args) (Rows.lexCoversSpec.post enc Tryd.prog Tryd.f4 false true false false) := by
  refine returnsInHanded_of_change_and (C := Tryd.checked) (X := fun w _ => laidMetH Tryd.prog Rows.lexCoversRow.laid w) (fun _ _ _ hh h => h.of_heap hh) own started (by kernel_rfl) Tryd.func4
    (ChangeSpec.witness_shaped (enc := enc) (C := Tryd.checked) (os := os) (X := fun w _ => laidMetH Tryd.prog Rows.lexCoversRow.laid w) false (World.laidAll Tryd.prog os Rows.lexCoversRow.laid) #[.string ⟨#[]⟩] 8 (World.laidAll_os _ _ _) (World.shaped_of_ZipB (by kernel_rfl) (by kernel_rfl)) (by kernel_rfl) (by kernel_rfl) (by kernel_rfl) (by rw [MakeChecks.laidMetH_plain _ _ _ (by kernel_rfl)]; exact laidMet_laidAll _ (by kernel_rfl) (by kernel_rfl))) ?_
  intro W base args ds gs before hval0 hW hcnd hsz hL _
  have hval : ∀ (j : Nat) t v, Tryd.f4.params[j]? = some t → args[j]? = some v → Value.okWide Tryd.prog W .any base t v := hval0
  have hW' := hW
  obtain ⟨p, q, hA0, hV, rfl, hfz, hnd⟩ := hW
  have hA : DataW.TrodAll enc Tryd.prog W 0 (fun _ => true) true Tryd.f4.params.toList args.toList ds p := hA0
  rw [Tryd.params4] at hA hval
  obtain ⟨v0, vs0, d0, ds0, p0, q0, hargs, rfl, rfl, h0, r0⟩ := trodAll_cons hA
  obtain ⟨rfl, rfl, rfl⟩ := trodAll_nil r0
  obtain rfl : args = #[v0] := by cases args; simp_all
  obtain ⟨rfl, rfl⟩ := trodVars_none hV
  have k0 := h0
  have lt0 : ∀ x ∈ p0, x.block < W.heap.size := by obtain ⟨m, hm⟩ := k0; exact DataW.trod_lt m _ _ _ hm
  obtain ⟨a0, rfl, rfl, rfl, w0⟩ := open_string Tryd.underlying9 (hval 0 9 v0 rfl rfl) h0
  rw [Tryd.params4] at hsz
  have rb0 : a0.size ≤ 140737488351232 := by
    have h1 := sized_string hsz (j := 0) (t := 9) rfl rfl
    have h2 : reachBytes = 140737488351232 := by decide
    have e1 : a0.size = a0.data.size := rfl
    have e2 : a0.data.toList.length = a0.data.size := Array.length_toList
    omega
  clear hA0 hval0
  refine (walk a0 w0 W (ErrRange_of hL) (ErrSyntax_of hL) rb0 (signs_of hL)).mono fun e W' ⟨he, bel⟩ => ?_
  subst he
  exact ⟨_, rfl, _, _, _, [], _, [], hW', trodAll_mk1 (shut_bool Tryd.underlying4 _), (trodAll_cons_mk (Below.trod laidOut (by kernel_rfl) (of_decide_eq_true (by kernel_rfl)) k0 bel lt0) trodAll_mk0), rfl, bel.frame _, fun h => by cases h⟩

theorem over : Rows.lexCoversRow.holds Tryd.pinned (OpenSpec.ofChange Rows.lexCoversSpec) :=
  OpenClaim.holds_of_wide 4 Tryd.f4 rfl rfl rfl rfl rfl rfl rfl ⟨rfl, rfl, rfl, rfl, rfl⟩ rfl rfl rfl rfl rfl (by kernel_rfl) Tryd.func4 (by kernel_rfl)
    (of_decide_eq_true (by kernel_rfl)) (by unfold Func.isWrapper; first | (rw [if_pos (by decide +kernel)]; kernel_rfl) | (rw [if_neg (by decide +kernel)]; exact ⟨rfl, rfl⟩))
    (fun os started H enc _ => lifted os started H enc)

/-- The tied card. -/
theorem proved : Rows.LexCoversCardSaid :=
  Claim7.holds_tied_plain_at .later [] [.data, .data, .data, .data, .sentinel, .sentinel, .data, .pinned] true (true, "0d3b2f4f74b5d1a0f58102e7aba8f9444d2000b29a38413b9d9b3beda251e91d") true
    over (fun _ h => by cases h) (by kernel_rfl) (fun _ h => by cases h) lexCovers_row_tie rfl ⟨rfl, rfl⟩ (by kernel_rfl) rfl
    (fun f fn hf hfn => by
      obtain rfl : f = 4 := Option.some.inj ((show Tryd.prog.funcNamed "lychway/lychwaykeep.LexCovers" = some 4 by kernel_rfl).symm.trans hf) |>.symm
      obtain rfl : fn = Tryd.f4 := (Option.some.inj (Tryd.func4.symm.trans hfn)).symm
      exact ⟨by kernel_rfl, fun j t ht => by
        rw [Tryd.params4] at ht
        have hm : t ∈ [9] := by simpa using Array.mem_of_getElem? ht
        have hall : ([9].all fun u => !Tryd.prog.wantsStandIn u) = true := by kernel_rfl
        exact (show Tryd.prog.wantsStandIn t = false by simpa using List.all_eq_true.1 hall t hm)⟩)
    (by kernel_rfl)
#print axioms proved
end Go.Proofs.YtjpajgpconejhaaDoor.lexCovers
