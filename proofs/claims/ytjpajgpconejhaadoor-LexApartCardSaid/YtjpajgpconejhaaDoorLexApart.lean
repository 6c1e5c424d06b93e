/- What is proved: the Go law lychwaykeep.LexApart returns true for all its arguments, and leaves them as they were. No condition. -/
import Derived.Test.YtjpajgpconejhaaDoorRows
import Derived.Test.YtjpajgpconejhaaDoorLexJoin
import Derived.Test.YtjpajgpconejhaaDoorKit
import Derived.WalkKit
import Derived.ProofKit
import Derived.OpenShut
import Derived.Deep.RegionHeld3
import Derived.Deep.DrawnRows
import Derived.Deep.DeepCutAuto
import Derived.Deep.QuietTactic
import Derived.BigQuiet
import Derived.WalkSpells
import Derived.WalkLawsBesides
import Derived.Lib.Hide
import Derived.Outline
import Derived.ShutString
import Derived.ChangeOld
import Derived.Below
import Derived.LaidMore
import Derived.SizedLaws
import Derived.Stop.Joined
import Derived.Stop.LaidErr
import Derived.Lib.LaidTab
import Derived.SevenTiedAt
import Derived.Lay
import Derived.LaidOnce
import Derived.Test.YtjpajgpconejhaaDoorCards
import Derived.Test.YtjpajgpconejhaaDoorTie
namespace Go.Proofs.YtjpajgpconejhaaDoor.lexApart
open LexM LexB LexT Lex LexSame LexJoin Kit
open Go.ChangeShapes Go.WideShapes Go.ChangeAt Go.RowKit
open Go.ChangeMaps (open_string shut_string)
set_option linter.unusedVariables false

theorem own : ownKnob Tryd.prog.godebug = none := by kernel_rfl
theorem laidOut : laidOutB Tryd.prog = true := by kernel_rfl


/-! ### The walk -/
structure AInv (w : World) (ts : List Tk) (A1 : Option Addr) (p1 k : Nat) (v : Value) (wr : World) : Prop where
  le : k ≤ ts.length
  l : wr.ownsRow w.heap.size 31 6 (.slice A1 ts.length p1) ts.length (tksC ts)
  own : wr.ownsRow w.heap.size 9 1 v k ((ts.map strC).take k)
  below : Below w.heap.size w wr
theorem infoStr : (Tryd.prog.info? 9).map (fun i => (i.zero, i.size, i.bytes)) = some (some (.string ⟨#[]⟩), 1, 16) := by kernel_rfl
theorem AInv.step {w wr w3 : World} {ts : List Tk} {A1 : Option Addr} {p1 k : Nat} {v v' : Value} {o1 o2 : Obj} (h : AInv w ts A1 p1 k v wr) (hk : k < ts.length) (ho : w3.ownsRow w.heap.size 9 1 v' (k + 1) ((ts.map strC).take k ++ [strC ts[k]])) (hg : ((wr.alloc o1).alloc o2).grownBy w3 v.ownBlock) : AInv w ts A1 p1 (k + 1) v' w3 := by
  have hs := h.below.size
  refine ⟨hk, ((h.l.alloc _).alloc _).kept hg (own_ne ((h.l.alloc o1).alloc o2) ((h.own.alloc o1).alloc o2) (by decide)), ?_, ((h.below.alloc hs _).alloc (by simp; omega) _).grown hg (by simp; omega) (fun g hg => (h.own.lt g hg).1)⟩
  rw [List.take_succ_eq_append_getElem (by simpa using hk), List.getElem_map]
  exact ho
set_option maxHeartbeats 4000000 in
set_option maxRecDepth 100000 in
theorem walk (a0 : ByteArray) (w0 : a0.size ≤ maxLen) (w : World) (hErrRange : ∃ p, w.var? Tryd.prog "strconv.ErrRange" = some #[.iface 97 p]) (hErrSyntax : ∃ p, w.var? Tryd.prog "strconv.ErrSyntax" = some #[.iface 97 p]) (rb0 : a0.size ≤ 140737488351232) (t_signs : StrTab.Is Tryd.prog w "lychway/lex.signs" [[60, 61], [33, 61], [60], [61], [43], [45], [42], [47], [37], [38], [40], [41], [44]]) :
    Calls Tryd.prog 5 #[.string a0] w fun e w' => e = .returned (.bool true) ∧ Below w.heap.size w w' := by
  have hv : Vars w := ⟨hErrSyntax, hErrRange, t_signs⟩
  have HV := Lib.hid hv
  clear hErrSyntax hErrRange t_signs hv
  obtain ⟨i0, hi, hz0, hz1, hz2⟩ := info_parts infoStr
  have k0 : lexR (ByteArray.mk #[97, 60, 61, 98]).data.toList = ([⟨2, 0, [97], 0, 0, []⟩, ⟨4, 1, [60, 61], 0, 0, []⟩, ⟨2, 3, [98], 0, 0, []⟩], 0, 0) := by rfl
  have c2 := fun W hv => tokens_is ⟨#[97, 60, 61, 98]⟩ k0 W (by decide) hv
  have C2 := Lib.hid c2
  clear c2 k0 w0
  rcases lex_cases a0.data.toList with ⟨ts, hl, ht, hR⟩ | ⟨_, hR⟩ | ⟨p, e, ts, hl, hlt, he, hR, hR2⟩
  · have c1 := fun W hv => tokens_is a0 hR W rb0 hv
    have hfew := few _ _ _ ht
    have htl : ts.length ≤ 160 := Nat.le_trans hfew hl
    obtain ⟨hJ0, hJ1⟩ := lex_apart hl ht
    have C1 := Lib.hid c1
    have HJ0 := Lib.hid hJ0
    have HJ1 := Lib.hid hJ1
    clear c1 hR hl ht hfew hJ0 hJ1
    go_enter Tryd.func5, Tryd.ntmps5
    go_wp2_with fail
    refine (C1.out _ HV.out).mono ?_; rintro x w1 ⟨v1, rfl, ho1, hb1⟩
    go_wp2_with fail
    refine (C2.out _ (HV.out.below hb1)).mono ?_; rintro x w2 ⟨v2, rfl, ho2, hb2⟩
    have ho1 := own_below ho1 hb2
    obtain ⟨A2, p2, rfl⟩ := own_slice ho2
    obtain ⟨A1, p1, rfl⟩ := own_slice ho1
    have hI0 : AInv w ts A1 p1 0 (.slice none 0 0) w2 := ⟨Nat.zero_le _, ho1, World.ownsRow_nil _ _ _ _, b_trans hb1 hb2⟩
    have HI0 := Lib.hid hI0
    clear ho1 ho2 hI0
    go_wp2_with fail
    go_loopw [9, 11, 37] (fun v _ i wr => ∃ k : Nat, i = .int .i64 k ∧ AInv w ts A1 p1 k v wr) (fun _ _ i _ => ts.length - (intOf i).toNat)
    case atStart => exact ⟨0, rfl, HI0.out⟩
    case round =>
      obtain ⟨k, rfl, hI⟩ := hrel
      have hle := hI.le
      have HI := Lib.hid hI
      by_cases hlt : k < ts.length
      · obtain ⟨g, kd, vk, n, p, u, t, rfl, y0, y1, y2, y3, y4, y5, e0, e1, e2, e3, e4, e5⟩ := (Holds.of_own hI.l).at_ hlt
        have hown := (hI.own.alloc (.cells #[.int .i64 kd, .int .i64 p, .string u, .int .i64 vk, .int .i64 n, .string t] 31)).alloc (.cells #[.string u] 9)
        have hs := hI.below.size
        have hu : Value.string u = strC ts[k] := by rw [e2]; rfl
        have HU := Lib.hid hu
        clear hI hu e0 e1 e2 e3 e4 e5
        go_wp2_with (at_builtin; refine wpList_append_own _ rfl _ _ 33 rfl w.heap.size 9 i0 (.string ⟨#[]⟩) 1 16 Tryd.underlying33 hi hz0 hz1 hz2 rfl (by decide) _ _ _ rfl hown ⟨wr.heap.size + 1, 0, none⟩ 1 1 [.string u] rfl rfl ?c1 ?c2 ?c3 ?c4 ?c5 ?_)
        case c1 =>
          intro j y hj
          match j, hj with
          | 0, hj => simp at hj; subst hj; simp [Addr.add]
        case c2 => intro y hy; simp at hy; subst hy; rfl
        case c3 => unfold maxLen; omega
        case c4 => omega
        case c5 => simp; omega
        intro v' w3 hown3 hgrow _
        rw [HU.out] at hown3
        have hN := HI.out.step hlt hown3 hgrow
        have HN := Lib.hid hN
        clear hN hown3 hgrow hown
        go_wp2
        go_roundw
        case rel => exact ⟨k + 1, by go_num, HN.out⟩
        case measure => simp [intOf]; omega
      · have hke : k = ts.length := by omega
        have hown := hI.own
        rw [hke, List.take_of_length_le (by simp)] at hown
        have hol := hI.l
        have hbw := hI.below
        have hbs := hbw.size
        clear hI hke
        obtain ⟨J, hJ⟩ : ∃ J : ByteArray, (⟨(joined (ts.map Tk.s)).toArray⟩ : ByteArray) = J := ⟨_, rfl⟩
        have hJd : J.data.toList = joined (ts.map Tk.s) := by rw [← hJ]
        have hJs : J.size ≤ 320 := by have := HJ0.out; rw [← hJd] at this; exact this
        have c4 : ∀ W, Below wr.heap.size wr W → Calls Tryd.prog 12 #[_, .string ⟨#[32]⟩] W fun e w' => e = .returned (.string J) ∧ Below W.heap.size W w' := fun W hb => by
          have := join_any ts (own_below hown hb) HJ0.out htl
          rw [hJ] at this
          exact this
        have C4 := Lib.hid c4
        have HOL := Lib.hid hol
        have hjc := HJ1.out
        rw [← hJd] at hjc
        clear c4 hol hJ hJd hown
        rcases hjc with ⟨hg, hR⟩ | ⟨hg, us, hR, hus⟩
        · have hg2 : 160 < J.size := hg
          have c5 := fun W hv => tokens_is J hR W (by omega) hv
          have C5 := Lib.hid c5
          clear c5 hR hg
          go_wp2_with fail
          refine (C4.out _ (Below.refl _ _)).mono ?_; rintro x w4 ⟨rfl, hb4⟩
          go_wp2_with fail
          refine (C5.out _ (HV.out.below (hbw.trans (hb4.mono hbs)))).mono ?_; rintro x w5 ⟨v5, rfl, ho5, hb5⟩
          go_wp2_with fail
          refine (C4.out _ (b_trans hb4 hb5)).mono ?_; rintro x w6 ⟨rfl, hb6⟩
          go_wp2_with fail
          go_ret
          exact ⟨rfl, hbw.trans ((b_trans hb4 (b_trans hb5 hb6)).mono hbs)⟩
        · have hg2 : J.size ≤ 160 := hg
          have c5 := fun W hv => tokens_is J hR W (by omega) hv
          have C5 := Lib.hid c5
          have HUS := Lib.hid hus
          clear c5 hR hg hus
          go_wp2_with fail
          refine (C4.out _ (Below.refl _ _)).mono ?_; rintro x w4 ⟨rfl, hb4⟩
          go_wp2_with fail
          refine (C5.out _ (HV.out.below (hbw.trans (hb4.mono hbs)))).mono ?_; rintro x w5 ⟨v5, rfl, ho5, hb5⟩
          obtain ⟨A5, p5, rfl⟩ := own_slice ho5
          have HO5 := Lib.hid ho5
          clear ho5
          go_wp2_with fail
          refine (C4.out _ (b_trans hb4 hb5)).mono ?_; rintro x w6 ⟨rfl, hb6⟩
          have c7 := eqf_any w6 ts us A1 A5 p1 p5 htl HUS.out (Holds.below (Holds.of_own HOL.out) (b_trans hb4 (b_trans hb5 hb6))) (Holds.below (Holds.of_own HO5.out) hb6)
          have C7 := Lib.hid c7
          clear c7
          go_wp2_with fail
          refine C7.out.mono ?_; rintro x w7 ⟨rfl, hb7⟩
          go_wp2_with fail
          go_ret
          exact ⟨rfl, hbw.trans ((b_trans hb4 (b_trans hb5 (b_trans hb6 hb7))).mono hbs)⟩
  · have c1 := fun W hv => tokens_is a0 hR W rb0 hv
    have C1 := Lib.hid c1
    clear c1 hR
    go_enter Tryd.func5, Tryd.ntmps5
    go_wp2_with fail
    refine (C1.out _ HV.out).mono ?_; rintro x w1 ⟨v1, rfl, ho1, hb1⟩
    go_wp2_with fail
    refine (C2.out _ (HV.out.below hb1)).mono ?_; rintro x w2 ⟨v2, rfl, ho2, hb2⟩
    obtain ⟨A2, p2, rfl⟩ := own_slice ho2
    clear ho1 ho2
    go_wp2_with fail
    go_ret
    exact ⟨rfl, b_trans hb1 hb2⟩
  · have c1 := fun W hv => tokens_is a0 hR W rb0 hv
    have C1 := Lib.hid c1
    have t1 : (e != 0) = true := by rw [bne_iff_ne]; omega
    clear c1 hR hR2 he
    go_enter Tryd.func5, Tryd.ntmps5
    go_wp2_with fail
    refine (C1.out _ HV.out).mono ?_; rintro x w1 ⟨v1, rfl, ho1, hb1⟩
    go_wp2_with fail
    refine (C2.out _ (HV.out.below hb1)).mono ?_; rintro x w2 ⟨v2, rfl, ho2, hb2⟩
    obtain ⟨A2, p2, rfl⟩ := own_slice ho2
    clear ho1 ho2
    go_wp2_with fail
    go_ret
    exact ⟨rfl, b_trans hb1 hb2⟩

theorem star : "*" ++ "errors.errorString" = "*errors.errorString" := by decide
theorem row_es (u : TypeId) (h : Tryd.prog.typeName? 3 u = some "*errors.errorString") : u = 97 :=
  typeName_ptr_named (nm := "errors.errorString") (by rw [star]; kernel_rfl) (by kernel_rfl) (by decide) u (by rw [star]; exact h)
theorem ErrRange_of {W : World} (h : laidMetH Tryd.prog Rows.lexApartRow.laid W) : ∃ p, W.var? Tryd.prog "strconv.ErrRange" = some #[.iface 97 p] := by
  have h0 : laidMet Tryd.prog Rows.lexApartRow.laid W := by rw [MakeChecks.laidMetH_plain _ _ _ (by kernel_rfl)] at h; exact h
  obtain ⟨a0, s0, hv0, hc0, hs0, hz0⟩ := laid_sentinel (g := 2) (ti := 42) h0.tail.tail.tail (by kernel_rfl) (by kernel_rfl) Tryd.underlying42 (row_es) Tryd.underlying97 Tryd.underlying99 rfl rfl Tryd.underlying9 (by kernel_rfl) (by kernel_rfl)
  exact ⟨_, hv0⟩

theorem ErrSyntax_of {W : World} (h : laidMetH Tryd.prog Rows.lexApartRow.laid W) : ∃ p, W.var? Tryd.prog "strconv.ErrSyntax" = some #[.iface 97 p] := by
  have h0 : laidMet Tryd.prog Rows.lexApartRow.laid W := by rw [MakeChecks.laidMetH_plain _ _ _ (by kernel_rfl)] at h; exact h
  obtain ⟨a0, s0, hv0, hc0, hs0, hz0⟩ := laid_sentinel (g := 1) (ti := 42) h0.tail.tail.tail.tail (by kernel_rfl) (by kernel_rfl) Tryd.underlying42 (row_es) Tryd.underlying97 Tryd.underlying99 rfl rfl Tryd.underlying9 (by kernel_rfl) (by kernel_rfl)
  exact ⟨_, hv0⟩

theorem signs_of {W : World} (h : laidMetH Tryd.prog Rows.lexApartRow.laid W) : StrTab.Is Tryd.prog W "lychway/lex.signs" [[60, 61], [33, 61], [60], [61], [43], [45], [42], [47], [37], [38], [40], [41], [44]] := by
  have h0 : laidMet Tryd.prog Rows.lexApartRow.laid W := by rw [MakeChecks.laidMetH_plain _ _ _ (by kernel_rfl)] at h; exact h
  have h1 := h0.tail.tail.tail.tail.tail
  exact StrTab.is_of_head (g := 0) (t := 67) (e := 9) (n := 13) (by kernel_rfl) (by kernel_rfl) Tryd.underlying67 Tryd.underlying9 (by kernel_rfl) (by kernel_rfl) h1

/-! ### The row's step -/
set_option maxRecDepth 100000 in
theorem lifted (os : Os) (started : os.Started) (H : Type) (enc : TypeId × Value → H) :
    ReturnsInHanded {} Tryd.checked os 5 .any (fun w args => (Rows.lexApartSpec.pre enc Tryd.prog Tryd.f5 [] false w args ∧ laidMetH Tryd.prog Rows.lexApartRow.laid w) ∧ sizedMet enc Tryd.prog Tryd.f5 (OpenSpec.ofChange Rows.lexApartSpec) false w args) (Rows.lexApartSpec.post enc Tryd.prog Tryd.f5 false true false false) := by
  refine returnsInHanded_of_change_and (C := Tryd.checked) (X := fun w _ => laidMetH Tryd.prog Rows.lexApartRow.laid w) (fun _ _ _ hh h => h.of_heap hh) own started (by kernel_rfl) Tryd.func5
    (ChangeSpec.witness_shaped (enc := enc) (C := Tryd.checked) (os := os) (X := fun w _ => laidMetH Tryd.prog Rows.lexApartRow.laid w) false (World.laidAll Tryd.prog os Rows.lexApartRow.laid) #[.string ⟨#[]⟩] 8 (World.laidAll_os _ _ _) (World.shaped_of_ZipB (by kernel_rfl) (by kernel_rfl)) (by kernel_rfl) (by kernel_rfl) (by kernel_rfl) (by rw [MakeChecks.laidMetH_plain _ _ _ (by kernel_rfl)]; exact laidMet_laidAll _ (by kernel_rfl) (by kernel_rfl))) ?_
  intro W base args ds gs before hval0 hW hcnd hsz hL _
  have hval : ∀ (j : Nat) t v, Tryd.f5.params[j]? = some t → args[j]? = some v → Value.okWide Tryd.prog W .any base t v := hval0
  have hW' := hW
  obtain ⟨p, q, hA0, hV, rfl, hfz, hnd⟩ := hW
  have hA : DataW.TrodAll enc Tryd.prog W 0 (fun _ => true) true Tryd.f5.params.toList args.toList ds p := hA0
  rw [Tryd.params5] at hA hval
  obtain ⟨v0, vs0, d0, ds0, p0, q0, hargs, rfl, rfl, h0, r0⟩ := trodAll_cons hA
  obtain ⟨rfl, rfl, rfl⟩ := trodAll_nil r0
  obtain rfl : args = #[v0] := by cases args; simp_all
  obtain ⟨rfl, rfl⟩ := trodVars_none hV
  have k0 := h0
  have lt0 : ∀ x ∈ p0, x.block < W.heap.size := by obtain ⟨m, hm⟩ := k0; exact DataW.trod_lt m _ _ _ hm
  obtain ⟨a0, rfl, rfl, rfl, w0⟩ := open_string Tryd.underlying9 (hval 0 9 v0 rfl rfl) h0
  rw [Tryd.params5] at hsz
  have rb0 : a0.size ≤ 140737488351232 := by
    have h1 := sized_string hsz (j := 0) (t := 9) rfl rfl
    have h2 : reachBytes = 140737488351232 := by decide
    have e1 : a0.size = a0.data.size := rfl
    have e2 : a0.data.toList.length = a0.data.size := Array.length_toList
    omega
  clear hA0 hval0
  refine (walk a0 w0 W (ErrRange_of hL) (ErrSyntax_of hL) rb0 (signs_of hL)).mono fun e W' ⟨he, bel⟩ => ?_
  subst he
  exact ⟨_, rfl, _, _, _, [], _, [], hW', trodAll_mk1 (shut_bool Tryd.underlying4 _), (trodAll_cons_mk (Below.trod laidOut (by kernel_rfl) (of_decide_eq_true (by kernel_rfl)) k0 bel lt0) trodAll_mk0), rfl, bel.frame _, fun h => by cases h⟩

theorem over : Rows.lexApartRow.holds Tryd.pinned (OpenSpec.ofChange Rows.lexApartSpec) :=
  OpenClaim.holds_of_wide 5 Tryd.f5 rfl rfl rfl rfl rfl rfl rfl ⟨rfl, rfl, rfl, rfl, rfl⟩ rfl rfl rfl rfl rfl (by kernel_rfl) Tryd.func5 (by kernel_rfl)
    (of_decide_eq_true (by kernel_rfl)) (by unfold Func.isWrapper; first | (rw [if_pos (by decide +kernel)]; kernel_rfl) | (rw [if_neg (by decide +kernel)]; exact ⟨rfl, rfl⟩))
    (fun os started H enc _ => lifted os started H enc)

/-- The tied card. -/
theorem proved : Rows.LexApartCardSaid :=
  Claim7.holds_tied_plain_at .later [] [.data, .data, .data, .sentinel, .sentinel, .data] true (true, "0d3b2f4f74b5d1a0f58102e7aba8f9444d2000b29a38413b9d9b3beda251e91d") true
    over (fun _ h => by cases h) (by kernel_rfl) (fun _ h => by cases h) lexApart_row_tie rfl ⟨rfl, rfl⟩ (by kernel_rfl) rfl
    (fun f fn hf hfn => by
      obtain rfl : f = 5 := Option.some.inj ((show Tryd.prog.funcNamed "lychway/lychwaykeep.LexApart" = some 5 by kernel_rfl).symm.trans hf) |>.symm
      obtain rfl : fn = Tryd.f5 := (Option.some.inj (Tryd.func5.symm.trans hfn)).symm
      exact ⟨by kernel_rfl, fun j t ht => by
        rw [Tryd.params5] at ht
        have hm : t ∈ [9] := by simpa using Array.mem_of_getElem? ht
        have hall : ([9].all fun u => !Tryd.prog.wantsStandIn u) = true := by kernel_rfl
        exact (show Tryd.prog.wantsStandIn t = false by simpa using List.all_eq_true.1 hall t hm)⟩)
    (by kernel_rfl)
#print axioms proved
end Go.Proofs.YtjpajgpconejhaaDoor.lexApart
