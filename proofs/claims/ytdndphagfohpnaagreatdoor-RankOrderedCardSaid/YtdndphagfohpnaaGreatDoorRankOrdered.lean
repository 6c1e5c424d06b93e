/- What is proved: the Go law lychwaykeep.RankOrdered returns true for all its arguments, and leaves them as they were. No condition. -/
import Derived.Test.YtdndphagfohpnaaGreatDoorRows
import Derived.Test.YtdndphagfohpnaaGreatDoorRkOrdF
import Derived.Test.YtdndphagfohpnaaGreatDoorRawOpen
import Derived.Test.YtdndphagfohpnaaGreatDoorKit
import Derived.WalkKit
import Derived.ProofKit
import Derived.OpenShut
import Derived.Deep.RegionHeld3
import Derived.Deep.DrawnRows
import Derived.Deep.DeepCutAuto
import Derived.Deep.QuietTactic
import Derived.BigQuiet
import Derived.WalkSpells
import Derived.WalkLawsBesides
import Derived.Lib.Hide
import Derived.Outline
import Derived.ShutString
import Derived.ChangeOld
import Derived.Below
import Derived.LaidMore
import Derived.SizedLaws
import Derived.Stop.Joined
import Derived.Stop.LaidErr
import Derived.Lib.LaidTab
import Derived.SevenTiedAt
import Derived.Lay
import Derived.LaidOnce
import Derived.Deep.DeepHandedRow
import Derived.Test.YtdndphagfohpnaaGreatDoorCards
import Derived.Test.YtdndphagfohpnaaGreatDoorTie
namespace Go.Proofs.YtdndphagfohpnaaGreatDoor.rankOrdered
open ValM LexM NumM ExM NmM Kit ExL ExP ExN RawV Within RawL RawN GenL Gen GenE GenT GenV FrmM Frm FldP FldR FldC FrmT FrmO NmA NmI NmT RkM RkA RkB RkC RkD RkK RkT RkP RkF
open Go.ChangeShapes Go.WideShapes Go.ChangeAt Go.RowKit
open Go.ChangeMaps (open_string shut_string)
set_option linter.unusedVariables false

theorem own : ownKnob Tryz.prog.godebug = none := by kernel_rfl
theorem laidOut : laidOutB Tryz.prog = true := by kernel_rfl


/-! ### The walk -/
set_option maxRecDepth 100000 in
set_option maxHeartbeats 8000000 in
theorem walk (A0 : Option Addr) (n0 : Nat) (c0 : Nat)  (w : World) (hraw0 : RawL.Raws w A0 n0 c0) (ht : ExN.Tab w) :
    Calls Tryz.prog 5 #[.slice A0 n0 c0] w fun e w' => e = .returned (.bool true) ∧ Below w.heap.size w w' := by
  obtain ⟨i0, hsi, hsz0, hsz1, hsz2⟩ := RkB.info_parts1 GenL.infoStr
  obtain ⟨rs, rfl, hrv⟩ := RawN.Raws.val n0 hraw0
  have hF := form_any c0 A0 rs w hrv
  have HF := Lib.hid hF
  have HT := Lib.hid ht
  clear hF hrv hraw0 ht
  have hf0 := @fld0
  go_enter Tryz.func5, Tryz.ntmps5
  go_wp2_with fail
  refine HF.out.mono ?_; rintro e w1 ⟨es, FA, fc, ps, PA, pc, rfl, hv, hpv, hfr, hpr, hb, hcap, -⟩
  have hR := form_rank hv hfr hcap (HT.out.below hb)
  have hof := form_order hv hfr hcap (HT.out.below hb) w1 (Below.refl _ _)
  have hbd := countV_bd rs
  have hfl : (es.map FE.fd).length = es.length := List.length_map _
  have hat : ∀ (i : Nat) (hi : i < es.length) (V : World), Below w1.heap.size w1 V → (∃ ad, FA = some ad ∧ FdAt V (ad.add (i * 9)) es[i].fd) ∧ Is V es[i].x es[i].fd.d es[i].fd.A es[i].fd.n := fun i hi V hV => by
    refine ⟨?_, ?_⟩
    · obtain ⟨ad, e, h⟩ := hR.flds.below hV i (by simpa using hi)
      exact ⟨ad, e, by rw [List.getElem_map] at h; exact h⟩
    · have := (hR.forms.below hV i (by simpa using hi)).2
      rw [List.getElem_map, xOf_at es i hi] at this
      exact this
  have hnames := fun (o : List Nat) (ho : OrdL _ _ o) (k : Nat) (hk : k < o.length) => order_names hR ho k hk
  have hn10 : es.length ≤ 10 := by have := hR.len; omega
  have hn1 : 1 ≤ es.length := by have := hR.len; omega
  generalize needsF (es.map FE.fd) (xOf es) = ns at hof hnames
  have HOf := Lib.hid hof
  have HB := Lib.hid hb
  have HAt := Lib.hid hat
  have HNm := Lib.hid hnames
  clear hof hb hat hnames hfl hv hpv hfr hpr hR hbd hcap
  go_wp2_with fail
  refine HOf.out.mono ?_; rintro e w2 ⟨g, cap, o, rfl, ho, hc, -, hb2⟩
  have hrk := ranked_any w2 ((HT.out.below HB.out).below hb2)
  have hol := ho.len
  have HRk := Lib.hid hrk
  have HC := Lib.hid hc
  have HB2 := Lib.hid hb2
  have HO := Lib.hid ho
  have HOl := Lib.hid hol
  clear hrk hc hb2 ho hol
  go_wp2_with fail
  refine HRk.out.mono ?_; rintro e w3 ⟨rfl, hb3⟩
  have hb13 := b_trans HB2.out hb3
  have hc3 : ∀ V : World, Below w3.heap.size w3 V → ∀ (j : Nat) (h : j < o.length), V.cell? ⟨g, j, none⟩ = some (.int .i64 (o[j] : Int)) := fun V hV j hj => by
    have h1 := HC.out j hj
    exact ((b_trans hb3 hV).cell (p := ⟨g, j, none⟩) (World.block_lt_of_cell? w2 _ h1)).trans h1
  have HC3 := Lib.hid hc3
  have HB13 := Lib.hid hb13
  have tl : ((es.length : Int) != (es.length : Int)) = false := by simp
  clear hc3 hb13 hb3
  go_wp2_with fail
  go_loopw [6, 8, 9, 10, 12, 36] (fun v6 _ _ _ _ ii wr => ∃ (k : Nat) (v : Value), v = v6 ∧ ii = .int .i64 k ∧ k ≤ es.length ∧ wr.ownsRow w3.heap.size 9 1 v ((o.take k).map (nmA es)).length (strV ((o.take k).map (nmA es))) ∧ Below w3.heap.size w3 wr) (fun _ _ _ _ _ ii _ => es.length - (intOf ii).toNat)
  case atStart => exact ⟨0, _, rfl, rfl, by omega, World.ownsRow_nil _ _ _ _, Below.refl _ _⟩
  case round =>
    obtain ⟨k, v, rfl, rfl, hkle, hown, hbr⟩ := hrel
    obtain ⟨wo, rfl⟩ : ∃ wo : World, wo = wr := ⟨_, rfl⟩
    by_cases hlt : k < es.length
    · have hko : k < o.length := by rw [HOl.out]; exact hlt
      have hoi := ordL_lt HO.out k hko
      have hcell := HC3.out wo hbr k hko
      have hb1 := b_trans HB13.out hbr
      obtain ⟨hn1', hn2'⟩ := HNm.out o HO.out k hko
      have htk : (o.take (k + 1)).map (nmA es) = (o.take k).map (nmA es) ++ [nmA es o[k]] := by
        rw [List.take_succ_eq_append_getElem hko, List.map_append]; rfl
      have hlen : ((o.take k).map (nmA es)).length = k := by rw [List.length_map, List.length_take]; omega
      generalize o[k] = i at hoi hcell hn1' hn2' htk
      obtain ⟨⟨ad, rfl, hat⟩, his⟩ := HAt.out i hoi wo hb1
      rw [nmA_at es i hoi] at hn1' htk
      rw [xOf_at es i hoi] at hn2'
      obtain ⟨f, hfk⟩ : ∃ f, es[i].fd = f := ⟨_, rfl⟩
      have hfn : es[i].nm = f.nm := by rw [← hfk]; rfl
      obtain ⟨x, hx⟩ : ∃ x, es[i].x = x := ⟨_, rfl⟩
      obtain ⟨q0, q1, q2, q3, q4, q5, q6, q7, q8⟩ := hat
      rw [hfk] at q0 q1 q2 q3 q4 q5 q6 q7 q8
      simp only [hfk, hx] at his hn2'
      rw [hfn] at hn1' htk
      generalize (o.take k).map (nmA es) = M at hown hn1' hn2' htk hlen
      have hml : M.length ≤ 1048576 := by omega
      have hc1 := contains_any M f.nm v w3.heap.size wo hml hown
      rw [hn1'] at hc1
      have hof := NmO.of_any x f.d f.A f.n f.c wo his (HT.out.below (b_trans HB.out hb1))
      have hol := ofL_len x
      generalize hLx : NmO.ofL x = L at hof hn2' hol
      have HFk := Lib.hid hfk
      have HC1 := Lib.hid hc1
      have HOf := Lib.hid hof
      have HOwn := Lib.hid hown
      have HN2 := Lib.hid hn2'
      have HBr := Lib.hid hbr
      have HTk := Lib.hid htk
      have HLen := Lib.hid hlen
      have HB1 := Lib.hid hb1
      have hii : (i : Int) < (es.length : Int) := by omega
      have hi0 : (0 : Int) ≤ (i : Int) := by omega
      have ti : ((i : Int) < 0) = False := by simp
      clear hc1 hof hown hn1' hn2' hbr htk hlen hb1 hLx hfn hfk hx his
      go_wp2_with (first
        | (go_at_call 17; refine HC1.out.mono ?_; rintro e w5 ⟨rfl, rfl⟩)
        | (go_at_call 18; refine HOf.out.mono ?_; rintro e w6 ⟨v6, rfl, hown6, hb6⟩; obtain ⟨A6, c6, rfl, hr6⟩ := SRowB.of_own hown6; have hrow6 := SRowB.of_own hown6; have HR6 := Lib.hid hr6; have HB6 := Lib.hid hb6; clear hown6 hr6 hb6 hrow6))
      have hlL : (mkL L).length = L.length := mkL_len L
      go_loopw [12, 68] (fun _ ii wr => ∃ m : Nat, ii = .int .i64 m ∧ m ≤ L.length ∧ Below w6.heap.size w6 wr) (fun _ ii _ => L.length - (intOf ii).toNat)
      case atStart => exact ⟨0, rfl, by omega, Below.refl _ _⟩
      case round =>
        obtain ⟨m, rfl, hml2, hb7⟩ := hrel
        have hb67 : Below wo.heap.size wo wr := b_trans HB6.out hb7
        by_cases hmm : m < L.length
        · have hmm2 : m < (mkL L).length := by omega
          obtain ⟨g6, rfl, _, hc6a⟩ := HR6.out m hmm2
          have hc6 := (hb7.cell (p := ⟨g6, m, none⟩) (World.block_lt_of_cell? w6 _ hc6a)).trans hc6a
          have hin := HN2.out (mkL L)[m] (List.getElem_mem hmm2)
          obtain ⟨⟨ad2, e2, hat2⟩, _⟩ := HAt.out i hoi wr (b_trans HB1.out hb67)
          obtain rfl : ad = ad2 := by injection e2
          have p1 := hat2.2.1
          rw [show es[i].fd = f from HFk.out] at p1
          have hown7 := GenL.own_below HOwn.out hb67
          have hc2 := contains_any M (mkL L)[m] v w3.heap.size wr hml hown7
          rw [hin] at hc2
          generalize (mkL L)[m] = s at hc6 hc2
          have HC2 := Lib.hid hc2
          have HB7 := Lib.hid hb7
          clear hc2 hown7 hin hat2 e2 hc6a hmm2 hb67 hb7 hlL
          by_cases hk1 : f.kind = 1
          · have t1 : (f.kind != 1) = false := by simp [hk1]
            clear hk1
            go_wp2_with fail
            go_roundw
            case rel => exact ⟨m + 1, by go_num, by omega, HB7.out⟩
            case measure => simp [intOf]; omega
          · have t1 : (f.kind != 1) = true := by simpa using hk1
            clear hk1
            go_wp2_with (go_at_call 17; refine HC2.out.mono ?_; rintro e w8 ⟨rfl, rfl⟩)
            go_roundw
            case rel => exact ⟨m + 1, by go_num, by omega, HB7.out⟩
            case measure => simp [intOf]; omega
        · obtain rfl : m = L.length := by omega
          obtain ⟨⟨ad2, e2, hat2⟩, _⟩ := HAt.out i hoi wr (b_trans HB1.out hb67)
          obtain rfl : ad = ad2 := by injection e2
          have p0 := hat2.1
          rw [show es[i].fd = f from HFk.out] at p0
          have hown7 : wr.ownsRow w3.heap.size 9 1 v k (strV M) := by
            have := GenL.own_below HOwn.out hb67
            rwa [HLen.out] at this
          have hbr7 : Below w3.heap.size w3 wr := b_trans HBr.out hb67
          have hnext : ∀ (gg cap : Nat) (w8 : World), w8.ownsRow w3.heap.size 9 1 (.slice (some ⟨gg, 0, none⟩) (k + 1) cap) (k + 1) (strV M ++ [.string f.nm]) → (wr.alloc (.cells #[.string f.nm] 9)).grownBy w8 v.ownBlock → w8.ownsRow w3.heap.size 9 1 (.slice (some ⟨gg, 0, none⟩) (k + 1) cap) ((o.take (k + 1)).map (nmA es)).length (strV ((o.take (k + 1)).map (nmA es))) ∧ Below w3.heap.size w3 w8 := fun gg cap w8 h1 h2 => by
            rw [HTk.out, List.length_append, HLen.out, strV_append]
            refine ⟨h1, (b_more hbr7 _).grown h2 (by simp; have := hbr7.size; omega) (fun q e => (HOwn.out.lt q e).1)⟩
          have HNx := Lib.hid hnext
          have HOw7 := Lib.hid hown7
          have hsz := hbr7.size
          clear hnext hown7 hbr7 hat2 e2 hb67 hb7 hlL
          go_wp2_with (at_builtin; refine wpList_append_lies _ rfl _ _ 24 rfl w3.heap.size 9 i0 _ 1 16 Tryz.underlying24 hsi hsz0 hsz1 hsz2 rfl (by decide) v k (strV M) rfl (HOw7.out.alloc _) ⟨wr.heap.size, 0, none⟩ 1 1 [.string f.nm] rfl rfl (World.news_of_block (cs := #[.string f.nm]) (t := 9) (fr := (0, 0)) (World.alloc_heap_new wr _)) (by simp [Value.oneCell']) (by decide) (by unfold maxLen; omega) (by omega) (by simp; omega) (wr.heap.size + 1) (by simp) ?_; intro gg cap w8 hown8 hgrow8 hat8 hlt8; have hN := HNx.out gg cap w8 hown8 hgrow8; have HN := Lib.hid hN; clear hN hown8 hgrow8 hat8 hlt8)
          go_roundw
          case rel => exact ⟨k + 1, _, rfl, by go_num, by omega, HN.out.1, HN.out.2⟩
          case measure => simp [intOf]; omega
    · have HB9 := Lib.hid (b_trans HB.out (b_trans HB13.out hbr))
      clear hbr hown
      go_wp2_with fail
      go_ret
      exact ⟨rfl, HB9.out⟩

theorem not_of {W : World} (h : laidMetH Tryz.prog Rows.rankOrderedRow.laid W) : ExN.Tab W := by
  have h0 : laidMet Tryz.prog Rows.rankOrderedRow.laid W := by rw [MakeChecks.laidMetH_plain _ _ _ (by kernel_rfl)] at h; exact h
  have h1 := h0
  exact NotTab.is_of_head (g := 0) (t := 126) (e := 125) (n := 19) (by kernel_rfl) (by kernel_rfl) Tryz.underlying126 (by kernel_rfl) Tryz.underlying125 (by kernel_rfl) rfl rfl rfl Tryz.underlying9 Tryz.underlying3 Tryz.underlying3 (by kernel_rfl) (by kernel_rfl) (by kernel_rfl) h1

/-! ### The row's step -/
set_option maxRecDepth 100000 in
theorem lifted (os : Os) (started : os.Started) (H : Type) (enc : TypeId × Value → H) :
    ReturnsInHanded {} Tryz.checked os 5 .any (fun w args => (Rows.rankOrderedSpec.pre enc Tryz.prog Tryz.f5 [] false w args ∧ laidMetH Tryz.prog Rows.rankOrderedRow.laid w) ∧ sizedMet enc Tryz.prog Tryz.f5 (OpenSpec.ofChange Rows.rankOrderedSpec) false w args) (Rows.rankOrderedSpec.post enc Tryz.prog Tryz.f5 false true false false) := by
  refine returnsInHanded_of_change_and (C := Tryz.checked) (X := fun w _ => laidMetH Tryz.prog Rows.rankOrderedRow.laid w) (fun _ _ _ hh h => h.of_heap hh) own started (by kernel_rfl) Tryz.func5
    (ChangeSpec.witness_shaped (enc := enc) (C := Tryz.checked) (os := os) (X := fun w _ => laidMetH Tryz.prog Rows.rankOrderedRow.laid w) false (World.laidAll Tryz.prog os Rows.rankOrderedRow.laid) #[.slice none 0 0] 8 (World.laidAll_os _ _ _) (World.shaped_of_ZipB (by kernel_rfl) (by kernel_rfl)) (by kernel_rfl) (by kernel_rfl) (by kernel_rfl) (by rw [MakeChecks.laidMetH_plain _ _ _ (by kernel_rfl)]; exact laidMet_laidAll _ (by kernel_rfl) (by kernel_rfl))) ?_
  intro W base args ds gs before hval0 hW hcnd hsz hL _
  have hval : ∀ (j : Nat) t v, Tryz.f5.params[j]? = some t → args[j]? = some v → Value.okWide Tryz.prog W .any base t v := hval0
  have hW' := hW
  obtain ⟨p, q, hA0, hV, rfl, hfz, hnd⟩ := hW
  have hA : DataW.TrodAll enc Tryz.prog W 0 (fun _ => true) true Tryz.f5.params.toList args.toList ds p := hA0
  rw [Tryz.params5] at hA hval
  obtain ⟨v0, vs0, d0, ds0, p0, q0, hargs, rfl, rfl, h0, r0⟩ := trodAll_cons hA
  obtain ⟨rfl, rfl, rfl⟩ := trodAll_nil r0
  obtain rfl : args = #[v0] := by cases args; simp_all
  obtain ⟨rfl, rfl⟩ := trodVars_none hV
  have k0 := h0
  have lt0 : ∀ x ∈ p0, x.block < W.heap.size := by obtain ⟨m, hm⟩ := k0; exact DataW.trod_lt m _ _ _ hm
  obtain ⟨A0, n0, c0, rfl, hraw0⟩ := RawO.open_raws (hval 0 35 v0 rfl rfl) h0
  clear hA0 hval0
  refine (walk A0 n0 c0  W hraw0 (not_of hL)).mono fun e W' ⟨he, bel⟩ => ?_
  subst he
  exact ⟨_, rfl, _, _, _, [], _, [], hW', trodAll_mk1 (shut_bool Tryz.underlying4 _), (trodAll_cons_mk (Below.trod laidOut (by kernel_rfl) (of_decide_eq_true (by kernel_rfl)) k0 bel lt0) trodAll_mk0), rfl, bel.frame _, fun h => by cases h⟩

theorem over : Rows.rankOrderedRow.holds Tryz.pinned (OpenSpec.ofChange Rows.rankOrderedSpec) :=
  OpenClaim.holds_of_wide 5 Tryz.f5 rfl rfl rfl rfl rfl rfl rfl ⟨rfl, rfl, rfl, rfl, rfl⟩ rfl rfl rfl rfl rfl (by kernel_rfl) Tryz.func5 (by kernel_rfl)
    (of_decide_eq_true (by kernel_rfl)) (by unfold Func.isWrapper; first | (rw [if_pos (by decide +kernel)]; kernel_rfl) | (rw [if_neg (by decide +kernel)]; exact ⟨rfl, rfl⟩))
    (fun os started H enc _ => lifted os started H enc)

/-- The tied card. -/
theorem proved : Rows.RankOrderedCardSaid :=
  Claim7.holds_tied_plain_at .later [] [.data] true (true, "0a2fb0aeae9f543ae7f2fd1da402125f577ffeb103430b4eee2c0091bcbe98d0") false
    over (fun _ h => by cases h) (by kernel_rfl) (fun _ h => by cases h) rankOrdered_row_tie rfl ⟨rfl, rfl⟩ (by kernel_rfl) rfl
    (fun f fn hf hfn => by
      obtain rfl : f = 5 := Option.some.inj ((show Tryz.prog.funcNamed "lychway/lychwaykeep.RankOrdered" = some 5 by kernel_rfl).symm.trans hf) |>.symm
      obtain rfl : fn = Tryz.f5 := (Option.some.inj (Tryz.func5.symm.trans hfn)).symm
      exact ⟨by kernel_rfl, fun j t ht => by
        rw [Tryz.params5] at ht
        have hm : t ∈ [35] := by simpa using Array.mem_of_getElem? ht
        have hall : ([35].all fun u => !Tryz.prog.wantsStandIn u) = true := by kernel_rfl
        exact (show Tryz.prog.wantsStandIn t = false by simpa using List.all_eq_true.1 hall t hm)⟩)
    (by kernel_rfl)
#print axioms proved
end Go.Proofs.YtdndphagfohpnaaGreatDoor.rankOrdered
