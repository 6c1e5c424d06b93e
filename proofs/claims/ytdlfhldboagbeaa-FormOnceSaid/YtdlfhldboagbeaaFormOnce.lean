/- What is proved: the Go law lychwaykeep.FormOnce returns true for all its arguments, and leaves them as they were. No condition. -/
import Derived.Test.YtdlfhldboagbeaaRows
import Derived.Test.YtdlfhldboagbeaaFctForm
import Derived.Test.YtdlfhldboagbeaaShFacts
import Derived.Test.YtdlfhldboagbeaaRawOpen
import Derived.Test.YtdlfhldboagbeaaKit
import Derived.WalkKit
import Derived.ProofKit
import Derived.OpenShut
import Derived.Deep.RegionHeld3
import Derived.Deep.DrawnRows
import Derived.Deep.DeepCutAuto
import Derived.Deep.QuietTactic
import Derived.BigQuiet
import Derived.WalkSpells
import Derived.WalkLawsBesides
import Derived.Lib.Hide
import Derived.Outline
import Derived.ShutString
import Derived.ChangeOld
import Derived.Below
namespace Go.Proofs.Ytdlfhldboagbeaa.formOnce
open ValM LexM NumM ExM TyM EvM Kit ExL ExP RawV Within RawL RawN GenL FldP EvF FrmM FrmO FrmT Frm FcM ShF InpG FcF
open Go.ChangeShapes Go.WideShapes Go.ChangeAt Go.RowKit
open Go.ChangeMaps (open_string shut_string)
set_option linter.unusedVariables false

theorem own : ownKnob Try.prog.godebug = none := by kernel_rfl
theorem laidOut : laidOutB Try.prog = true := by kernel_rfl


/-! ### The walk -/
set_option maxRecDepth 100000 in
set_option maxHeartbeats 8000000 in
theorem walk (A0 : Option Addr) (n0 : Nat) (c0 : Nat) (A1 : Option Addr) (n1 : Nat) (c1 : Nat) (a2 : Int) (w2 : (Lit.int .i64 a2).wf = true) (w : World) (hraw0 : RawL.Raws w A0 n0 c0) (hraw1 : RawL.Raws w A1 n1 c1) :
    Calls Try.prog 4 #[.slice A0 n0 c0, .slice A1 n1 c1, .int .i64 a2] w fun e w' => e = .returned (.bool true) ∧ Below w.heap.size w w' := by
  obtain ⟨i0, hi, hz0, hz1, hz2⟩ := info_parts infoFc
  obtain ⟨rs, rfl, hrv⟩ := RawN.Raws.val n0 hraw0
  obtain ⟨qs, rfl, hqv⟩ := RawN.Raws.val n1 hraw1
  have hF := form_any c0 A0 rs w hrv
  have HF := Lib.hid hF
  have HQ := Lib.hid hqv
  clear hF hrv hraw0 hqv hraw1
  go_enter Try.func4, Try.ntmps4
  go_wp2_with fail
  refine HF.out.mono ?_; rintro e v1 ⟨es, FA, fc, ps, PA, pc, rfl, hv, hpv, hfr, hpr, hb, hcap, hpcap, -⟩
  have hB := form_base hv hfr
  have hO := FcF.own_base hB
  have h10 := hB.ten
  rw [List.length_map] at h10
  have hfl := frow_flds hfr
  have hnm : ∀ (k : Nat) (h : k < (es.map FE.fd).length), (es.map FE.fd)[k].nm.size ≤ maxLen := fun k hk => by
    rw [hB.nm k hk]
    have := nmK_size (plc rs k)
    unfold maxLen; omega
  obtain ⟨F, hFe⟩ : ∃ F, es.map FE.fd = F := ⟨_, rfl⟩
  rw [hFe] at hO hfl hnm hB
  have hFl : es.length = F.length := by rw [← hFe, List.length_map]
  rw [hFl] at hcap h10 ⊢
  have hFm : F.length ≤ maxLen := by unfold maxLen; omega
  obtain ⟨W2, hW2⟩ : ∃ V, v1.alloc (ShF.frBox FA F.length fc PA ps.length pc) = V := ⟨_, rfl⟩
  obtain ⟨B2, hB2⟩ : ∃ B, v1.heap.size = B := ⟨_, rfl⟩
  have hb2 := b_new v1 (ShF.frBox FA F.length fc PA ps.length pc)
  have hcell := ShF.fr_cells v1 FA F.length fc PA ps.length pc
  rw [hW2] at hb2 hcell
  rw [hB2] at hcell
  have hb02 := b_trans hb hb2
  have hin := inputs_any c1 A1 qs F FA fc PA ps.length pc W2 (HQ.out.below hb02) (hfl.below hb2) (by omega)
  have hgood := good_in hO qs
  have hlen := (inpV_le qs F F.length).2
  have hfa : ∀ (V : World), Below W2.heap.size W2 V → ∀ (L : List Fc) (A : Option Addr) (c : Nat), Fcs V A L → (∀ f ∈ L, ∃ (j : Nat) (h : j < F.length), f.nm = F[j].nm) → L.length ≤ 11 → Calls Try.prog 5 #[.agg #[.slice FA F.length fc, .slice PA ps.length pc], .slice A L.length c] V fun r w' => r = .returned (.int .i64 (factsE F L)) ∧ Below V.heap.size V w' := fun V hV L A c hf hn hl =>
    facts_any F FA fc PA ps.length pc L A c V hFm hcap ((hfl.below hb2).below hV) hnm hf (fun f hf => by obtain ⟨j, hj, e⟩ := hn f hf; rw [e]; exact hnm j hj) (by unfold maxLen; omega)
  have hmem : ∀ f ∈ (inpV qs F F.length).1, ∃ (j : Nat) (h : j < F.length), f.nm = F[j].nm := fun f hf => by
    obtain ⟨j, hj, r, _, _, rfl⟩ := inpV_mem qs F _ f hf
    exact ⟨j, hj, rfl⟩
  unfold InpOut at hin
  obtain ⟨L, hL⟩ : ∃ L, (inpV qs F F.length).1 = L := ⟨_, rfl⟩
  rw [hL] at hin hgood hlen hmem
  obtain ⟨c0, c1⟩ := hcell W2 (Below.refl _ _)
  have HIn := Lib.hid hin
  have HGood := Lib.hid hgood
  have HMem := Lib.hid hmem
  have HFa := Lib.hid hfa
  have HW2 := Lib.hid hW2
  have HB2 := Lib.hid hB2
  have HCell := Lib.hid hcell
  have HB02 := Lib.hid hb02
  clear hin hgood hmem hfa hW2 hB2 hb2 hcell hb02 hv hpv hfr hpr hb hcap hpcap hB hO hfl hnm hFe hFm hL
  unfold ShF.frBox at HW2
  go_upto_region 2 with fail
  rw [HW2.out, HB2.out]
  go_wp2_with fail
  refine HIn.out.mono ?_; rintro e v3 ⟨OA, oc, rfl, hfc, hown, hb3⟩
  have hf1 := HFa.out v3 hb3 L OA oc hfc HMem.out (by omega)
  rw [good_facts HGood.out] at hf1
  obtain ⟨c0, c1⟩ := HCell.out v3 hb3
  have HF1 := Lib.hid hf1
  have HSt := Lib.hid (And.intro hfc (And.intro hown hb3))
  clear hf1 hfc hown hb3
  go_wp2_with fail
  refine HF1.out.mono ?_; rintro e v4 ⟨rfl, hb4⟩
  have hb24 := b_trans HSt.out.2.2 hb4
  have HSt4 := Lib.hid (And.intro (HSt.out.1.below hb4) (And.intro (own_below HSt.out.2.1 hb4) hb24))
  clear hb4 hb24
  go_wp2_with fail
  refine (small_any _).mono ?_; rintro e v5 ⟨es2, FA2, fc2, ps2, PA2, pc2, rfl, hv2, hpv2, hfr2, hpr2, hb5, hcap2, hpcap2⟩
  obtain ⟨W6, hW6⟩ : ∃ V, v5.alloc (.cells #[.string ⟨#[98]⟩, .int .i64 0, .int .i64 0, .string ⟨#[]⟩, .int .i64 1, .int .i64 0, .string ⟨#[]⟩] 37) = V := ⟨_, rfl⟩
  obtain ⟨B6, hB6⟩ : ∃ B, v5.heap.size = B := ⟨_, rfl⟩
  have hb6 := b_new v5 (.cells #[.string ⟨#[98]⟩, .int .i64 0, .int .i64 0, .string ⟨#[]⟩, .int .i64 1, .int .i64 0, .string ⟨#[]⟩] 37)
  have hblk6 := World.alloc_heap_new v5 (.cells #[.string ⟨#[98]⟩, .int .i64 0, .int .i64 0, .string ⟨#[]⟩, .int .i64 1, .int .i64 0, .string ⟨#[]⟩] 37)
  rw [hW6] at hb6 hblk6
  rw [hB6] at hblk6
  have hf2 := facts_any (es2.map FE.fd) FA2 fc2 PA2 ps2.length pc2 [⟨⟨#[98]⟩, 0, 0, ⟨#[]⟩, ⟨1, 0, ⟨#[]⟩⟩⟩] (some ⟨B6, 0, none⟩) 1 W6 (by rw [List.length_map, small_len hv2]; unfold maxLen; decide) (by rw [List.length_map]; exact hcap2) ((frow_flds hfr2).below hb6) (fun k hk => FcF.small_nm hv2 k hk) (fun i hi => by
    obtain rfl : i = 0 := by simpa using hi
    refine ⟨_, rfl, ?_⟩
    have e : (⟨B6, 0, none⟩ : Addr).add (0 * 7) = ⟨B6, 0, none⟩ := rfl
    rw [e]
    exact ⟨by simp [World.cell?, hblk6], by simp [World.cell?, hblk6], by simp [World.cell?, hblk6], by simp [World.cell?, hblk6], by simp [World.cell?, hblk6], by simp [World.cell?, hblk6], by simp [World.cell?, hblk6]⟩) (fun f hf => by simp at hf; subst hf; show (1 : Nat) ≤ maxLen; unfold maxLen; decide) (by unfold maxLen; decide)
  rw [small_b hv2, List.length_map] at hf2
  have HF2 := Lib.hid hf2
  have HW6 := Lib.hid hW6
  have HB6 := Lib.hid hB6
  have HB5 := Lib.hid (b_trans hb5 hb6)
  clear hf2 hW6 hB6 hb5 hb6 hblk6 hv2 hpv2 hfr2 hpr2 hcap2 hpcap2
  by_cases hz : L.length = 0
  · have tz : ((L.length : Int) == 0) = true := by rw [hz]; rfl
    clear hz hlen
    go_wp2_with (go_at_call 5; rw [HW6.out, HB6.out]; refine HF2.out.mono ?_; rintro e v7 ⟨rfl, hb7⟩)
    go_ret
    exact ⟨rfl, b_trans HB02.out (b_trans HSt4.out.2.2 (b_trans HB5.out hb7))⟩
  · have tz : ((L.length : Int) == 0) = false := beq_eq_false_iff_ne.2 (by omega)
    obtain ⟨ii, hpk, hii⟩ : ∃ ii : Nat, pick a2 (L.length : Int) = (ii : Int) ∧ ii < L.length := by
      have := pick_bd a2 (L.length : Int) (by omega)
      exact ⟨(pick a2 (L.length : Int)).toNat, by omega, by omega⟩
    have hp : ∀ V, Calls Try.prog 10 #[.int .i64 a2, .int .i64 L.length] V fun e w' => e = .returned (.int .i64 (ii : Int)) ∧ V = w' := fun V => by rw [← hpk]; exact picked_any a2 L.length V w2 (by omega) (by omega)
    obtain ⟨ad, rfl, _⟩ := HSt4.out.1 ii hii
    have hl11 : L.length ≤ 10 := by omega
    have HP := Lib.hid hp
    have HIi := Lib.hid hii
    have hi0 : (0 : Int) ≤ (ii : Int) := by omega
    have hi1 : (ii : Int) < (L.length : Int) := by omega
    clear hz hlen hp hpk
    go_upto_region 4 with (go_at_call 5; rw [HW6.out, HB6.out]; refine HF2.out.mono ?_; rintro e v7 ⟨rfl, hb7⟩)
    have hb47 : Below v4.heap.size v4 v7.drew := b_drew (b_trans HB5.out hb7)
    have hb27 := b_trans HSt4.out.2.2 hb47
    obtain ⟨ad', e', hat⟩ := HSt4.out.1.below hb47 ii HIi.out
    injection e' with e'
    subst e'
    have hown7 := own_below HSt4.out.2.1 hb47
    generalize hfi : L[ii]'HIi.out = f at hat
    obtain ⟨q0, q1, q2, q3, q4, q5, q6⟩ := hat
    obtain ⟨c0, c1⟩ := HCell.out v7.drew hb27
    have c0a : ∀ o, (v7.drew.alloc o).cell? ⟨B2, 0, none⟩ = some (.slice FA F.length fc) := fun o => (HCell.out _ (b_trans hb27 (b_new _ o))).1
    have c1a : ∀ o, (v7.drew.alloc o).cell? ⟨B2, 1, none⟩ = some (.slice PA ps.length pc) := fun o => (HCell.out _ (b_trans hb27 (b_new _ o))).2
    have hb27d : ∀ o, Below W2.heap.size W2 (v7.alloc o).drew := fun o => b_trans (b_trans HSt4.out.2.2 (b_trans HB5.out hb7)) (b_drew (b_new _ o))
    have c0b : ∀ o, (v7.alloc o).drew.cell? ⟨B2, 0, none⟩ = some (.slice FA F.length fc) := fun o => (HCell.out _ (hb27d o)).1
    have c1b : ∀ o, (v7.alloc o).drew.cell? ⟨B2, 1, none⟩ = some (.slice PA ps.length pc) := fun o => (HCell.out _ (hb27d o)).2
    have htw : ∀ (o : Obj) (gg cap : Nat) (w10 : World), w10.ownsRow W2.heap.size 37 7 (.slice (some ⟨gg, 0, none⟩) (L.length + 1) cap) (L.length + 1) (fcR L ++ fcC f) → (v7.drew.alloc o).grownBy w10 (Value.slice (some ad) L.length oc).ownBlock →
        Calls Try.prog 5 #[.agg #[.slice FA F.length fc, .slice PA ps.length pc], .slice (some ⟨gg, 0, none⟩) (L.length + 1) cap] w10 (fun r w' => r = .returned (.int .i64 6) ∧ Below w10.heap.size w10 w') ∧ Below w.heap.size w w10 ∧ w10.cell? ⟨B2, 0, none⟩ = some (.slice FA F.length fc) ∧ w10.cell? ⟨B2, 1, none⟩ = some (.slice PA ps.length pc) := fun o gg cap w10 ho hg => by
      have hb10 : Below W2.heap.size W2 w10 := (b_trans hb27 (b_new _ o)).grown hg (b_trans hb27 (b_new _ o)).size (fun q e => (hown7.lt q e).1)
      rw [← fcR_snoc] at ho
      obtain ⟨A9, c9, e9, hfc9⟩ := own_fcs (es := L ++ [f]) ho (by simp)
      injection e9 with e9 e10 e11
      subst e9 e11
      have hl9 : (L ++ [f]).length = L.length + 1 := by simp
      have := HFa.out w10 hb10 (L ++ [f]) (some ⟨gg, 0, none⟩) cap hfc9 (fun x hx => by
        rcases List.mem_append.1 hx with hx | hx
        · exact HMem.out x hx
        · simp at hx; subst hx; rw [← hfi]; exact HMem.out _ (List.getElem_mem HIi.out)) (by omega)
      rw [hl9, ← hfi, good_twice HGood.out ii HIi.out] at this
      exact ⟨this, b_trans HB02.out hb10, HCell.out w10 hb10⟩
    have hsz : ∀ o : Obj, W2.heap.size ≤ (v7.drew.alloc o).heap.size := fun o => (b_trans hb27 (b_new _ o)).size
    obtain ⟨nL, hnL⟩ : ∃ n, L.length = n := ⟨_, rfl⟩
    obtain ⟨LL, hLL⟩ : ∃ l, fcR L = l := ⟨_, rfl⟩
    rw [hnL, hLL] at hown7 htw
    rw [hnL] at HP hi1 tz hl11 ⊢
    have HOwn := Lib.hid hown7
    have HTw := Lib.hid htw
    have HSz := Lib.hid hsz
    clear hb47 hb27 hb27d hown7 hfi htw hsz hnL hLL hb7
    unfold fcC at HTw
    first | (go_region_law (first | (refine step_append_lies _ (by rfl) _ _ _ (by rfl) W2.heap.size 37 i0 _ 7 80 Try.underlying26 hi hz0 hz1 hz2 rfl (by omega) (.slice (some ad) nL oc) nL LL (by rfl) (HOwn.out.alloc _) ⟨v7.heap.size, 0, none⟩ 1 1 [.string f.nm, .int .i64 f.kk, .int .i64 f.kn, .string f.ks, .int .i64 f.v.k, .int .i64 f.v.n, .string f.v.s] (by rfl) (by rfl) (World.news_of_block (cs := #[.string f.nm, .int .i64 f.kk, .int .i64 f.kn, .string f.ks, .int .i64 f.v.k, .int .i64 f.v.n, .string f.v.s]) (t := 37) (fr := (0, 0)) (World.alloc_heap_new v7.drew _)) (by simp [Value.oneCell']) (by omega) (by unfold maxLen; omega) (by omega) (HSz.out _) (v7.heap.size + 1) (by simp) ?_; intro gg cap w10 hown10 hgrow10 hat10 hlt10; obtain ⟨hf6, hb10, c0, c1⟩ := HTw.out _ gg cap w10 hown10 hgrow10; have HF6 := Lib.hid hf6; have HB10 := Lib.hid hb10; clear hown10 hgrow10 hat10 hlt10 hf6 hb10) | (go_simp; go_at_call 10; (with_reducible refine (HP.out _).mono ?_); rintro e w9 ⟨rfl, rfl⟩) | (go_simp; go_at_call 5; (with_reducible refine HF6.out.mono ?_); rintro e w11 ⟨rfl, hb11⟩; have HB11 := Lib.hid hb11; clear hb11) | (fail))) | (fail)
    all_goals
      go_wp2_with fail
      go_ret
      exact ⟨rfl, b_trans HB10.out HB11.out⟩

/-! ### The row's step -/
set_option maxRecDepth 100000 in
theorem lifted (os : Os) (started : os.Started) (H : Type) (enc : TypeId × Value → H) :
    ReturnsInHanded {} Try.checked os 4 .any (Rows.formOnceSpec.pre6 enc Try.prog Try.f4 Rows.formOnceRow.domain false) (Rows.formOnceSpec.post enc Try.prog Try.f4 false true false false) := by
  refine returnsInHanded_of_change (C := Try.checked) own started (by kernel_rfl) Try.func4
    (ChangeSpec.witness6 (enc := enc) (C := Try.checked) false ⟨#[], #[.slice none 0 0, .slice none 0 0, .int .i64 0], []⟩ 8 (by kernel_rfl) (by kernel_rfl) (by kernel_rfl) (by kernel_rfl)) ?_
  intro W base args ds gs before hval0 hW hcnd _
  have hval : ∀ (j : Nat) t v, Try.f4.params[j]? = some t → args[j]? = some v → Value.okWide Try.prog W .any base t v := hval0
  have hW' := hW
  obtain ⟨p, q, hA0, hV, rfl, hfz, hnd⟩ := hW
  have hA : DataW.TrodAll enc Try.prog W 0 (fun _ => true) true Try.f4.params.toList args.toList ds p := hA0
  rw [Try.params4] at hA hval
  obtain ⟨v0, vs0, d0, ds0, p0, q0, hargs, rfl, rfl, h0, r0⟩ := trodAll_cons hA
  obtain ⟨v1, vs1, d1, ds1, p1, q1, rfl, rfl, rfl, h1, r1⟩ := trodAll_cons r0
  obtain ⟨v2, vs2, d2, ds2, p2, q2, rfl, rfl, rfl, h2, r2⟩ := trodAll_cons r1
  obtain ⟨rfl, rfl, rfl⟩ := trodAll_nil r2
  obtain rfl : args = #[v0, v1, v2] := by cases args; simp_all
  obtain ⟨rfl, rfl⟩ := trodVars_none hV
  have k0 := h0
  have lt0 : ∀ x ∈ p0, x.block < W.heap.size := by obtain ⟨m, hm⟩ := k0; exact DataW.trod_lt m _ _ _ hm
  obtain ⟨A0, n0, c0, rfl, hraw0⟩ := RawO.open_raws (hval 0 30 v0 rfl rfl) h0
  have k1 := h1
  have lt1 : ∀ x ∈ p1, x.block < W.heap.size := by obtain ⟨m, hm⟩ := k1; exact DataW.trod_lt m _ _ _ hm
  obtain ⟨A1, n1, c1, rfl, hraw1⟩ := RawO.open_raws (hval 1 30 v1 rfl rfl) h1
  have k2 := h2
  have lt2 : ∀ x ∈ p2, x.block < W.heap.size := by obtain ⟨m, hm⟩ := k2; exact DataW.trod_lt m _ _ _ hm
  obtain ⟨a2, rfl, rfl, rfl, w2⟩ := open_int Try.underlying3 (hval 2 3 v2 rfl rfl) h2
  clear hA0 hval0
  refine (walk A0 n0 c0 A1 n1 c1 a2 w2 W hraw0 hraw1).mono fun e W' ⟨he, bel⟩ => ?_
  subst he
  exact ⟨_, rfl, _, _, _, [], _, [], hW', trodAll_mk1 (shut_bool Try.underlying4 _), (trodAll_cons_mk (Below.trod laidOut (by kernel_rfl) (of_decide_eq_true (by kernel_rfl)) k0 bel lt0) (trodAll_cons_mk (Below.trod laidOut (by kernel_rfl) (of_decide_eq_true (by kernel_rfl)) k1 bel lt1) (trodAll_cons_mk (Below.trod laidOut (by kernel_rfl) (of_decide_eq_true (by kernel_rfl)) k2 bel lt2) trodAll_mk0))), rfl, bel.frame _, fun h => by cases h⟩

theorem over : Rows.formOnceRow.holds Try.pinned (OpenSpec.ofChange Rows.formOnceSpec) :=
  OpenClaim.holds_of_wide 4 Try.f4 rfl rfl rfl rfl rfl rfl rfl ⟨rfl, rfl, rfl, rfl, rfl⟩ rfl rfl rfl rfl rfl (by kernel_rfl) Try.func4 (by kernel_rfl)
    (of_decide_eq_true (by kernel_rfl)) (by unfold Func.isWrapper; first | (rw [if_pos (by decide +kernel)]; kernel_rfl) | (rw [if_neg (by decide +kernel)]; exact ⟨rfl, rfl⟩))
    (fun os started H enc _ => lifted os started H enc)

theorem proved : Rows.FormOnceSaid := over
#print axioms proved
end Go.Proofs.Ytdlfhldboagbeaa.formOnce
