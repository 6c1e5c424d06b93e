/- What is proved: the Go law lychwaykeep.RankHangs returns true for all its arguments, and leaves them as they were. No condition. -/
import Derived.Test.YtdndphagfohpnaaGreatDoorRows
import Derived.Test.YtdndphagfohpnaaGreatDoorRkHangs
import Derived.Test.YtdndphagfohpnaaGreatDoorRawOpen
import Derived.Test.YtdndphagfohpnaaGreatDoorKit
import Derived.WalkKit
import Derived.ProofKit
import Derived.OpenShut
import Derived.Deep.RegionHeld3
import Derived.Deep.DrawnRows
import Derived.Deep.DeepCutAuto
import Derived.Deep.QuietTactic
import Derived.BigQuiet
import Derived.WalkSpells
import Derived.WalkLawsBesides
import Derived.Lib.Hide
import Derived.Outline
import Derived.ShutString
import Derived.ChangeOld
import Derived.Below
import Derived.LaidMore
import Derived.SizedLaws
import Derived.Stop.Joined
import Derived.Stop.LaidErr
import Derived.Lib.LaidTab
import Derived.SevenTiedAt
import Derived.Lay
import Derived.LaidOnce
import Derived.Deep.DeepHandedRow
import Derived.Test.YtdndphagfohpnaaGreatDoorCards
import Derived.Test.YtdndphagfohpnaaGreatDoorTie
namespace Go.Proofs.YtdndphagfohpnaaGreatDoor.rankHangs
open ValM LexM NumM ExM NmM Kit ExL ExP ExN RawV Within RawL RawN GenL Gen GenE GenT GenV FrmM Frm FldP FldR FldC FrmT FrmO NmA NmI NmT NmV NmH RkM RkA RkB RkC RkD RkK RkT RkP RkF RkH RkR RkG RegI
open Go.ChangeShapes Go.WideShapes Go.ChangeAt Go.RowKit
open Go.ChangeMaps (open_string shut_string)
set_option linter.unusedVariables false

theorem own : ownKnob Tryz.prog.godebug = none := by kernel_rfl
theorem laidOut : laidOutB Tryz.prog = true := by kernel_rfl


/-! ### The walk -/
set_option maxRecDepth 100000 in
set_option maxHeartbeats 16000000 in
theorem walk (A0 : Option Addr) (n0 : Nat) (c0 : Nat) (a1 : Int) (a2 : Int) (w1 : (Lit.int .i64 a1).wf = true) (w2 : (Lit.int .i64 a2).wf = true) (w : World) (hraw0 : RawL.Raws w A0 n0 c0) (ht : ExN.Tab w) :
    Calls Tryz.prog 6 #[.slice A0 n0 c0, .int .i64 a1, .int .i64 a2] w fun e w' => e = .returned (.bool true) ∧ Below w.heap.size w w' := by
  obtain ⟨rs, rfl, hrv⟩ := RawN.Raws.val n0 hraw0
  have hF := form_any c0 A0 rs w hrv
  have HF := Lib.hid hF
  have HT := Lib.hid ht
  clear hF hrv hraw0 ht
  have hf0 := @fld0
  go_enter Tryz.func6, Tryz.ntmps6
  go_wp2_with fail
  refine HF.out.mono ?_; rintro e wf ⟨es, FA, fc, ps, PA, pc, rfl, hv, hpv, hfr, hpr, hb, hcap, -⟩
  have hR := form_rank hv hfr hcap (HT.out.below hb)
  have hbd := countV_bd rs
  have hfl : (es.map FE.fd).length = es.length := List.length_map _
  have hn10 : es.length ≤ 10 := by have := hR.len; omega
  have hn1 : 1 ≤ es.length := by have := hR.len; omega
  obtain ⟨a, ha, hal⟩ : ∃ a : Nat, pick a1 (es.length : Int) = (a : Int) ∧ a < es.length := by
    have := pick_bd a1 (es.length : Int) (by omega)
    exact ⟨(pick a1 (es.length : Int)).toNat, by omega, by omega⟩
  obtain ⟨b, hbe, hbl⟩ : ∃ b : Nat, pick a2 (es.length : Int) = (b : Int) ∧ b < es.length := by
    have := pick_bd a2 (es.length : Int) (by omega)
    exact ⟨(pick a2 (es.length : Int)).toNat, by omega, by omega⟩
  have hp1 : ∀ V, Calls Tryz.prog 19 #[.int .i64 a1, .int .i64 es.length] V fun e w' => e = .returned (.int .i64 (a : Int)) ∧ V = w' := fun V => by rw [← ha]; exact picked_any a1 es.length V w1 (by omega) (by omega)
  have hp2 : ∀ V, Calls Tryz.prog 19 #[.int .i64 a2, .int .i64 es.length] V fun e w' => e = .returned (.int .i64 (b : Int)) ∧ V = w' := fun V => by rw [← hbe]; exact picked_any a2 es.length V w2 (by omega) (by omega)
  have hat : ∀ (i : Nat) (hi : i < es.length) (V : World), Below wf.heap.size wf V → (∃ ad, FA = some ad ∧ FdAt V (ad.add (i * 9)) es[i].fd) ∧ Is V es[i].x es[i].fd.d es[i].fd.A es[i].fd.n := fun i hi V hV => by
    refine ⟨?_, ?_⟩
    · obtain ⟨ad, e, h⟩ := hR.flds.below hV i (by simpa using hi)
      exact ⟨ad, e, by rw [List.getElem_map] at h; exact h⟩
    · have := (hR.forms.below hV i (by simpa using hi)).2
      rw [List.getElem_map, xOf_at es i hi] at this
      exact this
  have hh1 := form_hangs hv hfr hcap (HT.out.below hb) a hal
  have hh2 := form_hangs hv hfr hcap (HT.out.below hb) b hbl
  have hnd := fun j hj => form_needs hR j hj
  have hge := fun i hi => (hR.ge i hi).1
  have hask := fun i j (hi : i < es.length) (hj : j < es.length) => ask_needs hR.base (i := i) (j := j) (by omega) (by omega)
  have haskv : askB (es.map FE.fd) (xOf es) b a = (!decide (es[b].fd.kind = 1) && hasB (Ex.refs es[b].x) es[a].fd.nm) := by
    unfold askB
    rw [List.getElem?_eq_getElem (by rw [hfl]; exact hbl), List.getElem?_eq_getElem (by rw [hfl]; exact hal), List.getElem_map, List.getElem_map, xOf_at es b hbl]; rfl
  have hab := hask b a hbl hal
  rw [haskv] at hab
  generalize needsF (es.map FE.fd) (xOf es) = ns at hh1 hh2 hnd hge hab
  obtain ⟨⟨ad, rfl, hat1⟩, _⟩ := hat a hal wf (Below.refl _ _)
  have HAt := Lib.hid hat
  have HH1 := Lib.hid hh1
  have HH2 := Lib.hid hh2
  have HNd := Lib.hid hnd
  have HGe := Lib.hid hge
  have HAb := Lib.hid hab
  have HP1 := Lib.hid hp1
  have HP2 := Lib.hid hp2
  have HB := Lib.hid hb
  have n1a := hat1.1
  have n1b : wf.cell? (ad.add (b * 9)) = some (.string es[b].nm) := by
    obtain ⟨⟨ad2, e2, h2⟩, _⟩ := hat b hbl wf (Below.refl _ _)
    obtain rfl : ad = ad2 := by injection e2
    exact h2.1
  have hai : (a : Int) < (es.length : Int) := by omega
  have hbi : (b : Int) < (es.length : Int) := by omega
  have hnma : es[a].fd.nm = es[a].nm := rfl
  rw [hnma] at n1a
  clear hat hat1 hh1 hh2 hnd hge hask haskv hab hp1 hp2 hb hfl hv hpv hfr hpr hR hbd hcap ha hbe hnma
  go_wp2_with (first
    | (go_at_call 19; (with_reducible refine (HP1.out _).mono ?_); rintro e w5 ⟨rfl, rfl⟩)
    | (go_at_call 19; (with_reducible refine (HP2.out _).mono ?_); rintro e w5 ⟨rfl, rfl⟩))
  refine (HH1.out _ (Below.refl _ _)).mono ?_; rintro e wx1 ⟨vx, o1, rfl, ho1, hx, hb2⟩
  have HX := Lib.hid (And.intro ho1 hx)
  have HB2 := Lib.hid hb2
  have n2b := (hb2.cell (p := ad.add (b * 9)) (World.block_lt_of_cell? wf _ n1b)).trans n1b
  clear ho1 hx hb2
  go_wp2_with fail
  refine (HH2.out _ HB2.out).mono ?_; rintro e wy1 ⟨vy, o2, rfl, ho2, hy, hb3⟩
  have HY := Lib.hid (And.intro ho2 hy)
  have HB3 := Lib.hid (b_trans HB2.out hb3)
  have hrk := ranked_any wy1 ((HT.out.below HB.out).below HB3.out)
  have HRk := Lib.hid hrk
  have hx3 := GenL.own_below HX.out.2 hb3
  have e1 := hang_eq (p := a) HX.out.1 HNd.out
  have e2 := hang_eq (p := b) ho2 HNd.out
  have haa : hangK ns a o1 es.length a = true := by rw [e1 a hal]; simp
  have htr : hangK ns a o1 es.length b = true → ∀ j, j < es.length → hangK ns b o2 es.length j = true → hangK ns a o1 es.length j = true := fun h j hj h2 => hang_trans e1 e2 HNd.out HGe.out h _ j hj (Nat.le_refl _) h2
  have hhas : (!decide (es[b].fd.kind = 1) && hasB (Ex.refs es[b].x) es[a].fd.nm) = true → hangK ns a o1 es.length b = true := fun h => by
    rw [e1 b hbl, Bool.or_eq_true]
    exact .inr (List.any_eq_true.2 ⟨a, HAb.out.1 h, haa⟩)
  have ca : ∀ V, Below wy1.heap.size wy1 V → ∀ j : Nat, Calls Tryz.prog 20 #[vx, .int .i64 (j : Int)] V fun e w' => e = .returned (.bool (decide (j ∈ hangL ns a o1 es.length))) ∧ V = w' := fun V hV j => containsI_any _ j vx _ V (by have := hangL_len ns a o1 es.length; omega) (GenL.own_below hx3 hV)
  have HCa := Lib.hid ca
  have HHas := Lib.hid hhas
  have HTr := Lib.hid htr
  have haa2 : decide (a ∈ hangL ns a o1 es.length) = true := decide_eq_true ((mem_hangL _ _ _ _ _).2 ⟨hal, haa⟩)
  have HAa := Lib.hid haa2
  clear hrk hx3 e1 e2 haa htr hhas ca haa2 ho2 hy hb3
  obtain ⟨fb, hf⟩ : ∃ fb, es[b].fd = fb := ⟨_, rfl⟩
  obtain ⟨y, hy⟩ : ∃ y, es[a].fd = y := ⟨_, rfl⟩
  have hIxB : ∀ V : World, (Instr.indexAt 22 (.slice (some ad) es.length fc) (.int .i64 (b : Nat))).run Tryz.prog V = .ok (.pointer (some (ad.add (b * 9)))) V := fun V => by simp [go_sem, Tryz.underlying22, hbl]
  have hIxA : ∀ V : World, (Instr.indexAt 22 (.slice (some ad) es.length fc) (.int .i64 (a : Nat))).run Tryz.prog V = .ok (.pointer (some (ad.add (a * 9)))) V := fun V => by simp [go_sem, Tryz.underlying22, hal]
  have hF1 : ∀ V : World, (Instr.fieldAt 48 (.pointer (some (ad.add (b * 9)))) 1).run Tryz.prog V = .ok (.pointer (some ⟨(ad.add (b * 9)).block, (ad.add (b * 9)).off + 1, none⟩)) V := fun V => by simp [go_sem]
  have hF3 : ∀ V : World, (Instr.fieldAt 48 (.pointer (some (ad.add (b * 9)))) 3).run Tryz.prog V = .ok (.pointer (some ⟨(ad.add (b * 9)).block, (ad.add (b * 9)).off + 3, none⟩)) V := fun V => by simp [go_sem]
  have hF0 : ∀ V : World, (Instr.fieldAt 48 (.pointer (some (ad.add (a * 9)))) 0).run Tryz.prog V = .ok (.pointer (some (ad.add (a * 9)))) V := fun V => by simp [go_sem]
  have hfacts : ∀ V : World, Below wy1.heap.size wy1 V → FdAt V (ad.add (b * 9)) fb ∧ FdAt V (ad.add (a * 9)) y ∧ Is V es[b].x fb.d fb.A fb.n := fun V hV => by
    obtain ⟨⟨ad2, e2, h2⟩, h3⟩ := HAt.out b hbl V (b_trans HB3.out hV)
    obtain rfl : ad = ad2 := by injection e2
    obtain ⟨⟨ad3, e3, h4⟩, _⟩ := HAt.out a hal V (b_trans HB3.out hV)
    obtain rfl : ad = ad3 := by injection e3
    rw [hf] at h2 h3
    rw [hy] at h4
    exact ⟨h2, h4, h3⟩
  rw [hf, hy] at HHas
  have HFa := Lib.hid hfacts
  have hen1 : ∀ (args : Array Value) (w : World), (callFunc 21 args).run Tryz.prog w = .ok (.enter 21 args) w := fun _ _ => by kernel_rfl
  have hen2 : ∀ (args : Array Value) (w : World), (callFunc 20 args).run Tryz.prog w = .ok (.enter 20 args) w := fun _ _ => by kernel_rfl
  have hKind' : ∀ V : World, Below wy1.heap.size wy1 V → (Instr.loadAt 3 (.pointer (some ⟨(ad.add (b * 9)).block, (ad.add (b * 9)).off + 1, none⟩))).run Tryz.prog V = .ok (.int .i64 fb.kind) V := fun V hV => by
    have q := (HFa.out V hV).1.2.1
    simp [go_sem, q]
  have hNm' : ∀ V : World, Below wy1.heap.size wy1 V → (Instr.loadAt 9 (.pointer (some (ad.add (a * 9))))).run Tryz.prog V = .ok (.string y.nm) V := fun V hV => by
    have q := (HFa.out V hV).2.1.1
    simp [go_sem, q]
  have hSrc' : ∀ V : World, Below wy1.heap.size wy1 V → (Instr.loadAt 46 (.pointer (some ⟨(ad.add (b * 9)).block, (ad.add (b * 9)).off + 3, none⟩))).run Tryz.prog V = .ok (.agg #[.int .i64 fb.d.op, .int .i64 fb.d.k, .int .i64 fb.d.n, .string fb.d.s, .string fb.d.nm, .slice fb.A fb.n fb.c]) V := fun V hV => by
    obtain ⟨_, _, _, q3, q4, q5, q6, q7, q8⟩ := (HFa.out V hV).1
    simp [go_sem, q3, q4, q5, q6, q7, q8]
  have hNot : ∀ (c : Bool) (V : World), (Op.unary .not (.bool c)).run Tryz.prog V = .ok (.bool (!c)) V := fun c V => by cases c <;> kernel_rfl
  have hHas' : ∀ V : World, Below wy1.heap.size wy1 V → Calls Tryz.prog 21 #[.agg #[.int .i64 fb.d.op, .int .i64 fb.d.k, .int .i64 fb.d.n, .string fb.d.s, .string fb.d.nm, .slice fb.A fb.n fb.c], .string y.nm] V fun e w' => e = .returned (.bool (hasB (Ex.refs es[b].x) y.nm)) ∧ Below V.heap.size V w' := fun V hV => has_any es[b].x y.nm fb.d fb.A fb.n fb.c V (HFa.out V hV).2.2
  generalize hasB (Ex.refs es[b].x) y.nm = hbv at hHas' HHas
  obtain ⟨cb, hcb⟩ : ∃ cb, decide (b ∈ hangL ns a o1 es.length) = cb := ⟨_, rfl⟩
  have hcbh : hangK ns a o1 es.length b = cb := by
    rw [← hcb, Bool.eq_iff_iff, decide_eq_true_eq, mem_hangL]
    exact ⟨fun h => ⟨hbl, h⟩, fun h => h.2⟩
  have HCb := Lib.hid hcb
  have HKind := Lib.hid hKind'
  have HNm := Lib.hid hNm'
  have HSrc := Lib.hid hSrc'
  have HHs := Lib.hid hHas'
  have hX := HHas.out
  rw [hcbh] at hX
  have HTr2 := HTr.out
  rw [hcbh] at HTr2
  have HTr2 := Lib.hid HTr2
  clear hcb hcbh hKind' hNm' hSrc' hHas' hfacts hf hy HHas
  cases cb with
  | false =>
    have hX2 : ¬ ((!decide (fb.kind = 1) && hbv) = true) := fun h => by have := hX h; cases this
    have HX2 := Lib.hid hX2
    clear hX hX2
    go_wp2_with (first
      | (go_at_call 16; refine HRk.out.mono ?_; rintro e W4 ⟨rfl, hb4⟩; have HB34 := Lib.hid hb4; clear hb4)
      | (go_at_call 20; refine (HCa.out _ HB34.out a).mono ?_; rw [HAa.out]; rintro e w5 ⟨rfl, rfl⟩)
      | (go_at_call 20; refine (HCa.out _ HB34.out b).mono ?_; rw [HCb.out]; rintro e w5 ⟨rfl, rfl⟩))
    have hKind := fun V (hV : Below W4.heap.size W4 V) => HKind.out V (b_trans HB34.out hV)
    have hNm := fun V (hV : Below W4.heap.size W4 V) => HNm.out V (b_trans HB34.out hV)
    have hSrc := fun V (hV : Below W4.heap.size W4 V) => HSrc.out V (b_trans HB34.out hV)
    have HB4 := Lib.hid (b_trans HB.out (b_trans HB3.out HB34.out))
    by_cases hk1 : fb.kind = 1
    · have hEq : ∀ V : World, (do eqGuard .eql 3 (.tmp 81) (.const (.int .i64 1)) (.int .i64 fb.kind) (.int .i64 1); binOp .eql 3 (.int .i64 fb.kind) (.int .i64 1) : Sem Value).run Tryz.prog V = .ok (.bool true) V := fun V => by simp [go_sem, eqGuard, hk1]
      clear hk1
      refine region_fill [(0, 77), (1, 78), (2, 79), (3, 80), (4, 81), (5, 82), (6, 83), (7, 84), (8, 85), (9, 86), (10, 87), (11, 88), (12, 89), (13, 90), (14, 91), (15, 92), (16, 93), (17, 94), (18, 95), (19, 96), (20, 97), (21, 98), (22, 99), (23, 100), (24, 101), (25, 6)] (JL (fun i => match i with | 0 => .slice (some ad) es.length fc | 1 => .int .i64 (b : Nat) | 2 => .pointer (some (ad.add (b * 9))) | 3 => .pointer (some ⟨(ad.add (b * 9)).block, (ad.add (b * 9)).off + 1, none⟩) | 4 => .int .i64 fb.kind | 5 => .bool true | 6 => .bool true | 7 => undef | 8 => undef | 9 => undef | 10 => undef | 11 => undef | 12 => undef | 13 => undef | 14 => undef | 15 => undef | 16 => undef | 17 => undef | 18 => undef | 19 => .bool true | 20 => .bool true | 21 => undef | 22 => undef | 23 => undef | 24 => .bool true | 25 => .bool true | _ => undef) 26 (fun V => Below W4.heap.size W4 V) (fun V => Below W4.heap.size W4 V)) (fun f => by simp only [fill, Act.put, List.setIfInBounds_toArray, List.set_cons_zero, List.set_cons_succ]; rfl) (by kernel_rfl) (by kernel_rfl) (by kernel_rfl) (fun f => jl_start (b_drew (Below.refl _ _)) f) ?_ ?_
      · intro F hFr
        refine ⟨?_, ?_, ?_, ?_, ?_, ?_, ?_, ?_, ?_, ?_, ?_, ?_, ?_, ?_, ?_, ?_, ?_, ?_, ?_, ?_, ?_, ?_, ?_, ?_, ?_, ?_, trivial⟩
        · as_aux_lemma =>
          intro D f wx hJ hD hdep K9 hK
          exact stepF_val rfl (op_move rfl (v := .slice (some ad) es.length fc) (by rw [hFr]; kernel_rfl)) (by rw [hFr, hFr]; kernel_rfl) (hK (updf f 0 (.slice (some ad) es.length fc)) _ (jl_pure hJ (by decide) hD rfl))
        · as_aux_lemma =>
          intro D f wx hJ hD hdep K9 hK
          exact stepF_val rfl (op_move rfl (v := .int .i64 (b : Nat)) (by rw [hFr]; kernel_rfl)) (by rw [hFr, hFr]; kernel_rfl) (hK (updf f 1 (.int .i64 (b : Nat))) _ (jl_pure hJ (by decide) hD rfl))
        · as_aux_lemma =>
          intro D f wx hJ hD hdep K9 hK
          have e0 : f 0 = .slice (some ad) es.length fc := hJ.1 0 (by decide) (done hdep 0 (by kernel_rfl))
          have e1 : f 1 = .int .i64 (b : Nat) := hJ.1 1 (by decide) (done hdep 1 (by kernel_rfl))
          exact stepF_val rfl (op_index rfl (p := .slice (some ad) es.length fc) (q := .int .i64 (b : Nat)) ((show _ = f 0 from by rw [hFr]; kernel_rfl).trans e0) ((show _ = f 1 from by rw [hFr]; kernel_rfl).trans e1) (hIxB wx)) (by rw [hFr, hFr]; kernel_rfl) (hK (updf f 2 (.pointer (some (ad.add (b * 9))))) _ (jl_pure hJ (by decide) hD rfl))
        · as_aux_lemma =>
          intro D f wx hJ hD hdep K9 hK
          have e2 : f 2 = .pointer (some (ad.add (b * 9))) := hJ.1 2 (by decide) (done hdep 2 (by kernel_rfl))
          exact stepF_val rfl (op_field rfl (p := .pointer (some (ad.add (b * 9)))) ((show _ = f 2 from by rw [hFr]; kernel_rfl).trans e2) (hF1 wx)) (by rw [hFr, hFr]; kernel_rfl) (hK (updf f 3 (.pointer (some ⟨(ad.add (b * 9)).block, (ad.add (b * 9)).off + 1, none⟩))) _ (jl_pure hJ (by decide) hD rfl))
        · as_aux_lemma =>
          intro D f wx hJ hD hdep K9 hK
          have e3 : f 3 = .pointer (some ⟨(ad.add (b * 9)).block, (ad.add (b * 9)).off + 1, none⟩) := hJ.1 3 (by decide) (done hdep 3 (by kernel_rfl))
          obtain ⟨hDE, hA⟩ := jl_live hJ (by decide) hD
          exact stepF_val rfl (op_load rfl (p := .pointer (some ⟨(ad.add (b * 9)).block, (ad.add (b * 9)).off + 1, none⟩)) ((show _ = f 3 from by rw [hFr]; kernel_rfl).trans e3) (hKind wx hA)) (by rw [hFr, hFr]; kernel_rfl) (hK (updf f 4 (.int .i64 fb.kind)) _ (jl_pure hJ (by decide) hD rfl))
        · as_aux_lemma =>
          intro D f wx hJ hD hdep K9 hK
          have e4 : f 4 = .int .i64 fb.kind := hJ.1 4 (by decide) (done hdep 4 (by kernel_rfl))
          exact stepF_val rfl (op_bin rfl (p := .int .i64 fb.kind) (q := .int .i64 1) ((show _ = f 4 from by rw [hFr]; kernel_rfl).trans e4) (by rw [hFr]; kernel_rfl) (hEq wx)) (by rw [hFr, hFr]; kernel_rfl) (hK (updf f 5 (.bool true)) _ (jl_pure hJ (by decide) hD rfl))
        · as_aux_lemma =>
          intro D f wx hJ hD hdep K9 hK
          have e5 : f 5 = .bool true := hJ.1 5 (by decide) (done hdep 5 (by kernel_rfl))
          exact stepF_val rfl (op_move rfl (v := .bool true) ((show _ = f 5 from by rw [hFr]; kernel_rfl).trans e5)) (by rw [hFr, hFr]; kernel_rfl) (hK (updf f 6 (.bool true)) _ (jl_pure hJ (by decide) hD rfl))
        · as_aux_lemma =>
          intro D f wx hJ hD hdep K9 hK
          have e6 : f 6 = .bool true := hJ.1 6 (by decide) (done hdep 6 (by kernel_rfl))
          exact stepF_off (wanted_off rfl (yields_of (show _ = some (f 6) from by rw [hFr]; kernel_rfl) e6) (by decide)) (by rw [hFr, hFr]; kernel_rfl) (hK (updf f 7 (undef)) _ (jl_pure hJ (by decide) hD rfl))
        · as_aux_lemma =>
          intro D f wx hJ hD hdep K9 hK
          have e6 : f 6 = .bool true := hJ.1 6 (by decide) (done hdep 6 (by kernel_rfl))
          exact stepF_off (wanted_off rfl (yields_of (show _ = some (f 6) from by rw [hFr]; kernel_rfl) e6) (by decide)) (by rw [hFr, hFr]; kernel_rfl) (hK (updf f 8 (undef)) _ (jl_pure hJ (by decide) hD rfl))
        · as_aux_lemma =>
          intro D f wx hJ hD hdep K9 hK
          have e6 : f 6 = .bool true := hJ.1 6 (by decide) (done hdep 6 (by kernel_rfl))
          exact stepF_off (wanted_off rfl (yields_of (show _ = some (f 6) from by rw [hFr]; kernel_rfl) e6) (by decide)) (by rw [hFr, hFr]; kernel_rfl) (hK (updf f 9 (undef)) _ (jl_pure hJ (by decide) hD rfl))
        · as_aux_lemma =>
          intro D f wx hJ hD hdep K9 hK
          have e6 : f 6 = .bool true := hJ.1 6 (by decide) (done hdep 6 (by kernel_rfl))
          exact stepF_off (wanted_off rfl (yields_of (show _ = some (f 6) from by rw [hFr]; kernel_rfl) e6) (by decide)) (by rw [hFr, hFr]; kernel_rfl) (hK (updf f 10 (undef)) _ (jl_pure hJ (by decide) hD rfl))
        · as_aux_lemma =>
          intro D f wx hJ hD hdep K9 hK
          have e6 : f 6 = .bool true := hJ.1 6 (by decide) (done hdep 6 (by kernel_rfl))
          exact stepF_off (wanted_off rfl (yields_of (show _ = some (f 6) from by rw [hFr]; kernel_rfl) e6) (by decide)) (by rw [hFr, hFr]; kernel_rfl) (hK (updf f 11 (undef)) _ (jl_pure hJ (by decide) hD rfl))
        · as_aux_lemma =>
          intro D f wx hJ hD hdep K9 hK
          have e6 : f 6 = .bool true := hJ.1 6 (by decide) (done hdep 6 (by kernel_rfl))
          exact stepF_off (wanted_off rfl (yields_of (show _ = some (f 6) from by rw [hFr]; kernel_rfl) e6) (by decide)) (by rw [hFr, hFr]; kernel_rfl) (hK (updf f 12 (undef)) _ (jl_pure hJ (by decide) hD rfl))
        · as_aux_lemma =>
          intro D f wx hJ hD hdep K9 hK
          have e6 : f 6 = .bool true := hJ.1 6 (by decide) (done hdep 6 (by kernel_rfl))
          exact stepF_off (wanted_off rfl (yields_of (show _ = some (f 6) from by rw [hFr]; kernel_rfl) e6) (by decide)) (by rw [hFr, hFr]; kernel_rfl) (hK (updf f 13 (undef)) _ (jl_pure hJ (by decide) hD rfl))
        · as_aux_lemma =>
          intro D f wx hJ hD hdep K9 hK
          have e6 : f 6 = .bool true := hJ.1 6 (by decide) (done hdep 6 (by kernel_rfl))
          exact stepF_off (wanted_off rfl (yields_of (show _ = some (f 6) from by rw [hFr]; kernel_rfl) e6) (by decide)) (by rw [hFr, hFr]; kernel_rfl) (hK (updf f 14 (undef)) _ (jl_pure hJ (by decide) hD rfl))
        · as_aux_lemma =>
          intro D f wx hJ hD hdep K9 hK
          have e6 : f 6 = .bool true := hJ.1 6 (by decide) (done hdep 6 (by kernel_rfl))
          exact stepF_off (wanted_off rfl (yields_of (show _ = some (f 6) from by rw [hFr]; kernel_rfl) e6) (by decide)) (by rw [hFr, hFr]; kernel_rfl) (hK (updf f 15 (undef)) _ (jl_pure hJ (by decide) hD rfl))
        · as_aux_lemma =>
          intro D f wx hJ hD hdep K9 hK
          have e6 : f 6 = .bool true := hJ.1 6 (by decide) (done hdep 6 (by kernel_rfl))
          exact stepF_off (wanted_off rfl (yields_of (show _ = some (f 6) from by rw [hFr]; kernel_rfl) e6) (by decide)) (by rw [hFr, hFr]; kernel_rfl) (hK (updf f 16 (undef)) _ (jl_pure hJ (by decide) hD rfl))
        · as_aux_lemma =>
          intro D f wx hJ hD hdep K9 hK
          have e6 : f 6 = .bool true := hJ.1 6 (by decide) (done hdep 6 (by kernel_rfl))
          exact stepF_off (wanted_off rfl (yields_of (show _ = some (f 6) from by rw [hFr]; kernel_rfl) e6) (by decide)) (by rw [hFr, hFr]; kernel_rfl) (hK (updf f 17 (undef)) _ (jl_pure hJ (by decide) hD rfl))
        · as_aux_lemma =>
          intro D f wx hJ hD hdep K9 hK
          have e6 : f 6 = .bool true := hJ.1 6 (by decide) (done hdep 6 (by kernel_rfl))
          exact stepF_off (wanted_off rfl (yields_of (show _ = some (f 6) from by rw [hFr]; kernel_rfl) e6) (by decide)) (by rw [hFr, hFr]; kernel_rfl) (hK (updf f 18 (undef)) _ (jl_pure hJ (by decide) hD rfl))
        · as_aux_lemma =>
          intro D f wx hJ hD hdep K9 hK
          have e6 : f 6 = .bool true := hJ.1 6 (by decide) (done hdep 6 (by kernel_rfl))
          exact stepF_val rfl (op_pick rfl (b := true) ((show _ = f 6 from by rw [hFr]; kernel_rfl).trans e6) (by first | rfl | (rw [hFr]; kernel_rfl) | rw [hFr])) (by rw [hFr, hFr]; kernel_rfl) (hK (updf f 19 (.bool true)) _ (jl_pure hJ (by decide) hD rfl))
        · as_aux_lemma =>
          intro D f wx hJ hD hdep K9 hK
          have e19 : f 19 = .bool true := hJ.1 19 (by decide) (done hdep 19 (by kernel_rfl))
          exact stepF_val rfl (op_move rfl (v := .bool true) ((show _ = f 19 from by rw [hFr]; kernel_rfl).trans e19)) (by rw [hFr, hFr]; kernel_rfl) (hK (updf f 20 (.bool true)) _ (jl_pure hJ (by decide) hD rfl))
        · as_aux_lemma =>
          intro D f wx hJ hD hdep K9 hK
          have e20 : f 20 = .bool true := hJ.1 20 (by decide) (done hdep 20 (by kernel_rfl))
          exact stepF_off (wanted_off rfl (yields_of (show _ = some (f 20) from by rw [hFr]; kernel_rfl) e20) (by decide)) (by rw [hFr, hFr]; kernel_rfl) (hK (updf f 21 (undef)) _ (jl_pure hJ (by decide) hD rfl))
        · as_aux_lemma =>
          intro D f wx hJ hD hdep K9 hK
          have e20 : f 20 = .bool true := hJ.1 20 (by decide) (done hdep 20 (by kernel_rfl))
          exact stepF_off (wanted_off rfl (yields_of (show _ = some (f 20) from by rw [hFr]; kernel_rfl) e20) (by decide)) (by rw [hFr, hFr]; kernel_rfl) (hK (updf f 22 (undef)) _ (jl_pure hJ (by decide) hD rfl))
        · as_aux_lemma =>
          intro D f wx hJ hD hdep K9 hK
          have e20 : f 20 = .bool true := hJ.1 20 (by decide) (done hdep 20 (by kernel_rfl))
          exact stepF_off (wanted_off rfl (yields_of (show _ = some (f 20) from by rw [hFr]; kernel_rfl) e20) (by decide)) (by rw [hFr, hFr]; kernel_rfl) (hK (updf f 23 (undef)) _ (jl_pure hJ (by decide) hD rfl))
        · as_aux_lemma =>
          intro D f wx hJ hD hdep K9 hK
          have e20 : f 20 = .bool true := hJ.1 20 (by decide) (done hdep 20 (by kernel_rfl))
          exact stepF_val rfl (op_pick rfl (b := true) ((show _ = f 20 from by rw [hFr]; kernel_rfl).trans e20) (by first | rfl | (rw [hFr]; kernel_rfl) | rw [hFr])) (by rw [hFr, hFr]; kernel_rfl) (hK (updf f 24 (.bool true)) _ (jl_pure hJ (by decide) hD rfl))
        · as_aux_lemma =>
          intro D f wx hJ hD hdep K9 hK
          have e24 : f 24 = .bool true := hJ.1 24 (by decide) (done hdep 24 (by kernel_rfl))
          exact stepF_val rfl (op_assign rfl (v := .bool true) ((show _ = f 24 from by rw [hFr]; kernel_rfl).trans e24)) (by rw [hFr, hFr]; kernel_rfl) (hK (updf f 25 (.bool true)) _ (jl_pure hJ (by decide) hD rfl))
      · intro D f wx hJ hall
        have e25 : f 25 = .bool true := hJ.1 25 (by decide) (hall 25 (by decide))
        have hbw : Below W4.heap.size W4 wx := by
          cases h26 : D 26 with
          | false => exact hJ.2.1 h26
          | true => exact (hJ.2.2 h26).2
        have HB5 := Lib.hid (b_trans HB4.out hbw)
        rw [e25]
        clear e25 hbw hJ hall
        go_wp2_with fail
        go_ret
        exact ⟨rfl, HB5.out⟩
    · have hEq : ∀ V : World, (do eqGuard .eql 3 (.tmp 81) (.const (.int .i64 1)) (.int .i64 fb.kind) (.int .i64 1); binOp .eql 3 (.int .i64 fb.kind) (.int .i64 1) : Sem Value).run Tryz.prog V = .ok (.bool false) V := fun V => by simp [go_sem, eqGuard, hk1]
      have hbf : hbv = false := by
        cases hbv with
        | false => rfl
        | true => exact absurd (by simp [hk1]) HX2.out
      subst hbf
      clear hk1
      have hHas := fun V hV => HHs.out V (b_trans HB34.out hV)
      have HHas := Lib.hid hHas
      have hNot := hNot false
      clear hHas
      refine region_fill [(0, 77), (1, 78), (2, 79), (3, 80), (4, 81), (5, 82), (6, 83), (7, 84), (8, 85), (9, 86), (10, 87), (11, 88), (12, 89), (13, 90), (14, 91), (15, 92), (16, 93), (17, 94), (18, 95), (19, 96), (20, 97), (21, 98), (22, 99), (23, 100), (24, 101), (25, 6)] (JL (fun i => match i with | 0 => .slice (some ad) es.length fc | 1 => .int .i64 (b : Nat) | 2 => .pointer (some (ad.add (b * 9))) | 3 => .pointer (some ⟨(ad.add (b * 9)).block, (ad.add (b * 9)).off + 1, none⟩) | 4 => .int .i64 fb.kind | 5 => .bool false | 6 => .bool false | 7 => .slice (some ad) es.length fc | 8 => .int .i64 (b : Nat) | 9 => .pointer (some (ad.add (b * 9))) | 10 => .pointer (some ⟨(ad.add (b * 9)).block, (ad.add (b * 9)).off + 3, none⟩) | 11 => .agg #[.int .i64 fb.d.op, .int .i64 fb.d.k, .int .i64 fb.d.n, .string fb.d.s, .string fb.d.nm, .slice fb.A fb.n fb.c] | 12 => .slice (some ad) es.length fc | 13 => .int .i64 (a : Nat) | 14 => .pointer (some (ad.add (a * 9))) | 15 => .pointer (some (ad.add (a * 9))) | 16 => .string y.nm | 17 => .bool false | 18 => .bool true | 19 => .bool true | 20 => .bool true | 21 => undef | 22 => undef | 23 => undef | 24 => .bool true | 25 => .bool true | _ => undef) 26 (fun V => Below W4.heap.size W4 V) (fun V => Below W4.heap.size W4 V)) (fun f => by simp only [fill, Act.put, List.setIfInBounds_toArray, List.set_cons_zero, List.set_cons_succ]; rfl) (by kernel_rfl) (by kernel_rfl) (by kernel_rfl) (fun f => jl_start (b_drew (Below.refl _ _)) f) ?_ ?_
      · intro F hFr
        refine ⟨?_, ?_, ?_, ?_, ?_, ?_, ?_, ?_, ?_, ?_, ?_, ?_, ?_, ?_, ?_, ?_, ?_, ?_, ?_, ?_, ?_, ?_, ?_, ?_, ?_, ?_, trivial⟩
        · as_aux_lemma =>
          intro D f wx hJ hD hdep K9 hK
          exact stepF_val rfl (op_move rfl (v := .slice (some ad) es.length fc) (by rw [hFr]; kernel_rfl)) (by rw [hFr, hFr]; kernel_rfl) (hK (updf f 0 (.slice (some ad) es.length fc)) _ (jl_pure hJ (by decide) hD rfl))
        · as_aux_lemma =>
          intro D f wx hJ hD hdep K9 hK
          exact stepF_val rfl (op_move rfl (v := .int .i64 (b : Nat)) (by rw [hFr]; kernel_rfl)) (by rw [hFr, hFr]; kernel_rfl) (hK (updf f 1 (.int .i64 (b : Nat))) _ (jl_pure hJ (by decide) hD rfl))
        · as_aux_lemma =>
          intro D f wx hJ hD hdep K9 hK
          have e0 : f 0 = .slice (some ad) es.length fc := hJ.1 0 (by decide) (done hdep 0 (by kernel_rfl))
          have e1 : f 1 = .int .i64 (b : Nat) := hJ.1 1 (by decide) (done hdep 1 (by kernel_rfl))
          exact stepF_val rfl (op_index rfl (p := .slice (some ad) es.length fc) (q := .int .i64 (b : Nat)) ((show _ = f 0 from by rw [hFr]; kernel_rfl).trans e0) ((show _ = f 1 from by rw [hFr]; kernel_rfl).trans e1) (hIxB wx)) (by rw [hFr, hFr]; kernel_rfl) (hK (updf f 2 (.pointer (some (ad.add (b * 9))))) _ (jl_pure hJ (by decide) hD rfl))
        · as_aux_lemma =>
          intro D f wx hJ hD hdep K9 hK
          have e2 : f 2 = .pointer (some (ad.add (b * 9))) := hJ.1 2 (by decide) (done hdep 2 (by kernel_rfl))
          exact stepF_val rfl (op_field rfl (p := .pointer (some (ad.add (b * 9)))) ((show _ = f 2 from by rw [hFr]; kernel_rfl).trans e2) (hF1 wx)) (by rw [hFr, hFr]; kernel_rfl) (hK (updf f 3 (.pointer (some ⟨(ad.add (b * 9)).block, (ad.add (b * 9)).off + 1, none⟩))) _ (jl_pure hJ (by decide) hD rfl))
        · as_aux_lemma =>
          intro D f wx hJ hD hdep K9 hK
          have e3 : f 3 = .pointer (some ⟨(ad.add (b * 9)).block, (ad.add (b * 9)).off + 1, none⟩) := hJ.1 3 (by decide) (done hdep 3 (by kernel_rfl))
          obtain ⟨hDE, hA⟩ := jl_live hJ (by decide) hD
          exact stepF_val rfl (op_load rfl (p := .pointer (some ⟨(ad.add (b * 9)).block, (ad.add (b * 9)).off + 1, none⟩)) ((show _ = f 3 from by rw [hFr]; kernel_rfl).trans e3) (hKind wx hA)) (by rw [hFr, hFr]; kernel_rfl) (hK (updf f 4 (.int .i64 fb.kind)) _ (jl_pure hJ (by decide) hD rfl))
        · as_aux_lemma =>
          intro D f wx hJ hD hdep K9 hK
          have e4 : f 4 = .int .i64 fb.kind := hJ.1 4 (by decide) (done hdep 4 (by kernel_rfl))
          exact stepF_val rfl (op_bin rfl (p := .int .i64 fb.kind) (q := .int .i64 1) ((show _ = f 4 from by rw [hFr]; kernel_rfl).trans e4) (by rw [hFr]; kernel_rfl) (hEq wx)) (by rw [hFr, hFr]; kernel_rfl) (hK (updf f 5 (.bool false)) _ (jl_pure hJ (by decide) hD rfl))
        · as_aux_lemma =>
          intro D f wx hJ hD hdep K9 hK
          have e5 : f 5 = .bool false := hJ.1 5 (by decide) (done hdep 5 (by kernel_rfl))
          exact stepF_val rfl (op_move rfl (v := .bool false) ((show _ = f 5 from by rw [hFr]; kernel_rfl).trans e5)) (by rw [hFr, hFr]; kernel_rfl) (hK (updf f 6 (.bool false)) _ (jl_pure hJ (by decide) hD rfl))
        · as_aux_lemma =>
          intro D f wx hJ hD hdep K9 hK
          have e6 : f 6 = .bool false := hJ.1 6 (by decide) (done hdep 6 (by kernel_rfl))
          exact stepF_valW (wanted_on rfl (yields_of (show _ = some (f 6) from by rw [hFr]; kernel_rfl) e6)) (op_move rfl (v := .slice (some ad) es.length fc) (by rw [hFr]; kernel_rfl)) (by rw [hFr, hFr]; kernel_rfl) (hK (updf f 7 (.slice (some ad) es.length fc)) _ (jl_pure hJ (by decide) hD rfl))
        · as_aux_lemma =>
          intro D f wx hJ hD hdep K9 hK
          have e6 : f 6 = .bool false := hJ.1 6 (by decide) (done hdep 6 (by kernel_rfl))
          exact stepF_valW (wanted_on rfl (yields_of (show _ = some (f 6) from by rw [hFr]; kernel_rfl) e6)) (op_move rfl (v := .int .i64 (b : Nat)) (by rw [hFr]; kernel_rfl)) (by rw [hFr, hFr]; kernel_rfl) (hK (updf f 8 (.int .i64 (b : Nat))) _ (jl_pure hJ (by decide) hD rfl))
        · as_aux_lemma =>
          intro D f wx hJ hD hdep K9 hK
          have e6 : f 6 = .bool false := hJ.1 6 (by decide) (done hdep 6 (by kernel_rfl))
          have e7 : f 7 = .slice (some ad) es.length fc := hJ.1 7 (by decide) (done hdep 7 (by kernel_rfl))
          have e8 : f 8 = .int .i64 (b : Nat) := hJ.1 8 (by decide) (done hdep 8 (by kernel_rfl))
          exact stepF_valW (wanted_on rfl (yields_of (show _ = some (f 6) from by rw [hFr]; kernel_rfl) e6)) (op_index rfl (p := .slice (some ad) es.length fc) (q := .int .i64 (b : Nat)) ((show _ = f 7 from by rw [hFr]; kernel_rfl).trans e7) ((show _ = f 8 from by rw [hFr]; kernel_rfl).trans e8) (hIxB wx)) (by rw [hFr, hFr]; kernel_rfl) (hK (updf f 9 (.pointer (some (ad.add (b * 9))))) _ (jl_pure hJ (by decide) hD rfl))
        · as_aux_lemma =>
          intro D f wx hJ hD hdep K9 hK
          have e6 : f 6 = .bool false := hJ.1 6 (by decide) (done hdep 6 (by kernel_rfl))
          have e9 : f 9 = .pointer (some (ad.add (b * 9))) := hJ.1 9 (by decide) (done hdep 9 (by kernel_rfl))
          exact stepF_valW (wanted_on rfl (yields_of (show _ = some (f 6) from by rw [hFr]; kernel_rfl) e6)) (op_field rfl (p := .pointer (some (ad.add (b * 9)))) ((show _ = f 9 from by rw [hFr]; kernel_rfl).trans e9) (hF3 wx)) (by rw [hFr, hFr]; kernel_rfl) (hK (updf f 10 (.pointer (some ⟨(ad.add (b * 9)).block, (ad.add (b * 9)).off + 3, none⟩))) _ (jl_pure hJ (by decide) hD rfl))
        · as_aux_lemma =>
          intro D f wx hJ hD hdep K9 hK
          have e6 : f 6 = .bool false := hJ.1 6 (by decide) (done hdep 6 (by kernel_rfl))
          have e10 : f 10 = .pointer (some ⟨(ad.add (b * 9)).block, (ad.add (b * 9)).off + 3, none⟩) := hJ.1 10 (by decide) (done hdep 10 (by kernel_rfl))
          obtain ⟨hDE, hA⟩ := jl_live hJ (by decide) hD
          exact stepF_valW (wanted_on rfl (yields_of (show _ = some (f 6) from by rw [hFr]; kernel_rfl) e6)) (op_load rfl (p := .pointer (some ⟨(ad.add (b * 9)).block, (ad.add (b * 9)).off + 3, none⟩)) ((show _ = f 10 from by rw [hFr]; kernel_rfl).trans e10) (hSrc wx hA)) (by rw [hFr, hFr]; kernel_rfl) (hK (updf f 11 (.agg #[.int .i64 fb.d.op, .int .i64 fb.d.k, .int .i64 fb.d.n, .string fb.d.s, .string fb.d.nm, .slice fb.A fb.n fb.c])) _ (jl_pure hJ (by decide) hD rfl))
        · as_aux_lemma =>
          intro D f wx hJ hD hdep K9 hK
          have e6 : f 6 = .bool false := hJ.1 6 (by decide) (done hdep 6 (by kernel_rfl))
          exact stepF_valW (wanted_on rfl (yields_of (show _ = some (f 6) from by rw [hFr]; kernel_rfl) e6)) (op_move rfl (v := .slice (some ad) es.length fc) (by rw [hFr]; kernel_rfl)) (by rw [hFr, hFr]; kernel_rfl) (hK (updf f 12 (.slice (some ad) es.length fc)) _ (jl_pure hJ (by decide) hD rfl))
        · as_aux_lemma =>
          intro D f wx hJ hD hdep K9 hK
          have e6 : f 6 = .bool false := hJ.1 6 (by decide) (done hdep 6 (by kernel_rfl))
          exact stepF_valW (wanted_on rfl (yields_of (show _ = some (f 6) from by rw [hFr]; kernel_rfl) e6)) (op_move rfl (v := .int .i64 (a : Nat)) (by rw [hFr]; kernel_rfl)) (by rw [hFr, hFr]; kernel_rfl) (hK (updf f 13 (.int .i64 (a : Nat))) _ (jl_pure hJ (by decide) hD rfl))
        · as_aux_lemma =>
          intro D f wx hJ hD hdep K9 hK
          have e6 : f 6 = .bool false := hJ.1 6 (by decide) (done hdep 6 (by kernel_rfl))
          have e12 : f 12 = .slice (some ad) es.length fc := hJ.1 12 (by decide) (done hdep 12 (by kernel_rfl))
          have e13 : f 13 = .int .i64 (a : Nat) := hJ.1 13 (by decide) (done hdep 13 (by kernel_rfl))
          exact stepF_valW (wanted_on rfl (yields_of (show _ = some (f 6) from by rw [hFr]; kernel_rfl) e6)) (op_index rfl (p := .slice (some ad) es.length fc) (q := .int .i64 (a : Nat)) ((show _ = f 12 from by rw [hFr]; kernel_rfl).trans e12) ((show _ = f 13 from by rw [hFr]; kernel_rfl).trans e13) (hIxA wx)) (by rw [hFr, hFr]; kernel_rfl) (hK (updf f 14 (.pointer (some (ad.add (a * 9))))) _ (jl_pure hJ (by decide) hD rfl))
        · as_aux_lemma =>
          intro D f wx hJ hD hdep K9 hK
          have e6 : f 6 = .bool false := hJ.1 6 (by decide) (done hdep 6 (by kernel_rfl))
          have e14 : f 14 = .pointer (some (ad.add (a * 9))) := hJ.1 14 (by decide) (done hdep 14 (by kernel_rfl))
          exact stepF_valW (wanted_on rfl (yields_of (show _ = some (f 6) from by rw [hFr]; kernel_rfl) e6)) (op_field rfl (p := .pointer (some (ad.add (a * 9)))) ((show _ = f 14 from by rw [hFr]; kernel_rfl).trans e14) (hF0 wx)) (by rw [hFr, hFr]; kernel_rfl) (hK (updf f 15 (.pointer (some (ad.add (a * 9))))) _ (jl_pure hJ (by decide) hD rfl))
        · as_aux_lemma =>
          intro D f wx hJ hD hdep K9 hK
          have e6 : f 6 = .bool false := hJ.1 6 (by decide) (done hdep 6 (by kernel_rfl))
          have e15 : f 15 = .pointer (some (ad.add (a * 9))) := hJ.1 15 (by decide) (done hdep 15 (by kernel_rfl))
          obtain ⟨hDE, hA⟩ := jl_live hJ (by decide) hD
          exact stepF_valW (wanted_on rfl (yields_of (show _ = some (f 6) from by rw [hFr]; kernel_rfl) e6)) (op_load rfl (p := .pointer (some (ad.add (a * 9)))) ((show _ = f 15 from by rw [hFr]; kernel_rfl).trans e15) (hNm wx hA)) (by rw [hFr, hFr]; kernel_rfl) (hK (updf f 16 (.string y.nm)) _ (jl_pure hJ (by decide) hD rfl))
        · as_aux_lemma =>
          intro D f wx hJ hD hdep K9 hK
          have e6 : f 6 = .bool false := hJ.1 6 (by decide) (done hdep 6 (by kernel_rfl))
          have e11 : f 11 = .agg #[.int .i64 fb.d.op, .int .i64 fb.d.k, .int .i64 fb.d.n, .string fb.d.s, .string fb.d.nm, .slice fb.A fb.n fb.c] := hJ.1 11 (by decide) (done hdep 11 (by kernel_rfl))
          have e16 : f 16 = .string y.nm := hJ.1 16 (by decide) (done hdep 16 (by kernel_rfl))
          obtain ⟨hDE, hA⟩ := jl_live hJ (by decide) hD
          refine stepF_callW (wanted_on rfl (yields_of (show _ = some (f 6) from by rw [hFr]; kernel_rfl) e6)) (op_enter rfl rfl (xs := #[.agg #[.int .i64 fb.d.op, .int .i64 fb.d.k, .int .i64 fb.d.n, .string fb.d.s, .string fb.d.nm, .slice fb.A fb.n fb.c], .string y.nm]) (by rw [← e11, ← e16, hFr]; kernel_rfl) hen1) (HHas.out wx hA) ?_
          rintro e w5 ⟨rfl, hb5⟩
          have hk := hK (updf f 17 (.bool false)) w5 (jl_step hJ (by decide) hD rfl (b_trans hA hb5))
          refine ⟨_, rfl, ?_⟩
          rw [hFr] at hk ⊢
          exact hk
        · as_aux_lemma =>
          intro D f wx hJ hD hdep K9 hK
          have e6 : f 6 = .bool false := hJ.1 6 (by decide) (done hdep 6 (by kernel_rfl))
          have e17 : f 17 = .bool false := hJ.1 17 (by decide) (done hdep 17 (by kernel_rfl))
          exact stepF_valW (wanted_on rfl (yields_of (show _ = some (f 6) from by rw [hFr]; kernel_rfl) e6)) (op_unop rfl (p := .bool false) ((show _ = f 17 from by rw [hFr]; kernel_rfl).trans e17) (hNot wx)) (by rw [hFr, hFr]; kernel_rfl) (hK (updf f 18 (.bool true)) _ (jl_pure hJ (by decide) hD rfl))
        · as_aux_lemma =>
          intro D f wx hJ hD hdep K9 hK
          have e6 : f 6 = .bool false := hJ.1 6 (by decide) (done hdep 6 (by kernel_rfl))
          have e18 : f 18 = .bool true := hJ.1 18 (by decide) (done hdep 18 (by kernel_rfl))
          exact stepF_val rfl (op_pick rfl (b := false) ((show _ = f 6 from by rw [hFr]; kernel_rfl).trans e6) ((show _ = f 18 from by rw [hFr]; kernel_rfl).trans e18)) (by rw [hFr, hFr]; kernel_rfl) (hK (updf f 19 (.bool true)) _ (jl_pure hJ (by decide) hD rfl))
        · as_aux_lemma =>
          intro D f wx hJ hD hdep K9 hK
          have e19 : f 19 = .bool true := hJ.1 19 (by decide) (done hdep 19 (by kernel_rfl))
          exact stepF_val rfl (op_move rfl (v := .bool true) ((show _ = f 19 from by rw [hFr]; kernel_rfl).trans e19)) (by rw [hFr, hFr]; kernel_rfl) (hK (updf f 20 (.bool true)) _ (jl_pure hJ (by decide) hD rfl))
        · as_aux_lemma =>
          intro D f wx hJ hD hdep K9 hK
          have e20 : f 20 = .bool true := hJ.1 20 (by decide) (done hdep 20 (by kernel_rfl))
          exact stepF_off (wanted_off rfl (yields_of (show _ = some (f 20) from by rw [hFr]; kernel_rfl) e20) (by decide)) (by rw [hFr, hFr]; kernel_rfl) (hK (updf f 21 (undef)) _ (jl_pure hJ (by decide) hD rfl))
        · as_aux_lemma =>
          intro D f wx hJ hD hdep K9 hK
          have e20 : f 20 = .bool true := hJ.1 20 (by decide) (done hdep 20 (by kernel_rfl))
          exact stepF_off (wanted_off rfl (yields_of (show _ = some (f 20) from by rw [hFr]; kernel_rfl) e20) (by decide)) (by rw [hFr, hFr]; kernel_rfl) (hK (updf f 22 (undef)) _ (jl_pure hJ (by decide) hD rfl))
        · as_aux_lemma =>
          intro D f wx hJ hD hdep K9 hK
          have e20 : f 20 = .bool true := hJ.1 20 (by decide) (done hdep 20 (by kernel_rfl))
          exact stepF_off (wanted_off rfl (yields_of (show _ = some (f 20) from by rw [hFr]; kernel_rfl) e20) (by decide)) (by rw [hFr, hFr]; kernel_rfl) (hK (updf f 23 (undef)) _ (jl_pure hJ (by decide) hD rfl))
        · as_aux_lemma =>
          intro D f wx hJ hD hdep K9 hK
          have e20 : f 20 = .bool true := hJ.1 20 (by decide) (done hdep 20 (by kernel_rfl))
          exact stepF_val rfl (op_pick rfl (b := true) ((show _ = f 20 from by rw [hFr]; kernel_rfl).trans e20) (by first | rfl | (rw [hFr]; kernel_rfl) | rw [hFr])) (by rw [hFr, hFr]; kernel_rfl) (hK (updf f 24 (.bool true)) _ (jl_pure hJ (by decide) hD rfl))
        · as_aux_lemma =>
          intro D f wx hJ hD hdep K9 hK
          have e24 : f 24 = .bool true := hJ.1 24 (by decide) (done hdep 24 (by kernel_rfl))
          exact stepF_val rfl (op_assign rfl (v := .bool true) ((show _ = f 24 from by rw [hFr]; kernel_rfl).trans e24)) (by rw [hFr, hFr]; kernel_rfl) (hK (updf f 25 (.bool true)) _ (jl_pure hJ (by decide) hD rfl))
      · intro D f wx hJ hall
        have e25 : f 25 = .bool true := hJ.1 25 (by decide) (hall 25 (by decide))
        have hbw : Below W4.heap.size W4 wx := by
          cases h26 : D 26 with
          | false => exact hJ.2.1 h26
          | true => exact (hJ.2.2 h26).2
        have HB5 := Lib.hid (b_trans HB4.out hbw)
        rw [e25]
        clear e25 hbw hJ hall
        go_wp2_with fail
        go_ret
        exact ⟨rfl, HB5.out⟩
  | true =>
    obtain ⟨Ay, cy, rfl, hry⟩ := NtP.of_own HY.out.2
    have hyl := hangL_len ns b o2 es.length
    have hmy := fun j => mem_hangL ns b o2 es.length j
    obtain ⟨L, hL⟩ : ∃ L, hangL ns b o2 es.length = L := ⟨_, rfl⟩
    rw [hL] at hry hyl hmy
    rw [hL]
    have HRy := Lib.hid hry
    have HMy := Lib.hid hmy
    clear hX hry hmy hL HY
    go_wp2_with (first
      | (go_at_call 16; refine HRk.out.mono ?_; rintro e W4 ⟨rfl, hb4⟩; have HB34 := Lib.hid hb4; clear hb4)
      | (go_at_call 20; refine (HCa.out _ HB34.out a).mono ?_; rw [HAa.out]; rintro e w5 ⟨rfl, rfl⟩)
      | (go_at_call 20; refine (HCa.out _ HB34.out b).mono ?_; rw [HCb.out]; rintro e w5 ⟨rfl, rfl⟩))
    go_loopw [15, 68] (fun _ ii wr => ∃ m : Nat, ii = .int .i64 m ∧ m ≤ L.length ∧ wr = W4) (fun _ ii _ => L.length - (intOf ii).toNat)
    case atStart => exact ⟨0, rfl, by omega, rfl⟩
    case round =>
      obtain ⟨m, rfl, hm, rfl⟩ := hrel
      by_cases hml : m < L.length
      · obtain ⟨gy, rfl, _, hcy⟩ := HRy.out m hml
        have hcy := (HB34.out.cell (p := ⟨gy, m, none⟩) (World.block_lt_of_cell? wy1 _ hcy)).trans hcy
        have hin : decide (L[m] ∈ hangL ns a o1 es.length) = true := by
          obtain ⟨h1, h2⟩ := (HMy.out _).1 (List.getElem_mem hml)
          exact decide_eq_true ((mem_hangL _ _ _ _ _).2 ⟨h1, HTr2.out (by trivial) _ h1 h2⟩)
        have hc := HCa.out wr HB34.out L[m]
        rw [hin] at hc
        generalize L[m] = j at hcy hc
        have HC := Lib.hid hc
        clear hc hin
        go_wp2_with (go_at_call 20; refine HC.out.mono ?_; rintro e w5 ⟨rfl, rfl⟩)
        go_roundw
        case rel => exact ⟨m + 1, by go_num, by omega, by first | trivial | rfl⟩
        case measure => simp [intOf]; omega
      · obtain ⟨W4, rfl⟩ : ∃ V, V = wr := ⟨_, rfl⟩
        have hvx : ∀ V : World, Below W4.heap.size W4 V → Calls Tryz.prog 20 #[vx, .int .i64 (b : Nat)] V fun e w' => e = .returned (.bool true) ∧ V = w' := fun V hV => by
          have := HCa.out V (b_trans HB34.out hV) b
          rwa [HCb.out] at this
        have HCon := Lib.hid hvx
        clear hvx
        go_wp2_with fail
        go_upto_region 14 with fail
        have hKind := fun V (hV : Below W4.heap.size W4 V) => HKind.out V (b_trans HB34.out hV)
        have hNm := fun V (hV : Below W4.heap.size W4 V) => HNm.out V (b_trans HB34.out hV)
        have hSrc := fun V (hV : Below W4.heap.size W4 V) => HSrc.out V (b_trans HB34.out hV)
        have HB4 := Lib.hid (b_trans HB.out (b_trans HB3.out HB34.out))
        by_cases hk1 : fb.kind = 1
        · have hEq : ∀ V : World, (do eqGuard .eql 3 (.tmp 81) (.const (.int .i64 1)) (.int .i64 fb.kind) (.int .i64 1); binOp .eql 3 (.int .i64 fb.kind) (.int .i64 1) : Sem Value).run Tryz.prog V = .ok (.bool true) V := fun V => by simp [go_sem, eqGuard, hk1]
          clear hk1
          refine region_fill [(0, 77), (1, 78), (2, 79), (3, 80), (4, 81), (5, 82), (6, 83), (7, 84), (8, 85), (9, 86), (10, 87), (11, 88), (12, 89), (13, 90), (14, 91), (15, 92), (16, 93), (17, 94), (18, 95), (19, 96), (20, 97), (21, 98), (22, 99), (23, 100), (24, 101), (25, 6)] (JL (fun i => match i with | 0 => .slice (some ad) es.length fc | 1 => .int .i64 (b : Nat) | 2 => .pointer (some (ad.add (b * 9))) | 3 => .pointer (some ⟨(ad.add (b * 9)).block, (ad.add (b * 9)).off + 1, none⟩) | 4 => .int .i64 fb.kind | 5 => .bool true | 6 => .bool true | 7 => undef | 8 => undef | 9 => undef | 10 => undef | 11 => undef | 12 => undef | 13 => undef | 14 => undef | 15 => undef | 16 => undef | 17 => undef | 18 => undef | 19 => .bool true | 20 => .bool true | 21 => undef | 22 => undef | 23 => undef | 24 => .bool true | 25 => .bool true | _ => undef) 26 (fun V => Below W4.heap.size W4 V) (fun V => Below W4.heap.size W4 V)) (fun f => by simp only [fill, Act.put, List.setIfInBounds_toArray, List.set_cons_zero, List.set_cons_succ]; rfl) (by kernel_rfl) (by kernel_rfl) (by kernel_rfl) (fun f => jl_start (b_drew (Below.refl _ _)) f) ?_ ?_
          · intro F hFr
            refine ⟨?_, ?_, ?_, ?_, ?_, ?_, ?_, ?_, ?_, ?_, ?_, ?_, ?_, ?_, ?_, ?_, ?_, ?_, ?_, ?_, ?_, ?_, ?_, ?_, ?_, ?_, trivial⟩
            · as_aux_lemma =>
              intro D f wx hJ hD hdep K9 hK
              exact stepF_val rfl (op_move rfl (v := .slice (some ad) es.length fc) (by rw [hFr]; kernel_rfl)) (by rw [hFr, hFr]; kernel_rfl) (hK (updf f 0 (.slice (some ad) es.length fc)) _ (jl_pure hJ (by decide) hD rfl))
            · as_aux_lemma =>
              intro D f wx hJ hD hdep K9 hK
              exact stepF_val rfl (op_move rfl (v := .int .i64 (b : Nat)) (by rw [hFr]; kernel_rfl)) (by rw [hFr, hFr]; kernel_rfl) (hK (updf f 1 (.int .i64 (b : Nat))) _ (jl_pure hJ (by decide) hD rfl))
            · as_aux_lemma =>
              intro D f wx hJ hD hdep K9 hK
              have e0 : f 0 = .slice (some ad) es.length fc := hJ.1 0 (by decide) (done hdep 0 (by kernel_rfl))
              have e1 : f 1 = .int .i64 (b : Nat) := hJ.1 1 (by decide) (done hdep 1 (by kernel_rfl))
              exact stepF_val rfl (op_index rfl (p := .slice (some ad) es.length fc) (q := .int .i64 (b : Nat)) ((show _ = f 0 from by rw [hFr]; kernel_rfl).trans e0) ((show _ = f 1 from by rw [hFr]; kernel_rfl).trans e1) (hIxB wx)) (by rw [hFr, hFr]; kernel_rfl) (hK (updf f 2 (.pointer (some (ad.add (b * 9))))) _ (jl_pure hJ (by decide) hD rfl))
            · as_aux_lemma =>
              intro D f wx hJ hD hdep K9 hK
              have e2 : f 2 = .pointer (some (ad.add (b * 9))) := hJ.1 2 (by decide) (done hdep 2 (by kernel_rfl))
              exact stepF_val rfl (op_field rfl (p := .pointer (some (ad.add (b * 9)))) ((show _ = f 2 from by rw [hFr]; kernel_rfl).trans e2) (hF1 wx)) (by rw [hFr, hFr]; kernel_rfl) (hK (updf f 3 (.pointer (some ⟨(ad.add (b * 9)).block, (ad.add (b * 9)).off + 1, none⟩))) _ (jl_pure hJ (by decide) hD rfl))
            · as_aux_lemma =>
              intro D f wx hJ hD hdep K9 hK
              have e3 : f 3 = .pointer (some ⟨(ad.add (b * 9)).block, (ad.add (b * 9)).off + 1, none⟩) := hJ.1 3 (by decide) (done hdep 3 (by kernel_rfl))
              obtain ⟨hDE, hA⟩ := jl_live hJ (by decide) hD
              exact stepF_val rfl (op_load rfl (p := .pointer (some ⟨(ad.add (b * 9)).block, (ad.add (b * 9)).off + 1, none⟩)) ((show _ = f 3 from by rw [hFr]; kernel_rfl).trans e3) (hKind wx hA)) (by rw [hFr, hFr]; kernel_rfl) (hK (updf f 4 (.int .i64 fb.kind)) _ (jl_pure hJ (by decide) hD rfl))
            · as_aux_lemma =>
              intro D f wx hJ hD hdep K9 hK
              have e4 : f 4 = .int .i64 fb.kind := hJ.1 4 (by decide) (done hdep 4 (by kernel_rfl))
              exact stepF_val rfl (op_bin rfl (p := .int .i64 fb.kind) (q := .int .i64 1) ((show _ = f 4 from by rw [hFr]; kernel_rfl).trans e4) (by rw [hFr]; kernel_rfl) (hEq wx)) (by rw [hFr, hFr]; kernel_rfl) (hK (updf f 5 (.bool true)) _ (jl_pure hJ (by decide) hD rfl))
            · as_aux_lemma =>
              intro D f wx hJ hD hdep K9 hK
              have e5 : f 5 = .bool true := hJ.1 5 (by decide) (done hdep 5 (by kernel_rfl))
              exact stepF_val rfl (op_move rfl (v := .bool true) ((show _ = f 5 from by rw [hFr]; kernel_rfl).trans e5)) (by rw [hFr, hFr]; kernel_rfl) (hK (updf f 6 (.bool true)) _ (jl_pure hJ (by decide) hD rfl))
            · as_aux_lemma =>
              intro D f wx hJ hD hdep K9 hK
              have e6 : f 6 = .bool true := hJ.1 6 (by decide) (done hdep 6 (by kernel_rfl))
              exact stepF_off (wanted_off rfl (yields_of (show _ = some (f 6) from by rw [hFr]; kernel_rfl) e6) (by decide)) (by rw [hFr, hFr]; kernel_rfl) (hK (updf f 7 (undef)) _ (jl_pure hJ (by decide) hD rfl))
            · as_aux_lemma =>
              intro D f wx hJ hD hdep K9 hK
              have e6 : f 6 = .bool true := hJ.1 6 (by decide) (done hdep 6 (by kernel_rfl))
              exact stepF_off (wanted_off rfl (yields_of (show _ = some (f 6) from by rw [hFr]; kernel_rfl) e6) (by decide)) (by rw [hFr, hFr]; kernel_rfl) (hK (updf f 8 (undef)) _ (jl_pure hJ (by decide) hD rfl))
            · as_aux_lemma =>
              intro D f wx hJ hD hdep K9 hK
              have e6 : f 6 = .bool true := hJ.1 6 (by decide) (done hdep 6 (by kernel_rfl))
              exact stepF_off (wanted_off rfl (yields_of (show _ = some (f 6) from by rw [hFr]; kernel_rfl) e6) (by decide)) (by rw [hFr, hFr]; kernel_rfl) (hK (updf f 9 (undef)) _ (jl_pure hJ (by decide) hD rfl))
            · as_aux_lemma =>
              intro D f wx hJ hD hdep K9 hK
              have e6 : f 6 = .bool true := hJ.1 6 (by decide) (done hdep 6 (by kernel_rfl))
              exact stepF_off (wanted_off rfl (yields_of (show _ = some (f 6) from by rw [hFr]; kernel_rfl) e6) (by decide)) (by rw [hFr, hFr]; kernel_rfl) (hK (updf f 10 (undef)) _ (jl_pure hJ (by decide) hD rfl))
            · as_aux_lemma =>
              intro D f wx hJ hD hdep K9 hK
              have e6 : f 6 = .bool true := hJ.1 6 (by decide) (done hdep 6 (by kernel_rfl))
              exact stepF_off (wanted_off rfl (yields_of (show _ = some (f 6) from by rw [hFr]; kernel_rfl) e6) (by decide)) (by rw [hFr, hFr]; kernel_rfl) (hK (updf f 11 (undef)) _ (jl_pure hJ (by decide) hD rfl))
            · as_aux_lemma =>
              intro D f wx hJ hD hdep K9 hK
              have e6 : f 6 = .bool true := hJ.1 6 (by decide) (done hdep 6 (by kernel_rfl))
              exact stepF_off (wanted_off rfl (yields_of (show _ = some (f 6) from by rw [hFr]; kernel_rfl) e6) (by decide)) (by rw [hFr, hFr]; kernel_rfl) (hK (updf f 12 (undef)) _ (jl_pure hJ (by decide) hD rfl))
            · as_aux_lemma =>
              intro D f wx hJ hD hdep K9 hK
              have e6 : f 6 = .bool true := hJ.1 6 (by decide) (done hdep 6 (by kernel_rfl))
              exact stepF_off (wanted_off rfl (yields_of (show _ = some (f 6) from by rw [hFr]; kernel_rfl) e6) (by decide)) (by rw [hFr, hFr]; kernel_rfl) (hK (updf f 13 (undef)) _ (jl_pure hJ (by decide) hD rfl))
            · as_aux_lemma =>
              intro D f wx hJ hD hdep K9 hK
              have e6 : f 6 = .bool true := hJ.1 6 (by decide) (done hdep 6 (by kernel_rfl))
              exact stepF_off (wanted_off rfl (yields_of (show _ = some (f 6) from by rw [hFr]; kernel_rfl) e6) (by decide)) (by rw [hFr, hFr]; kernel_rfl) (hK (updf f 14 (undef)) _ (jl_pure hJ (by decide) hD rfl))
            · as_aux_lemma =>
              intro D f wx hJ hD hdep K9 hK
              have e6 : f 6 = .bool true := hJ.1 6 (by decide) (done hdep 6 (by kernel_rfl))
              exact stepF_off (wanted_off rfl (yields_of (show _ = some (f 6) from by rw [hFr]; kernel_rfl) e6) (by decide)) (by rw [hFr, hFr]; kernel_rfl) (hK (updf f 15 (undef)) _ (jl_pure hJ (by decide) hD rfl))
            · as_aux_lemma =>
              intro D f wx hJ hD hdep K9 hK
              have e6 : f 6 = .bool true := hJ.1 6 (by decide) (done hdep 6 (by kernel_rfl))
              exact stepF_off (wanted_off rfl (yields_of (show _ = some (f 6) from by rw [hFr]; kernel_rfl) e6) (by decide)) (by rw [hFr, hFr]; kernel_rfl) (hK (updf f 16 (undef)) _ (jl_pure hJ (by decide) hD rfl))
            · as_aux_lemma =>
              intro D f wx hJ hD hdep K9 hK
              have e6 : f 6 = .bool true := hJ.1 6 (by decide) (done hdep 6 (by kernel_rfl))
              exact stepF_off (wanted_off rfl (yields_of (show _ = some (f 6) from by rw [hFr]; kernel_rfl) e6) (by decide)) (by rw [hFr, hFr]; kernel_rfl) (hK (updf f 17 (undef)) _ (jl_pure hJ (by decide) hD rfl))
            · as_aux_lemma =>
              intro D f wx hJ hD hdep K9 hK
              have e6 : f 6 = .bool true := hJ.1 6 (by decide) (done hdep 6 (by kernel_rfl))
              exact stepF_off (wanted_off rfl (yields_of (show _ = some (f 6) from by rw [hFr]; kernel_rfl) e6) (by decide)) (by rw [hFr, hFr]; kernel_rfl) (hK (updf f 18 (undef)) _ (jl_pure hJ (by decide) hD rfl))
            · as_aux_lemma =>
              intro D f wx hJ hD hdep K9 hK
              have e6 : f 6 = .bool true := hJ.1 6 (by decide) (done hdep 6 (by kernel_rfl))
              exact stepF_val rfl (op_pick rfl (b := true) ((show _ = f 6 from by rw [hFr]; kernel_rfl).trans e6) (by first | rfl | (rw [hFr]; kernel_rfl) | rw [hFr])) (by rw [hFr, hFr]; kernel_rfl) (hK (updf f 19 (.bool true)) _ (jl_pure hJ (by decide) hD rfl))
            · as_aux_lemma =>
              intro D f wx hJ hD hdep K9 hK
              have e19 : f 19 = .bool true := hJ.1 19 (by decide) (done hdep 19 (by kernel_rfl))
              exact stepF_val rfl (op_move rfl (v := .bool true) ((show _ = f 19 from by rw [hFr]; kernel_rfl).trans e19)) (by rw [hFr, hFr]; kernel_rfl) (hK (updf f 20 (.bool true)) _ (jl_pure hJ (by decide) hD rfl))
            · as_aux_lemma =>
              intro D f wx hJ hD hdep K9 hK
              have e20 : f 20 = .bool true := hJ.1 20 (by decide) (done hdep 20 (by kernel_rfl))
              exact stepF_off (wanted_off rfl (yields_of (show _ = some (f 20) from by rw [hFr]; kernel_rfl) e20) (by decide)) (by rw [hFr, hFr]; kernel_rfl) (hK (updf f 21 (undef)) _ (jl_pure hJ (by decide) hD rfl))
            · as_aux_lemma =>
              intro D f wx hJ hD hdep K9 hK
              have e20 : f 20 = .bool true := hJ.1 20 (by decide) (done hdep 20 (by kernel_rfl))
              exact stepF_off (wanted_off rfl (yields_of (show _ = some (f 20) from by rw [hFr]; kernel_rfl) e20) (by decide)) (by rw [hFr, hFr]; kernel_rfl) (hK (updf f 22 (undef)) _ (jl_pure hJ (by decide) hD rfl))
            · as_aux_lemma =>
              intro D f wx hJ hD hdep K9 hK
              have e20 : f 20 = .bool true := hJ.1 20 (by decide) (done hdep 20 (by kernel_rfl))
              exact stepF_off (wanted_off rfl (yields_of (show _ = some (f 20) from by rw [hFr]; kernel_rfl) e20) (by decide)) (by rw [hFr, hFr]; kernel_rfl) (hK (updf f 23 (undef)) _ (jl_pure hJ (by decide) hD rfl))
            · as_aux_lemma =>
              intro D f wx hJ hD hdep K9 hK
              have e20 : f 20 = .bool true := hJ.1 20 (by decide) (done hdep 20 (by kernel_rfl))
              exact stepF_val rfl (op_pick rfl (b := true) ((show _ = f 20 from by rw [hFr]; kernel_rfl).trans e20) (by first | rfl | (rw [hFr]; kernel_rfl) | rw [hFr])) (by rw [hFr, hFr]; kernel_rfl) (hK (updf f 24 (.bool true)) _ (jl_pure hJ (by decide) hD rfl))
            · as_aux_lemma =>
              intro D f wx hJ hD hdep K9 hK
              have e24 : f 24 = .bool true := hJ.1 24 (by decide) (done hdep 24 (by kernel_rfl))
              exact stepF_val rfl (op_assign rfl (v := .bool true) ((show _ = f 24 from by rw [hFr]; kernel_rfl).trans e24)) (by rw [hFr, hFr]; kernel_rfl) (hK (updf f 25 (.bool true)) _ (jl_pure hJ (by decide) hD rfl))
          · intro D f wx hJ hall
            have e25 : f 25 = .bool true := hJ.1 25 (by decide) (hall 25 (by decide))
            have hbw : Below W4.heap.size W4 wx := by
              cases h26 : D 26 with
              | false => exact hJ.2.1 h26
              | true => exact (hJ.2.2 h26).2
            have HB5 := Lib.hid (b_trans HB4.out hbw)
            rw [e25]
            clear e25 hbw hJ hall
            go_wp2_with fail
            go_ret
            exact ⟨rfl, HB5.out⟩
        · have hEq : ∀ V : World, (do eqGuard .eql 3 (.tmp 81) (.const (.int .i64 1)) (.int .i64 fb.kind) (.int .i64 1); binOp .eql 3 (.int .i64 fb.kind) (.int .i64 1) : Sem Value).run Tryz.prog V = .ok (.bool false) V := fun V => by simp [go_sem, eqGuard, hk1]
          clear hk1
          have hHas := fun V hV => HHs.out V (b_trans HB34.out hV)
          have HHas := Lib.hid hHas
          clear hHas
          cases hbv with
          | false =>
            have hNot := hNot false
            refine region_fill [(0, 77), (1, 78), (2, 79), (3, 80), (4, 81), (5, 82), (6, 83), (7, 84), (8, 85), (9, 86), (10, 87), (11, 88), (12, 89), (13, 90), (14, 91), (15, 92), (16, 93), (17, 94), (18, 95), (19, 96), (20, 97), (21, 98), (22, 99), (23, 100), (24, 101), (25, 6)] (JL (fun i => match i with | 0 => .slice (some ad) es.length fc | 1 => .int .i64 (b : Nat) | 2 => .pointer (some (ad.add (b * 9))) | 3 => .pointer (some ⟨(ad.add (b * 9)).block, (ad.add (b * 9)).off + 1, none⟩) | 4 => .int .i64 fb.kind | 5 => .bool false | 6 => .bool false | 7 => .slice (some ad) es.length fc | 8 => .int .i64 (b : Nat) | 9 => .pointer (some (ad.add (b * 9))) | 10 => .pointer (some ⟨(ad.add (b * 9)).block, (ad.add (b * 9)).off + 3, none⟩) | 11 => .agg #[.int .i64 fb.d.op, .int .i64 fb.d.k, .int .i64 fb.d.n, .string fb.d.s, .string fb.d.nm, .slice fb.A fb.n fb.c] | 12 => .slice (some ad) es.length fc | 13 => .int .i64 (a : Nat) | 14 => .pointer (some (ad.add (a * 9))) | 15 => .pointer (some (ad.add (a * 9))) | 16 => .string y.nm | 17 => .bool false | 18 => .bool true | 19 => .bool true | 20 => .bool true | 21 => undef | 22 => undef | 23 => undef | 24 => .bool true | 25 => .bool true | _ => undef) 26 (fun V => Below W4.heap.size W4 V) (fun V => Below W4.heap.size W4 V)) (fun f => by simp only [fill, Act.put, List.setIfInBounds_toArray, List.set_cons_zero, List.set_cons_succ]; rfl) (by kernel_rfl) (by kernel_rfl) (by kernel_rfl) (fun f => jl_start (b_drew (Below.refl _ _)) f) ?_ ?_
            · intro F hFr
              refine ⟨?_, ?_, ?_, ?_, ?_, ?_, ?_, ?_, ?_, ?_, ?_, ?_, ?_, ?_, ?_, ?_, ?_, ?_, ?_, ?_, ?_, ?_, ?_, ?_, ?_, ?_, trivial⟩
              · as_aux_lemma =>
                intro D f wx hJ hD hdep K9 hK
                exact stepF_val rfl (op_move rfl (v := .slice (some ad) es.length fc) (by rw [hFr]; kernel_rfl)) (by rw [hFr, hFr]; kernel_rfl) (hK (updf f 0 (.slice (some ad) es.length fc)) _ (jl_pure hJ (by decide) hD rfl))
              · as_aux_lemma =>
                intro D f wx hJ hD hdep K9 hK
                exact stepF_val rfl (op_move rfl (v := .int .i64 (b : Nat)) (by rw [hFr]; kernel_rfl)) (by rw [hFr, hFr]; kernel_rfl) (hK (updf f 1 (.int .i64 (b : Nat))) _ (jl_pure hJ (by decide) hD rfl))
              · as_aux_lemma =>
                intro D f wx hJ hD hdep K9 hK
                have e0 : f 0 = .slice (some ad) es.length fc := hJ.1 0 (by decide) (done hdep 0 (by kernel_rfl))
                have e1 : f 1 = .int .i64 (b : Nat) := hJ.1 1 (by decide) (done hdep 1 (by kernel_rfl))
                exact stepF_val rfl (op_index rfl (p := .slice (some ad) es.length fc) (q := .int .i64 (b : Nat)) ((show _ = f 0 from by rw [hFr]; kernel_rfl).trans e0) ((show _ = f 1 from by rw [hFr]; kernel_rfl).trans e1) (hIxB wx)) (by rw [hFr, hFr]; kernel_rfl) (hK (updf f 2 (.pointer (some (ad.add (b * 9))))) _ (jl_pure hJ (by decide) hD rfl))
              · as_aux_lemma =>
                intro D f wx hJ hD hdep K9 hK
                have e2 : f 2 = .pointer (some (ad.add (b * 9))) := hJ.1 2 (by decide) (done hdep 2 (by kernel_rfl))
                exact stepF_val rfl (op_field rfl (p := .pointer (some (ad.add (b * 9)))) ((show _ = f 2 from by rw [hFr]; kernel_rfl).trans e2) (hF1 wx)) (by rw [hFr, hFr]; kernel_rfl) (hK (updf f 3 (.pointer (some ⟨(ad.add (b * 9)).block, (ad.add (b * 9)).off + 1, none⟩))) _ (jl_pure hJ (by decide) hD rfl))
              · as_aux_lemma =>
                intro D f wx hJ hD hdep K9 hK
                have e3 : f 3 = .pointer (some ⟨(ad.add (b * 9)).block, (ad.add (b * 9)).off + 1, none⟩) := hJ.1 3 (by decide) (done hdep 3 (by kernel_rfl))
                obtain ⟨hDE, hA⟩ := jl_live hJ (by decide) hD
                exact stepF_val rfl (op_load rfl (p := .pointer (some ⟨(ad.add (b * 9)).block, (ad.add (b * 9)).off + 1, none⟩)) ((show _ = f 3 from by rw [hFr]; kernel_rfl).trans e3) (hKind wx hA)) (by rw [hFr, hFr]; kernel_rfl) (hK (updf f 4 (.int .i64 fb.kind)) _ (jl_pure hJ (by decide) hD rfl))
              · as_aux_lemma =>
                intro D f wx hJ hD hdep K9 hK
                have e4 : f 4 = .int .i64 fb.kind := hJ.1 4 (by decide) (done hdep 4 (by kernel_rfl))
                exact stepF_val rfl (op_bin rfl (p := .int .i64 fb.kind) (q := .int .i64 1) ((show _ = f 4 from by rw [hFr]; kernel_rfl).trans e4) (by rw [hFr]; kernel_rfl) (hEq wx)) (by rw [hFr, hFr]; kernel_rfl) (hK (updf f 5 (.bool false)) _ (jl_pure hJ (by decide) hD rfl))
              · as_aux_lemma =>
                intro D f wx hJ hD hdep K9 hK
                have e5 : f 5 = .bool false := hJ.1 5 (by decide) (done hdep 5 (by kernel_rfl))
                exact stepF_val rfl (op_move rfl (v := .bool false) ((show _ = f 5 from by rw [hFr]; kernel_rfl).trans e5)) (by rw [hFr, hFr]; kernel_rfl) (hK (updf f 6 (.bool false)) _ (jl_pure hJ (by decide) hD rfl))
              · as_aux_lemma =>
                intro D f wx hJ hD hdep K9 hK
                have e6 : f 6 = .bool false := hJ.1 6 (by decide) (done hdep 6 (by kernel_rfl))
                exact stepF_valW (wanted_on rfl (yields_of (show _ = some (f 6) from by rw [hFr]; kernel_rfl) e6)) (op_move rfl (v := .slice (some ad) es.length fc) (by rw [hFr]; kernel_rfl)) (by rw [hFr, hFr]; kernel_rfl) (hK (updf f 7 (.slice (some ad) es.length fc)) _ (jl_pure hJ (by decide) hD rfl))
              · as_aux_lemma =>
                intro D f wx hJ hD hdep K9 hK
                have e6 : f 6 = .bool false := hJ.1 6 (by decide) (done hdep 6 (by kernel_rfl))
                exact stepF_valW (wanted_on rfl (yields_of (show _ = some (f 6) from by rw [hFr]; kernel_rfl) e6)) (op_move rfl (v := .int .i64 (b : Nat)) (by rw [hFr]; kernel_rfl)) (by rw [hFr, hFr]; kernel_rfl) (hK (updf f 8 (.int .i64 (b : Nat))) _ (jl_pure hJ (by decide) hD rfl))
              · as_aux_lemma =>
                intro D f wx hJ hD hdep K9 hK
                have e6 : f 6 = .bool false := hJ.1 6 (by decide) (done hdep 6 (by kernel_rfl))
                have e7 : f 7 = .slice (some ad) es.length fc := hJ.1 7 (by decide) (done hdep 7 (by kernel_rfl))
                have e8 : f 8 = .int .i64 (b : Nat) := hJ.1 8 (by decide) (done hdep 8 (by kernel_rfl))
                exact stepF_valW (wanted_on rfl (yields_of (show _ = some (f 6) from by rw [hFr]; kernel_rfl) e6)) (op_index rfl (p := .slice (some ad) es.length fc) (q := .int .i64 (b : Nat)) ((show _ = f 7 from by rw [hFr]; kernel_rfl).trans e7) ((show _ = f 8 from by rw [hFr]; kernel_rfl).trans e8) (hIxB wx)) (by rw [hFr, hFr]; kernel_rfl) (hK (updf f 9 (.pointer (some (ad.add (b * 9))))) _ (jl_pure hJ (by decide) hD rfl))
              · as_aux_lemma =>
                intro D f wx hJ hD hdep K9 hK
                have e6 : f 6 = .bool false := hJ.1 6 (by decide) (done hdep 6 (by kernel_rfl))
                have e9 : f 9 = .pointer (some (ad.add (b * 9))) := hJ.1 9 (by decide) (done hdep 9 (by kernel_rfl))
                exact stepF_valW (wanted_on rfl (yields_of (show _ = some (f 6) from by rw [hFr]; kernel_rfl) e6)) (op_field rfl (p := .pointer (some (ad.add (b * 9)))) ((show _ = f 9 from by rw [hFr]; kernel_rfl).trans e9) (hF3 wx)) (by rw [hFr, hFr]; kernel_rfl) (hK (updf f 10 (.pointer (some ⟨(ad.add (b * 9)).block, (ad.add (b * 9)).off + 3, none⟩))) _ (jl_pure hJ (by decide) hD rfl))
              · as_aux_lemma =>
                intro D f wx hJ hD hdep K9 hK
                have e6 : f 6 = .bool false := hJ.1 6 (by decide) (done hdep 6 (by kernel_rfl))
                have e10 : f 10 = .pointer (some ⟨(ad.add (b * 9)).block, (ad.add (b * 9)).off + 3, none⟩) := hJ.1 10 (by decide) (done hdep 10 (by kernel_rfl))
                obtain ⟨hDE, hA⟩ := jl_live hJ (by decide) hD
                exact stepF_valW (wanted_on rfl (yields_of (show _ = some (f 6) from by rw [hFr]; kernel_rfl) e6)) (op_load rfl (p := .pointer (some ⟨(ad.add (b * 9)).block, (ad.add (b * 9)).off + 3, none⟩)) ((show _ = f 10 from by rw [hFr]; kernel_rfl).trans e10) (hSrc wx hA)) (by rw [hFr, hFr]; kernel_rfl) (hK (updf f 11 (.agg #[.int .i64 fb.d.op, .int .i64 fb.d.k, .int .i64 fb.d.n, .string fb.d.s, .string fb.d.nm, .slice fb.A fb.n fb.c])) _ (jl_pure hJ (by decide) hD rfl))
              · as_aux_lemma =>
                intro D f wx hJ hD hdep K9 hK
                have e6 : f 6 = .bool false := hJ.1 6 (by decide) (done hdep 6 (by kernel_rfl))
                exact stepF_valW (wanted_on rfl (yields_of (show _ = some (f 6) from by rw [hFr]; kernel_rfl) e6)) (op_move rfl (v := .slice (some ad) es.length fc) (by rw [hFr]; kernel_rfl)) (by rw [hFr, hFr]; kernel_rfl) (hK (updf f 12 (.slice (some ad) es.length fc)) _ (jl_pure hJ (by decide) hD rfl))
              · as_aux_lemma =>
                intro D f wx hJ hD hdep K9 hK
                have e6 : f 6 = .bool false := hJ.1 6 (by decide) (done hdep 6 (by kernel_rfl))
                exact stepF_valW (wanted_on rfl (yields_of (show _ = some (f 6) from by rw [hFr]; kernel_rfl) e6)) (op_move rfl (v := .int .i64 (a : Nat)) (by rw [hFr]; kernel_rfl)) (by rw [hFr, hFr]; kernel_rfl) (hK (updf f 13 (.int .i64 (a : Nat))) _ (jl_pure hJ (by decide) hD rfl))
              · as_aux_lemma =>
                intro D f wx hJ hD hdep K9 hK
                have e6 : f 6 = .bool false := hJ.1 6 (by decide) (done hdep 6 (by kernel_rfl))
                have e12 : f 12 = .slice (some ad) es.length fc := hJ.1 12 (by decide) (done hdep 12 (by kernel_rfl))
                have e13 : f 13 = .int .i64 (a : Nat) := hJ.1 13 (by decide) (done hdep 13 (by kernel_rfl))
                exact stepF_valW (wanted_on rfl (yields_of (show _ = some (f 6) from by rw [hFr]; kernel_rfl) e6)) (op_index rfl (p := .slice (some ad) es.length fc) (q := .int .i64 (a : Nat)) ((show _ = f 12 from by rw [hFr]; kernel_rfl).trans e12) ((show _ = f 13 from by rw [hFr]; kernel_rfl).trans e13) (hIxA wx)) (by rw [hFr, hFr]; kernel_rfl) (hK (updf f 14 (.pointer (some (ad.add (a * 9))))) _ (jl_pure hJ (by decide) hD rfl))
              · as_aux_lemma =>
                intro D f wx hJ hD hdep K9 hK
                have e6 : f 6 = .bool false := hJ.1 6 (by decide) (done hdep 6 (by kernel_rfl))
                have e14 : f 14 = .pointer (some (ad.add (a * 9))) := hJ.1 14 (by decide) (done hdep 14 (by kernel_rfl))
                exact stepF_valW (wanted_on rfl (yields_of (show _ = some (f 6) from by rw [hFr]; kernel_rfl) e6)) (op_field rfl (p := .pointer (some (ad.add (a * 9)))) ((show _ = f 14 from by rw [hFr]; kernel_rfl).trans e14) (hF0 wx)) (by rw [hFr, hFr]; kernel_rfl) (hK (updf f 15 (.pointer (some (ad.add (a * 9))))) _ (jl_pure hJ (by decide) hD rfl))
              · as_aux_lemma =>
                intro D f wx hJ hD hdep K9 hK
                have e6 : f 6 = .bool false := hJ.1 6 (by decide) (done hdep 6 (by kernel_rfl))
                have e15 : f 15 = .pointer (some (ad.add (a * 9))) := hJ.1 15 (by decide) (done hdep 15 (by kernel_rfl))
                obtain ⟨hDE, hA⟩ := jl_live hJ (by decide) hD
                exact stepF_valW (wanted_on rfl (yields_of (show _ = some (f 6) from by rw [hFr]; kernel_rfl) e6)) (op_load rfl (p := .pointer (some (ad.add (a * 9)))) ((show _ = f 15 from by rw [hFr]; kernel_rfl).trans e15) (hNm wx hA)) (by rw [hFr, hFr]; kernel_rfl) (hK (updf f 16 (.string y.nm)) _ (jl_pure hJ (by decide) hD rfl))
              · as_aux_lemma =>
                intro D f wx hJ hD hdep K9 hK
                have e6 : f 6 = .bool false := hJ.1 6 (by decide) (done hdep 6 (by kernel_rfl))
                have e11 : f 11 = .agg #[.int .i64 fb.d.op, .int .i64 fb.d.k, .int .i64 fb.d.n, .string fb.d.s, .string fb.d.nm, .slice fb.A fb.n fb.c] := hJ.1 11 (by decide) (done hdep 11 (by kernel_rfl))
                have e16 : f 16 = .string y.nm := hJ.1 16 (by decide) (done hdep 16 (by kernel_rfl))
                obtain ⟨hDE, hA⟩ := jl_live hJ (by decide) hD
                refine stepF_callW (wanted_on rfl (yields_of (show _ = some (f 6) from by rw [hFr]; kernel_rfl) e6)) (op_enter rfl rfl (xs := #[.agg #[.int .i64 fb.d.op, .int .i64 fb.d.k, .int .i64 fb.d.n, .string fb.d.s, .string fb.d.nm, .slice fb.A fb.n fb.c], .string y.nm]) (by rw [← e11, ← e16, hFr]; kernel_rfl) hen1) (HHas.out wx hA) ?_
                rintro e w5 ⟨rfl, hb5⟩
                have hk := hK (updf f 17 (.bool false)) w5 (jl_step hJ (by decide) hD rfl (b_trans hA hb5))
                refine ⟨_, rfl, ?_⟩
                rw [hFr] at hk ⊢
                exact hk
              · as_aux_lemma =>
                intro D f wx hJ hD hdep K9 hK
                have e6 : f 6 = .bool false := hJ.1 6 (by decide) (done hdep 6 (by kernel_rfl))
                have e17 : f 17 = .bool false := hJ.1 17 (by decide) (done hdep 17 (by kernel_rfl))
                exact stepF_valW (wanted_on rfl (yields_of (show _ = some (f 6) from by rw [hFr]; kernel_rfl) e6)) (op_unop rfl (p := .bool false) ((show _ = f 17 from by rw [hFr]; kernel_rfl).trans e17) (hNot wx)) (by rw [hFr, hFr]; kernel_rfl) (hK (updf f 18 (.bool true)) _ (jl_pure hJ (by decide) hD rfl))
              · as_aux_lemma =>
                intro D f wx hJ hD hdep K9 hK
                have e6 : f 6 = .bool false := hJ.1 6 (by decide) (done hdep 6 (by kernel_rfl))
                have e18 : f 18 = .bool true := hJ.1 18 (by decide) (done hdep 18 (by kernel_rfl))
                exact stepF_val rfl (op_pick rfl (b := false) ((show _ = f 6 from by rw [hFr]; kernel_rfl).trans e6) ((show _ = f 18 from by rw [hFr]; kernel_rfl).trans e18)) (by rw [hFr, hFr]; kernel_rfl) (hK (updf f 19 (.bool true)) _ (jl_pure hJ (by decide) hD rfl))
              · as_aux_lemma =>
                intro D f wx hJ hD hdep K9 hK
                have e19 : f 19 = .bool true := hJ.1 19 (by decide) (done hdep 19 (by kernel_rfl))
                exact stepF_val rfl (op_move rfl (v := .bool true) ((show _ = f 19 from by rw [hFr]; kernel_rfl).trans e19)) (by rw [hFr, hFr]; kernel_rfl) (hK (updf f 20 (.bool true)) _ (jl_pure hJ (by decide) hD rfl))
              · as_aux_lemma =>
                intro D f wx hJ hD hdep K9 hK
                have e20 : f 20 = .bool true := hJ.1 20 (by decide) (done hdep 20 (by kernel_rfl))
                exact stepF_off (wanted_off rfl (yields_of (show _ = some (f 20) from by rw [hFr]; kernel_rfl) e20) (by decide)) (by rw [hFr, hFr]; kernel_rfl) (hK (updf f 21 (undef)) _ (jl_pure hJ (by decide) hD rfl))
              · as_aux_lemma =>
                intro D f wx hJ hD hdep K9 hK
                have e20 : f 20 = .bool true := hJ.1 20 (by decide) (done hdep 20 (by kernel_rfl))
                exact stepF_off (wanted_off rfl (yields_of (show _ = some (f 20) from by rw [hFr]; kernel_rfl) e20) (by decide)) (by rw [hFr, hFr]; kernel_rfl) (hK (updf f 22 (undef)) _ (jl_pure hJ (by decide) hD rfl))
              · as_aux_lemma =>
                intro D f wx hJ hD hdep K9 hK
                have e20 : f 20 = .bool true := hJ.1 20 (by decide) (done hdep 20 (by kernel_rfl))
                exact stepF_off (wanted_off rfl (yields_of (show _ = some (f 20) from by rw [hFr]; kernel_rfl) e20) (by decide)) (by rw [hFr, hFr]; kernel_rfl) (hK (updf f 23 (undef)) _ (jl_pure hJ (by decide) hD rfl))
              · as_aux_lemma =>
                intro D f wx hJ hD hdep K9 hK
                have e20 : f 20 = .bool true := hJ.1 20 (by decide) (done hdep 20 (by kernel_rfl))
                exact stepF_val rfl (op_pick rfl (b := true) ((show _ = f 20 from by rw [hFr]; kernel_rfl).trans e20) (by first | rfl | (rw [hFr]; kernel_rfl) | rw [hFr])) (by rw [hFr, hFr]; kernel_rfl) (hK (updf f 24 (.bool true)) _ (jl_pure hJ (by decide) hD rfl))
              · as_aux_lemma =>
                intro D f wx hJ hD hdep K9 hK
                have e24 : f 24 = .bool true := hJ.1 24 (by decide) (done hdep 24 (by kernel_rfl))
                exact stepF_val rfl (op_assign rfl (v := .bool true) ((show _ = f 24 from by rw [hFr]; kernel_rfl).trans e24)) (by rw [hFr, hFr]; kernel_rfl) (hK (updf f 25 (.bool true)) _ (jl_pure hJ (by decide) hD rfl))
            · intro D f wx hJ hall
              have e25 : f 25 = .bool true := hJ.1 25 (by decide) (hall 25 (by decide))
              have hbw : Below W4.heap.size W4 wx := by
                cases h26 : D 26 with
                | false => exact hJ.2.1 h26
                | true => exact (hJ.2.2 h26).2
              have HB5 := Lib.hid (b_trans HB4.out hbw)
              rw [e25]
              clear e25 hbw hJ hall
              go_wp2_with fail
              go_ret
              exact ⟨rfl, HB5.out⟩
          | true =>
            have hNot := hNot true
            refine region_fill [(0, 77), (1, 78), (2, 79), (3, 80), (4, 81), (5, 82), (6, 83), (7, 84), (8, 85), (9, 86), (10, 87), (11, 88), (12, 89), (13, 90), (14, 91), (15, 92), (16, 93), (17, 94), (18, 95), (19, 96), (20, 97), (21, 98), (22, 99), (23, 100), (24, 101), (25, 6)] (JL (fun i => match i with | 0 => .slice (some ad) es.length fc | 1 => .int .i64 (b : Nat) | 2 => .pointer (some (ad.add (b * 9))) | 3 => .pointer (some ⟨(ad.add (b * 9)).block, (ad.add (b * 9)).off + 1, none⟩) | 4 => .int .i64 fb.kind | 5 => .bool false | 6 => .bool false | 7 => .slice (some ad) es.length fc | 8 => .int .i64 (b : Nat) | 9 => .pointer (some (ad.add (b * 9))) | 10 => .pointer (some ⟨(ad.add (b * 9)).block, (ad.add (b * 9)).off + 3, none⟩) | 11 => .agg #[.int .i64 fb.d.op, .int .i64 fb.d.k, .int .i64 fb.d.n, .string fb.d.s, .string fb.d.nm, .slice fb.A fb.n fb.c] | 12 => .slice (some ad) es.length fc | 13 => .int .i64 (a : Nat) | 14 => .pointer (some (ad.add (a * 9))) | 15 => .pointer (some (ad.add (a * 9))) | 16 => .string y.nm | 17 => .bool true | 18 => .bool false | 19 => .bool false | 20 => .bool false | 21 => vx | 22 => .int .i64 (b : Nat) | 23 => .bool true | 24 => .bool true | 25 => .bool true | _ => undef) 26 (fun V => Below W4.heap.size W4 V) (fun V => Below W4.heap.size W4 V)) (fun f => by simp only [fill, Act.put, List.setIfInBounds_toArray, List.set_cons_zero, List.set_cons_succ]; rfl) (by kernel_rfl) (by kernel_rfl) (by kernel_rfl) (fun f => jl_start (b_drew (Below.refl _ _)) f) ?_ ?_
            · intro F hFr
              refine ⟨?_, ?_, ?_, ?_, ?_, ?_, ?_, ?_, ?_, ?_, ?_, ?_, ?_, ?_, ?_, ?_, ?_, ?_, ?_, ?_, ?_, ?_, ?_, ?_, ?_, ?_, trivial⟩
              · as_aux_lemma =>
                intro D f wx hJ hD hdep K9 hK
                exact stepF_val rfl (op_move rfl (v := .slice (some ad) es.length fc) (by rw [hFr]; kernel_rfl)) (by rw [hFr, hFr]; kernel_rfl) (hK (updf f 0 (.slice (some ad) es.length fc)) _ (jl_pure hJ (by decide) hD rfl))
              · as_aux_lemma =>
                intro D f wx hJ hD hdep K9 hK
                exact stepF_val rfl (op_move rfl (v := .int .i64 (b : Nat)) (by rw [hFr]; kernel_rfl)) (by rw [hFr, hFr]; kernel_rfl) (hK (updf f 1 (.int .i64 (b : Nat))) _ (jl_pure hJ (by decide) hD rfl))
              · as_aux_lemma =>
                intro D f wx hJ hD hdep K9 hK
                have e0 : f 0 = .slice (some ad) es.length fc := hJ.1 0 (by decide) (done hdep 0 (by kernel_rfl))
                have e1 : f 1 = .int .i64 (b : Nat) := hJ.1 1 (by decide) (done hdep 1 (by kernel_rfl))
                exact stepF_val rfl (op_index rfl (p := .slice (some ad) es.length fc) (q := .int .i64 (b : Nat)) ((show _ = f 0 from by rw [hFr]; kernel_rfl).trans e0) ((show _ = f 1 from by rw [hFr]; kernel_rfl).trans e1) (hIxB wx)) (by rw [hFr, hFr]; kernel_rfl) (hK (updf f 2 (.pointer (some (ad.add (b * 9))))) _ (jl_pure hJ (by decide) hD rfl))
              · as_aux_lemma =>
                intro D f wx hJ hD hdep K9 hK
                have e2 : f 2 = .pointer (some (ad.add (b * 9))) := hJ.1 2 (by decide) (done hdep 2 (by kernel_rfl))
                exact stepF_val rfl (op_field rfl (p := .pointer (some (ad.add (b * 9)))) ((show _ = f 2 from by rw [hFr]; kernel_rfl).trans e2) (hF1 wx)) (by rw [hFr, hFr]; kernel_rfl) (hK (updf f 3 (.pointer (some ⟨(ad.add (b * 9)).block, (ad.add (b * 9)).off + 1, none⟩))) _ (jl_pure hJ (by decide) hD rfl))
              · as_aux_lemma =>
                intro D f wx hJ hD hdep K9 hK
                have e3 : f 3 = .pointer (some ⟨(ad.add (b * 9)).block, (ad.add (b * 9)).off + 1, none⟩) := hJ.1 3 (by decide) (done hdep 3 (by kernel_rfl))
                obtain ⟨hDE, hA⟩ := jl_live hJ (by decide) hD
                exact stepF_val rfl (op_load rfl (p := .pointer (some ⟨(ad.add (b * 9)).block, (ad.add (b * 9)).off + 1, none⟩)) ((show _ = f 3 from by rw [hFr]; kernel_rfl).trans e3) (hKind wx hA)) (by rw [hFr, hFr]; kernel_rfl) (hK (updf f 4 (.int .i64 fb.kind)) _ (jl_pure hJ (by decide) hD rfl))
              · as_aux_lemma =>
                intro D f wx hJ hD hdep K9 hK
                have e4 : f 4 = .int .i64 fb.kind := hJ.1 4 (by decide) (done hdep 4 (by kernel_rfl))
                exact stepF_val rfl (op_bin rfl (p := .int .i64 fb.kind) (q := .int .i64 1) ((show _ = f 4 from by rw [hFr]; kernel_rfl).trans e4) (by rw [hFr]; kernel_rfl) (hEq wx)) (by rw [hFr, hFr]; kernel_rfl) (hK (updf f 5 (.bool false)) _ (jl_pure hJ (by decide) hD rfl))
              · as_aux_lemma =>
                intro D f wx hJ hD hdep K9 hK
                have e5 : f 5 = .bool false := hJ.1 5 (by decide) (done hdep 5 (by kernel_rfl))
                exact stepF_val rfl (op_move rfl (v := .bool false) ((show _ = f 5 from by rw [hFr]; kernel_rfl).trans e5)) (by rw [hFr, hFr]; kernel_rfl) (hK (updf f 6 (.bool false)) _ (jl_pure hJ (by decide) hD rfl))
              · as_aux_lemma =>
                intro D f wx hJ hD hdep K9 hK
                have e6 : f 6 = .bool false := hJ.1 6 (by decide) (done hdep 6 (by kernel_rfl))
                exact stepF_valW (wanted_on rfl (yields_of (show _ = some (f 6) from by rw [hFr]; kernel_rfl) e6)) (op_move rfl (v := .slice (some ad) es.length fc) (by rw [hFr]; kernel_rfl)) (by rw [hFr, hFr]; kernel_rfl) (hK (updf f 7 (.slice (some ad) es.length fc)) _ (jl_pure hJ (by decide) hD rfl))
              · as_aux_lemma =>
                intro D f wx hJ hD hdep K9 hK
                have e6 : f 6 = .bool false := hJ.1 6 (by decide) (done hdep 6 (by kernel_rfl))
                exact stepF_valW (wanted_on rfl (yields_of (show _ = some (f 6) from by rw [hFr]; kernel_rfl) e6)) (op_move rfl (v := .int .i64 (b : Nat)) (by rw [hFr]; kernel_rfl)) (by rw [hFr, hFr]; kernel_rfl) (hK (updf f 8 (.int .i64 (b : Nat))) _ (jl_pure hJ (by decide) hD rfl))
              · as_aux_lemma =>
                intro D f wx hJ hD hdep K9 hK
                have e6 : f 6 = .bool false := hJ.1 6 (by decide) (done hdep 6 (by kernel_rfl))
                have e7 : f 7 = .slice (some ad) es.length fc := hJ.1 7 (by decide) (done hdep 7 (by kernel_rfl))
                have e8 : f 8 = .int .i64 (b : Nat) := hJ.1 8 (by decide) (done hdep 8 (by kernel_rfl))
                exact stepF_valW (wanted_on rfl (yields_of (show _ = some (f 6) from by rw [hFr]; kernel_rfl) e6)) (op_index rfl (p := .slice (some ad) es.length fc) (q := .int .i64 (b : Nat)) ((show _ = f 7 from by rw [hFr]; kernel_rfl).trans e7) ((show _ = f 8 from by rw [hFr]; kernel_rfl).trans e8) (hIxB wx)) (by rw [hFr, hFr]; kernel_rfl) (hK (updf f 9 (.pointer (some (ad.add (b * 9))))) _ (jl_pure hJ (by decide) hD rfl))
              · as_aux_lemma =>
                intro D f wx hJ hD hdep K9 hK
                have e6 : f 6 = .bool false := hJ.1 6 (by decide) (done hdep 6 (by kernel_rfl))
                have e9 : f 9 = .pointer (some (ad.add (b * 9))) := hJ.1 9 (by decide) (done hdep 9 (by kernel_rfl))
                exact stepF_valW (wanted_on rfl (yields_of (show _ = some (f 6) from by rw [hFr]; kernel_rfl) e6)) (op_field rfl (p := .pointer (some (ad.add (b * 9)))) ((show _ = f 9 from by rw [hFr]; kernel_rfl).trans e9) (hF3 wx)) (by rw [hFr, hFr]; kernel_rfl) (hK (updf f 10 (.pointer (some ⟨(ad.add (b * 9)).block, (ad.add (b * 9)).off + 3, none⟩))) _ (jl_pure hJ (by decide) hD rfl))
              · as_aux_lemma =>
                intro D f wx hJ hD hdep K9 hK
                have e6 : f 6 = .bool false := hJ.1 6 (by decide) (done hdep 6 (by kernel_rfl))
                have e10 : f 10 = .pointer (some ⟨(ad.add (b * 9)).block, (ad.add (b * 9)).off + 3, none⟩) := hJ.1 10 (by decide) (done hdep 10 (by kernel_rfl))
                obtain ⟨hDE, hA⟩ := jl_live hJ (by decide) hD
                exact stepF_valW (wanted_on rfl (yields_of (show _ = some (f 6) from by rw [hFr]; kernel_rfl) e6)) (op_load rfl (p := .pointer (some ⟨(ad.add (b * 9)).block, (ad.add (b * 9)).off + 3, none⟩)) ((show _ = f 10 from by rw [hFr]; kernel_rfl).trans e10) (hSrc wx hA)) (by rw [hFr, hFr]; kernel_rfl) (hK (updf f 11 (.agg #[.int .i64 fb.d.op, .int .i64 fb.d.k, .int .i64 fb.d.n, .string fb.d.s, .string fb.d.nm, .slice fb.A fb.n fb.c])) _ (jl_pure hJ (by decide) hD rfl))
              · as_aux_lemma =>
                intro D f wx hJ hD hdep K9 hK
                have e6 : f 6 = .bool false := hJ.1 6 (by decide) (done hdep 6 (by kernel_rfl))
                exact stepF_valW (wanted_on rfl (yields_of (show _ = some (f 6) from by rw [hFr]; kernel_rfl) e6)) (op_move rfl (v := .slice (some ad) es.length fc) (by rw [hFr]; kernel_rfl)) (by rw [hFr, hFr]; kernel_rfl) (hK (updf f 12 (.slice (some ad) es.length fc)) _ (jl_pure hJ (by decide) hD rfl))
              · as_aux_lemma =>
                intro D f wx hJ hD hdep K9 hK
                have e6 : f 6 = .bool false := hJ.1 6 (by decide) (done hdep 6 (by kernel_rfl))
                exact stepF_valW (wanted_on rfl (yields_of (show _ = some (f 6) from by rw [hFr]; kernel_rfl) e6)) (op_move rfl (v := .int .i64 (a : Nat)) (by rw [hFr]; kernel_rfl)) (by rw [hFr, hFr]; kernel_rfl) (hK (updf f 13 (.int .i64 (a : Nat))) _ (jl_pure hJ (by decide) hD rfl))
              · as_aux_lemma =>
                intro D f wx hJ hD hdep K9 hK
                have e6 : f 6 = .bool false := hJ.1 6 (by decide) (done hdep 6 (by kernel_rfl))
                have e12 : f 12 = .slice (some ad) es.length fc := hJ.1 12 (by decide) (done hdep 12 (by kernel_rfl))
                have e13 : f 13 = .int .i64 (a : Nat) := hJ.1 13 (by decide) (done hdep 13 (by kernel_rfl))
                exact stepF_valW (wanted_on rfl (yields_of (show _ = some (f 6) from by rw [hFr]; kernel_rfl) e6)) (op_index rfl (p := .slice (some ad) es.length fc) (q := .int .i64 (a : Nat)) ((show _ = f 12 from by rw [hFr]; kernel_rfl).trans e12) ((show _ = f 13 from by rw [hFr]; kernel_rfl).trans e13) (hIxA wx)) (by rw [hFr, hFr]; kernel_rfl) (hK (updf f 14 (.pointer (some (ad.add (a * 9))))) _ (jl_pure hJ (by decide) hD rfl))
              · as_aux_lemma =>
                intro D f wx hJ hD hdep K9 hK
                have e6 : f 6 = .bool false := hJ.1 6 (by decide) (done hdep 6 (by kernel_rfl))
                have e14 : f 14 = .pointer (some (ad.add (a * 9))) := hJ.1 14 (by decide) (done hdep 14 (by kernel_rfl))
                exact stepF_valW (wanted_on rfl (yields_of (show _ = some (f 6) from by rw [hFr]; kernel_rfl) e6)) (op_field rfl (p := .pointer (some (ad.add (a * 9)))) ((show _ = f 14 from by rw [hFr]; kernel_rfl).trans e14) (hF0 wx)) (by rw [hFr, hFr]; kernel_rfl) (hK (updf f 15 (.pointer (some (ad.add (a * 9))))) _ (jl_pure hJ (by decide) hD rfl))
              · as_aux_lemma =>
                intro D f wx hJ hD hdep K9 hK
                have e6 : f 6 = .bool false := hJ.1 6 (by decide) (done hdep 6 (by kernel_rfl))
                have e15 : f 15 = .pointer (some (ad.add (a * 9))) := hJ.1 15 (by decide) (done hdep 15 (by kernel_rfl))
                obtain ⟨hDE, hA⟩ := jl_live hJ (by decide) hD
                exact stepF_valW (wanted_on rfl (yields_of (show _ = some (f 6) from by rw [hFr]; kernel_rfl) e6)) (op_load rfl (p := .pointer (some (ad.add (a * 9)))) ((show _ = f 15 from by rw [hFr]; kernel_rfl).trans e15) (hNm wx hA)) (by rw [hFr, hFr]; kernel_rfl) (hK (updf f 16 (.string y.nm)) _ (jl_pure hJ (by decide) hD rfl))
              · as_aux_lemma =>
                intro D f wx hJ hD hdep K9 hK
                have e6 : f 6 = .bool false := hJ.1 6 (by decide) (done hdep 6 (by kernel_rfl))
                have e11 : f 11 = .agg #[.int .i64 fb.d.op, .int .i64 fb.d.k, .int .i64 fb.d.n, .string fb.d.s, .string fb.d.nm, .slice fb.A fb.n fb.c] := hJ.1 11 (by decide) (done hdep 11 (by kernel_rfl))
                have e16 : f 16 = .string y.nm := hJ.1 16 (by decide) (done hdep 16 (by kernel_rfl))
                obtain ⟨hDE, hA⟩ := jl_live hJ (by decide) hD
                refine stepF_callW (wanted_on rfl (yields_of (show _ = some (f 6) from by rw [hFr]; kernel_rfl) e6)) (op_enter rfl rfl (xs := #[.agg #[.int .i64 fb.d.op, .int .i64 fb.d.k, .int .i64 fb.d.n, .string fb.d.s, .string fb.d.nm, .slice fb.A fb.n fb.c], .string y.nm]) (by rw [← e11, ← e16, hFr]; kernel_rfl) hen1) (HHas.out wx hA) ?_
                rintro e w5 ⟨rfl, hb5⟩
                have hk := hK (updf f 17 (.bool true)) w5 (jl_step hJ (by decide) hD rfl (b_trans hA hb5))
                refine ⟨_, rfl, ?_⟩
                rw [hFr] at hk ⊢
                exact hk
              · as_aux_lemma =>
                intro D f wx hJ hD hdep K9 hK
                have e6 : f 6 = .bool false := hJ.1 6 (by decide) (done hdep 6 (by kernel_rfl))
                have e17 : f 17 = .bool true := hJ.1 17 (by decide) (done hdep 17 (by kernel_rfl))
                exact stepF_valW (wanted_on rfl (yields_of (show _ = some (f 6) from by rw [hFr]; kernel_rfl) e6)) (op_unop rfl (p := .bool true) ((show _ = f 17 from by rw [hFr]; kernel_rfl).trans e17) (hNot wx)) (by rw [hFr, hFr]; kernel_rfl) (hK (updf f 18 (.bool false)) _ (jl_pure hJ (by decide) hD rfl))
              · as_aux_lemma =>
                intro D f wx hJ hD hdep K9 hK
                have e6 : f 6 = .bool false := hJ.1 6 (by decide) (done hdep 6 (by kernel_rfl))
                have e18 : f 18 = .bool false := hJ.1 18 (by decide) (done hdep 18 (by kernel_rfl))
                exact stepF_val rfl (op_pick rfl (b := false) ((show _ = f 6 from by rw [hFr]; kernel_rfl).trans e6) ((show _ = f 18 from by rw [hFr]; kernel_rfl).trans e18)) (by rw [hFr, hFr]; kernel_rfl) (hK (updf f 19 (.bool false)) _ (jl_pure hJ (by decide) hD rfl))
              · as_aux_lemma =>
                intro D f wx hJ hD hdep K9 hK
                have e19 : f 19 = .bool false := hJ.1 19 (by decide) (done hdep 19 (by kernel_rfl))
                exact stepF_val rfl (op_move rfl (v := .bool false) ((show _ = f 19 from by rw [hFr]; kernel_rfl).trans e19)) (by rw [hFr, hFr]; kernel_rfl) (hK (updf f 20 (.bool false)) _ (jl_pure hJ (by decide) hD rfl))
              · as_aux_lemma =>
                intro D f wx hJ hD hdep K9 hK
                have e20 : f 20 = .bool false := hJ.1 20 (by decide) (done hdep 20 (by kernel_rfl))
                exact stepF_valW (wanted_on rfl (yields_of (show _ = some (f 20) from by rw [hFr]; kernel_rfl) e20)) (op_move rfl (v := vx) (by rw [hFr]; kernel_rfl)) (by rw [hFr, hFr]; kernel_rfl) (hK (updf f 21 (vx)) _ (jl_pure hJ (by decide) hD rfl))
              · as_aux_lemma =>
                intro D f wx hJ hD hdep K9 hK
                have e20 : f 20 = .bool false := hJ.1 20 (by decide) (done hdep 20 (by kernel_rfl))
                exact stepF_valW (wanted_on rfl (yields_of (show _ = some (f 20) from by rw [hFr]; kernel_rfl) e20)) (op_move rfl (v := .int .i64 (b : Nat)) (by rw [hFr]; kernel_rfl)) (by rw [hFr, hFr]; kernel_rfl) (hK (updf f 22 (.int .i64 (b : Nat))) _ (jl_pure hJ (by decide) hD rfl))
              · as_aux_lemma =>
                intro D f wx hJ hD hdep K9 hK
                have e20 : f 20 = .bool false := hJ.1 20 (by decide) (done hdep 20 (by kernel_rfl))
                have e21 : f 21 = vx := hJ.1 21 (by decide) (done hdep 21 (by kernel_rfl))
                have e22 : f 22 = .int .i64 (b : Nat) := hJ.1 22 (by decide) (done hdep 22 (by kernel_rfl))
                obtain ⟨hDE, hA⟩ := jl_live hJ (by decide) hD
                refine stepF_callW (wanted_on rfl (yields_of (show _ = some (f 20) from by rw [hFr]; kernel_rfl) e20)) (op_enter rfl rfl (xs := #[vx, .int .i64 (b : Nat)]) (by rw [← e21, ← e22, hFr]; kernel_rfl) hen2) (HCon.out wx hA) ?_
                rintro e w5 ⟨rfl, rfl⟩
                have hk := hK (updf f 23 (.bool true)) wx (jl_step hJ (by decide) hD rfl hA)
                refine ⟨_, rfl, ?_⟩
                rw [hFr] at hk ⊢
                exact hk
              · as_aux_lemma =>
                intro D f wx hJ hD hdep K9 hK
                have e20 : f 20 = .bool false := hJ.1 20 (by decide) (done hdep 20 (by kernel_rfl))
                have e23 : f 23 = .bool true := hJ.1 23 (by decide) (done hdep 23 (by kernel_rfl))
                exact stepF_val rfl (op_pick rfl (b := false) ((show _ = f 20 from by rw [hFr]; kernel_rfl).trans e20) ((show _ = f 23 from by rw [hFr]; kernel_rfl).trans e23)) (by rw [hFr, hFr]; kernel_rfl) (hK (updf f 24 (.bool true)) _ (jl_pure hJ (by decide) hD rfl))
              · as_aux_lemma =>
                intro D f wx hJ hD hdep K9 hK
                have e24 : f 24 = .bool true := hJ.1 24 (by decide) (done hdep 24 (by kernel_rfl))
                exact stepF_val rfl (op_assign rfl (v := .bool true) ((show _ = f 24 from by rw [hFr]; kernel_rfl).trans e24)) (by rw [hFr, hFr]; kernel_rfl) (hK (updf f 25 (.bool true)) _ (jl_pure hJ (by decide) hD rfl))
            · intro D f wx hJ hall
              have e25 : f 25 = .bool true := hJ.1 25 (by decide) (hall 25 (by decide))
              have hbw : Below W4.heap.size W4 wx := by
                cases h26 : D 26 with
                | false => exact hJ.2.1 h26
                | true => exact (hJ.2.2 h26).2
              have HB5 := Lib.hid (b_trans HB4.out hbw)
              rw [e25]
              clear e25 hbw hJ hall
              go_wp2_with fail
              go_ret
              exact ⟨rfl, HB5.out⟩

theorem not_of {W : World} (h : laidMetH Tryz.prog Rows.rankHangsRow.laid W) : ExN.Tab W := by
  have h0 : laidMet Tryz.prog Rows.rankHangsRow.laid W := by rw [MakeChecks.laidMetH_plain _ _ _ (by kernel_rfl)] at h; exact h
  have h1 := h0
  exact NotTab.is_of_head (g := 0) (t := 126) (e := 125) (n := 19) (by kernel_rfl) (by kernel_rfl) Tryz.underlying126 (by kernel_rfl) Tryz.underlying125 (by kernel_rfl) rfl rfl rfl Tryz.underlying9 Tryz.underlying3 Tryz.underlying3 (by kernel_rfl) (by kernel_rfl) (by kernel_rfl) h1

/-! ### The row's step -/
set_option maxRecDepth 100000 in
theorem lifted (os : Os) (started : os.Started) (H : Type) (enc : TypeId × Value → H) :
    ReturnsInHanded {} Tryz.checked os 6 .any (fun w args => (Rows.rankHangsSpec.pre enc Tryz.prog Tryz.f6 [] false w args ∧ laidMetH Tryz.prog Rows.rankHangsRow.laid w) ∧ sizedMet enc Tryz.prog Tryz.f6 (OpenSpec.ofChange Rows.rankHangsSpec) false w args) (Rows.rankHangsSpec.post enc Tryz.prog Tryz.f6 false true false false) := by
  refine returnsInHanded_of_change_and (C := Tryz.checked) (X := fun w _ => laidMetH Tryz.prog Rows.rankHangsRow.laid w) (fun _ _ _ hh h => h.of_heap hh) own started (by kernel_rfl) Tryz.func6
    (ChangeSpec.witness_shaped (enc := enc) (C := Tryz.checked) (os := os) (X := fun w _ => laidMetH Tryz.prog Rows.rankHangsRow.laid w) false (World.laidAll Tryz.prog os Rows.rankHangsRow.laid) #[.slice none 0 0, .int .i64 0, .int .i64 0] 8 (World.laidAll_os _ _ _) (World.shaped_of_ZipB (by kernel_rfl) (by kernel_rfl)) (by kernel_rfl) (by kernel_rfl) (by kernel_rfl) (by rw [MakeChecks.laidMetH_plain _ _ _ (by kernel_rfl)]; exact laidMet_laidAll _ (by kernel_rfl) (by kernel_rfl))) ?_
  intro W base args ds gs before hval0 hW hcnd hsz hL _
  have hval : ∀ (j : Nat) t v, Tryz.f6.params[j]? = some t → args[j]? = some v → Value.okWide Tryz.prog W .any base t v := hval0
  have hW' := hW
  obtain ⟨p, q, hA0, hV, rfl, hfz, hnd⟩ := hW
  have hA : DataW.TrodAll enc Tryz.prog W 0 (fun _ => true) true Tryz.f6.params.toList args.toList ds p := hA0
  rw [Tryz.params6] at hA hval
  obtain ⟨v0, vs0, d0, ds0, p0, q0, hargs, rfl, rfl, h0, r0⟩ := trodAll_cons hA
  obtain ⟨v1, vs1, d1, ds1, p1, q1, rfl, rfl, rfl, h1, r1⟩ := trodAll_cons r0
  obtain ⟨v2, vs2, d2, ds2, p2, q2, rfl, rfl, rfl, h2, r2⟩ := trodAll_cons r1
  obtain ⟨rfl, rfl, rfl⟩ := trodAll_nil r2
  obtain rfl : args = #[v0, v1, v2] := by cases args; simp_all
  obtain ⟨rfl, rfl⟩ := trodVars_none hV
  have k0 := h0
  have lt0 : ∀ x ∈ p0, x.block < W.heap.size := by obtain ⟨m, hm⟩ := k0; exact DataW.trod_lt m _ _ _ hm
  obtain ⟨A0, n0, c0, rfl, hraw0⟩ := RawO.open_raws (hval 0 35 v0 rfl rfl) h0
  have k1 := h1
  have lt1 : ∀ x ∈ p1, x.block < W.heap.size := by obtain ⟨m, hm⟩ := k1; exact DataW.trod_lt m _ _ _ hm
  obtain ⟨a1, rfl, rfl, rfl, w1⟩ := open_int Tryz.underlying3 (hval 1 3 v1 rfl rfl) h1
  have k2 := h2
  have lt2 : ∀ x ∈ p2, x.block < W.heap.size := by obtain ⟨m, hm⟩ := k2; exact DataW.trod_lt m _ _ _ hm
  obtain ⟨a2, rfl, rfl, rfl, w2⟩ := open_int Tryz.underlying3 (hval 2 3 v2 rfl rfl) h2
  clear hA0 hval0
  refine (walk A0 n0 c0 a1 a2 w1 w2 W hraw0 (not_of hL)).mono fun e W' ⟨he, bel⟩ => ?_
  subst he
  exact ⟨_, rfl, _, _, _, [], _, [], hW', trodAll_mk1 (shut_bool Tryz.underlying4 _), (trodAll_cons_mk (Below.trod laidOut (by kernel_rfl) (of_decide_eq_true (by kernel_rfl)) k0 bel lt0) (trodAll_cons_mk (Below.trod laidOut (by kernel_rfl) (of_decide_eq_true (by kernel_rfl)) k1 bel lt1) (trodAll_cons_mk (Below.trod laidOut (by kernel_rfl) (of_decide_eq_true (by kernel_rfl)) k2 bel lt2) trodAll_mk0))), rfl, bel.frame _, fun h => by cases h⟩

theorem over : Rows.rankHangsRow.holds Tryz.pinned (OpenSpec.ofChange Rows.rankHangsSpec) :=
  OpenClaim.holds_of_wide 6 Tryz.f6 rfl rfl rfl rfl rfl rfl rfl ⟨rfl, rfl, rfl, rfl, rfl⟩ rfl rfl rfl rfl rfl (by kernel_rfl) Tryz.func6 (by kernel_rfl)
    (of_decide_eq_true (by kernel_rfl)) (by unfold Func.isWrapper; first | (rw [if_pos (by decide +kernel)]; kernel_rfl) | (rw [if_neg (by decide +kernel)]; exact ⟨rfl, rfl⟩))
    (fun os started H enc _ => lifted os started H enc)

/-- The tied card. -/
theorem proved : Rows.RankHangsCardSaid :=
  Claim7.holds_tied_plain_at .later [] [.data] true (true, "0a2fb0aeae9f543ae7f2fd1da402125f577ffeb103430b4eee2c0091bcbe98d0") false
    over (fun _ h => by cases h) (by kernel_rfl) (fun _ h => by cases h) rankHangs_row_tie rfl ⟨rfl, rfl⟩ (by kernel_rfl) rfl
    (fun f fn hf hfn => by
      obtain rfl : f = 6 := Option.some.inj ((show Tryz.prog.funcNamed "lychway/lychwaykeep.RankHangs" = some 6 by kernel_rfl).symm.trans hf) |>.symm
      obtain rfl : fn = Tryz.f6 := (Option.some.inj (Tryz.func6.symm.trans hfn)).symm
      exact ⟨by kernel_rfl, fun j t ht => by
        rw [Tryz.params6] at ht
        have hm : t ∈ [35, 3, 3] := by simpa using Array.mem_of_getElem? ht
        have hall : ([35, 3, 3].all fun u => !Tryz.prog.wantsStandIn u) = true := by kernel_rfl
        exact (show Tryz.prog.wantsStandIn t = false by simpa using List.all_eq_true.1 hall t hm)⟩)
    (by kernel_rfl)
#print axioms proved
end Go.Proofs.YtdndphagfohpnaaGreatDoor.rankHangs
