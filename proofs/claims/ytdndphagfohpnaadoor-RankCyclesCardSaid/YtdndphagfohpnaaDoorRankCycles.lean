/- What is proved: the Go law lychwaykeep.RankCycles returns true for all its arguments, and leaves them as they were. No condition. -/
import Derived.Test.YtdndphagfohpnaaDoorRows
import Derived.Test.YtdndphagfohpnaaDoorRgLoop
import Derived.Test.YtdndphagfohpnaaDoorFldTurn
import Derived.Test.YtdndphagfohpnaaDoorRawOpen
import Derived.Test.YtdndphagfohpnaaDoorKit
import Derived.WalkKit
import Derived.ProofKit
import Derived.OpenShut
import Derived.Deep.RegionHeld3
import Derived.Deep.DrawnRows
import Derived.Deep.DeepCutAuto
import Derived.Deep.QuietTactic
import Derived.BigQuiet
import Derived.WalkSpells
import Derived.WalkLawsBesides
import Derived.Lib.Hide
import Derived.Outline
import Derived.ShutString
import Derived.ChangeOld
import Derived.Below
import Derived.LaidMore
import Derived.SizedLaws
import Derived.Stop.Joined
import Derived.Stop.LaidErr
import Derived.Lib.LaidTab
import Derived.SevenTiedAt
import Derived.Lay
import Derived.LaidOnce
import Derived.Deep.DeepHandedRow
import Derived.Test.YtdndphagfohpnaaDoorCards
import Derived.Test.YtdndphagfohpnaaDoorTie
namespace Go.Proofs.YtdndphagfohpnaaDoor.rankCycles
open ValM LexM NumM ExM NmM Kit ExL ExP ExN RawV Within RawL RawN GenL Gen GenE GenT GenV FrmM Frm FldP FldR FldC FrmT FrmO NmV NmH RkM RkC RkD RkK RegI CycO RngO RgL
open Go.ChangeShapes Go.WideShapes Go.ChangeAt Go.RowKit
open Go.ChangeMaps (open_string shut_string)
set_option linter.unusedVariables false

theorem own : ownKnob Tryd.prog.godebug = none := by kernel_rfl
theorem laidOut : laidOutB Tryd.prog = true := by kernel_rfl


/-! ### The walk -/
set_option maxRecDepth 100000 in
set_option maxHeartbeats 16000000 in
theorem walk (A0 : Option Addr) (n0 : Nat) (c0 : Nat) (a1 : Int) (w1 : (Lit.int .i64 a1).wf = true) (w : World) (hraw0 : RawL.Raws w A0 n0 c0) (ht : ExN.Tab w) :
    Calls Tryd.prog 5 #[.slice A0 n0 c0, .int .i64 a1] w fun e w' => e = .returned (.bool true) ∧ Below w.heap.size w w' := by
  obtain ⟨rs, rfl, hrv⟩ := RawN.Raws.val n0 hraw0
  have hF := form_any c0 A0 rs w hrv
  have HF := Lib.hid hF
  have HT := Lib.hid ht
  clear hF hrv hraw0 ht
  have hf0 := @fld0
  go_enter Tryd.func5, Tryd.ntmps5
  go_wp2_with fail
  refine HF.out.mono ?_; rintro e wf ⟨es, FA, fc, ps, PA, pc, rfl, hv, hpv, hfr, hpr, hb, hcap, -, hown, his⟩
  have hbd := countV_bd rs
  have hlen : es.length = countV rs := (form_places hv).1
  have hn10 : es.length ≤ 10 := by omega
  have hn1 : 1 ≤ es.length := by omega
  have hB := form_base hv hfr
  have hfo := form_forms hv hfr
  obtain ⟨p, hp, hp4⟩ : ∃ p : Nat, pick a1 4 = (p : Int) ∧ p < 4 := by
    have := pick_bd a1 4 (by decide)
    exact ⟨(pick a1 4).toNat, by omega, by omega⟩
  have hpk : ∀ V, Calls Tryd.prog 8 #[.int .i64 a1, .int .i64 4] V fun e w' => e = .returned (.int .i64 (p : Int)) ∧ V = w' := fun V => by rw [← hp]; exact picked_any a1 4 V w1 (by decide) (by decide)
  obtain ⟨m, hm, hm1, hm4⟩ : ∃ m : Nat, (1 : Int) + (p : Int) = (m : Int) ∧ 1 ≤ m ∧ m ≤ 4 := ⟨1 + p, by omega, by omega, by omega⟩
  have hmw : IntKind.i64.wrap (1 + (p : Int)) = (m : Int) := by rw [← hm]; exact IntWalk.i64_in _ (by omega)
  have hR := ring_f hB hm1 hm4
  obtain ⟨ob, hob⟩ : ∃ ob, (Value.slice FA es.length fc).ownBlock = ob := ⟨_, rfl⟩
  obtain ⟨W1, hW1⟩ : ∃ V, wf.alloc (.cells #[.string ⟨#[114, 49]⟩, .string ⟨#[114, 50]⟩, .string ⟨#[114, 51]⟩, .string ⟨#[114, 52]⟩] 9) = V := ⟨_, rfl⟩
  have hb1 := b_new wf (.cells #[.string ⟨#[114, 49]⟩, .string ⟨#[114, 50]⟩, .string ⟨#[114, 51]⟩, .string ⟨#[114, 52]⟩] 9)
  have hn1a := World.alloc_heap_new wf (.cells #[.string ⟨#[114, 49]⟩, .string ⟨#[114, 50]⟩, .string ⟨#[114, 51]⟩, .string ⟨#[114, 52]⟩] 9)
  have hsz1 : W1.heap.size = wf.heap.size + 1 := by rw [← hW1]; simp
  rw [hW1] at hb1 hn1a
  have hobl : ∀ k, ob = some k → w.heap.size ≤ k ∧ k < wf.heap.size := fun k e => hown.lt k (hob.trans e)
  have hS : ∀ V, W1.grownBy V ob → ∀ i, i < 4 → V.cell? ⟨wf.heap.size, i, none⟩ = some (.string (rnm i)) := fun V hV i hi => by
    have e1 := (hV.block wf.heap.size (by omega) (fun e => by have := (hobl _ e.symm).2; omega)).trans hn1a
    unfold World.cell?
    rw [e1]
    match i, hi with
    | 0, _ => rfl
    | 1, _ => rfl
    | 2, _ => rfl
    | 3, _ => rfl
  have hR0 : RI w W1 ob es m 0 (.slice FA es.length fc) W1 := ⟨by
    rw [show ringL m 0 = [] from rfl, List.append_nil]; exact GenL.own_below hown hb1, ⟨rfl, rfl, rfl, Nat.le_refl _, fun _ _ _ => rfl⟩, .inl hob⟩
  have hdone : ∀ v wr, RI w W1 ob es m m v wr → ∃ g cap, v = .slice (some ⟨g, 0, none⟩) ((es ++ ringL m m).map FE.fd).length cap ∧ ((es ++ ringL m m).map FE.fd).length ≤ cap ∧ cap ≤ maxLen ∧ Flds wr (some ⟨g, 0, none⟩) ((es ++ ringL m m).map FE.fd) ∧ Forms wr ((es ++ ringL m m).map FE.fd) (xOf (es ++ ringL m m)) := fun v wr h => h.done hm1 hfo hb1 (by rw [← hob]; exact his) hm4
  have hbw : ∀ V, W1.grownBy V ob → Below w.heap.size w V := fun V hV => (b_trans hb hb1).grown hV (b_trans hb hb1).size (fun k e => (hobl k e).1)
  have hl0 : (es.map FE.fd).length = es.length := List.length_map _
  have hlf : ((es ++ ringL m m).map FE.fd).length = es.length + m := by rw [List.length_map, List.length_append, ringL_len]
  obtain ⟨i0, hi, hz0, hz1, hz2⟩ := FldU.info_parts9 FldU.infoFd9
  have HPk := Lib.hid hpk
  have HR := Lib.hid hR
  have HW1 := Lib.hid hW1
  have HS := Lib.hid hS
  have HR0 := Lib.hid hR0
  have HDone := Lib.hid hdone
  have HBw := Lib.hid hbw
  have HL0 := Lib.hid hl0
  have HLf := Lib.hid hlf
  have HObl := Lib.hid hobl
  have HS1 := Lib.hid hsz1
  clear hpk hR hW1 hS hR0 hdone hbw hl0 hlf hobl hsz1 hn1a hb1 hown his hB hfo hlen hbd hfr hpr hv hpv hob hp
  go_wp2_with (go_at_call 8; refine (HPk.out _).mono ?_; rintro e w5 ⟨rfl, rfl⟩)
  rw [HW1.out]
  go_loopw [5, 7, 8, 26] (fun f _ _ ii wr => ∃ (j : Nat) (A : Option Addr) (c : Nat), ii = .int .i64 j ∧ j ≤ m ∧ f = .slice A (es.length + j) c ∧ RI w W1 ob es m j (.slice A (es.length + j) c) wr) (fun _ _ _ ii _ => m - (intOf ii).toNat)
  case atStart => exact ⟨0, FA, fc, rfl, by omega, rfl, HR0.out⟩
  case round =>
    obtain ⟨j, A, c, rfl, hj, rfl, hI⟩ := hrel
    by_cases hjm : j < m
    · obtain ⟨q, hq⟩ : ∃ q : Nat, (j + 1) % m = q := ⟨_, rfl⟩
      have hqm : q < m := by rw [← hq]; exact Nat.mod_lt _ (by omega)
      have hrem : ((j : Int) + 1).tmod (m : Int) = (q : Int) := by
        have := Int.ofNat_tmod (j + 1) m
        rw [hq] at this
        rw [this]; rfl
      have c1 := HS.out wr hI.grw j (by omega)
      have c2 := HS.out wr hI.grw q (by omega)
      have hfd : fdC (ringE m j).fd = [.string (rnm j), .int .i64 2, .int .i64 1, .int .i64 2, .int .i64 0, .int .i64 0, .string ⟨#[]⟩, .string (rnm q), .slice none 0 0] := by
        unfold ringE fdC FE.fd refX
        rw [hq]; rfl
      have hstep : ∀ gg cap w6, w6.ownsRow w.heap.size 36 9 (.slice (some ⟨gg, 0, none⟩) (es.length + j + 1) cap) (es.length + j + 1) (feC (es ++ ringL m j) ++ [.string (rnm j), .int .i64 2, .int .i64 1, .int .i64 2, .int .i64 0, .int .i64 0, .string ⟨#[]⟩, .string (rnm q), .slice none 0 0]) → (wr.alloc (.cells #[.string (rnm j), .int .i64 2, .int .i64 1, .int .i64 2, .int .i64 0, .int .i64 0, .string ⟨#[]⟩, .string (rnm q), .slice none 0 0] 36)).grownBy w6 (Value.slice A (es.length + j) c).ownBlock → ((Value.slice A (es.length + j) c).ownBlock = some gg ∨ gg = wr.heap.size + 1) → RI w W1 ob es m (j + 1) (.slice (some ⟨gg, 0, none⟩) (es.length + j + 1) cap) w6 := fun gg cap w6 h1 h2 h3 => hI.step (by rw [hfd]; exact h1) h2 h3
      have hszw := (HBw.out wr hI.grw).size
      have hji : (j : Int) < (m : Int) := by omega
      have hqi : (q : Int) < (m : Int) := by omega
      have hmi : ¬ (m : Int) = 0 := by omega
      have HOwn := Lib.hid hI.own
      have HStep := Lib.hid hstep
      generalize feC (es ++ ringL m j) = L at HOwn HStep
      generalize rnm j = nj at c1 HStep
      generalize rnm q = nq at c2 HStep
      clear hstep hfd hI hq
      go_wp2_with (at_builtin; refine wpList_append_lies _ rfl _ _ 23 rfl w.heap.size 36 i0 _ 9 112 Tryd.underlying23 hi hz0 hz1 hz2 rfl (by decide) (.slice A (es.length + j) c) (es.length + j) L rfl (HOwn.out.alloc _) ⟨wr.heap.size, 0, none⟩ 1 1 [.string nj, .int .i64 2, .int .i64 1, .int .i64 2, .int .i64 0, .int .i64 0, .string ⟨#[]⟩, .string nq, .slice none 0 0] rfl rfl (World.news_of_block (cs := #[.string nj, .int .i64 2, .int .i64 1, .int .i64 2, .int .i64 0, .int .i64 0, .string ⟨#[]⟩, .string nq, .slice none 0 0]) (t := 36) (fr := (0, 0)) (World.alloc_heap_new wr _)) (by simp [Value.oneCell']) (by decide) (by unfold maxLen; omega) (by omega) (by simp; omega) (wr.heap.size + 1) (by simp) ?_)
      intro gg cap w6 hown6 hgrow6 hat6 _
      have hN := HStep.out gg cap w6 hown6 hgrow6 hat6
      have HN := Lib.hid hN
      clear hN hown6 hgrow6 hat6
      go_wp2_with fail
      go_roundw
      case rel => exact ⟨j + 1, _, _, by go_num, by omega, rfl, HN.out⟩
      case measure => simp [intOf]; omega
    · have ejm : j = m := by omega
      rw [ejm] at hI ⊢
      obtain ⟨g, cap, hv9, h5, h6, hfl, hfo⟩ := HDone.out _ _ hI
      injection hv9 with hA _ hcc
      subst hA hcc
      have hbw2 := HBw.out wr hI.grw
      have hof := ring_of HR.out g c wr hfl hfo (HT.out.below hbw2) ⟨h5, h6⟩
      rw [HLf.out] at hof
      have hfind : ∀ V, Below wr.heap.size wr V → ∀ i, i < m → Calls Tryd.prog 14 #[.slice (some ⟨g, 0, none⟩) (es.length + m) c, .string (rnm i)] V fun e w' => e = .returned (.tuple #[.int .i64 (es.length + i : Nat), .int .i64 0]) ∧ V = w' := fun V hV i hi => by
        have := ring_find HR.out g c V (hfl.below hV) i hi
        rw [HLf.out, HL0.out] at this
        exact this
      have hsrc : ∀ V, Below wr.heap.size wr V → ∀ i, i < m → (Instr.loadAt 34 (.pointer (some ⟨g, (es.length + i) * 9 + 3, none⟩))).run Tryd.prog V = .ok (.agg #[.int .i64 2, .int .i64 0, .int .i64 0, .string ⟨#[]⟩, .string (rnm ((i + 1) % m)), .slice none 0 0]) V := fun V hV i hi => ring_src es m g i V (hfl.below hV) hi
      obtain ⟨n2, hn2⟩ : ∃ n2, es.length + m = n2 := ⟨_, rfl⟩
      rw [hn2] at hof hfind ⊢
      have HOf := Lib.hid hof
      have HFind := Lib.hid hfind
      have HSrc := Lib.hid hsrc
      have HB2 := Lib.hid hbw2
      have HN2 := Lib.hid hn2
      have HTr := Lib.hid (HT.out.below hbw2)
      have tl : ((m : Int) != (m : Int)) = false := by simp
      obtain ⟨wv, rfl⟩ : ∃ V, V = wr := ⟨_, rfl⟩
      clear hof hfind hsrc hbw2 hn2 hfl hfo h5 h6 hI ejm hj hjm HDone HBw HR HL0 HLf HObl HS HR0 HW1 HPk
      go_wp2_with fail
      refine HOf.out.mono ?_; rintro e w2 ⟨g2, c2, rfl, hcell, hb2⟩
      have hrk := RkK.ranked_any w2 (HTr.out.below hb2)
      have HRk := Lib.hid hrk
      have HCell := Lib.hid hcell
      have HB22 := Lib.hid hb2
      clear hrk hcell hb2
      go_wp2_with (go_at_call 12; refine HRk.out.mono ?_; rintro e w3 ⟨rfl, hb3⟩; have HB3 := Lib.hid hb3; clear hb3)
      go_loopw [12, 13, 14, 15, 72] (fun _ _ _ _ ii V => ∃ i : Nat, ii = .int .i64 i ∧ i ≤ m ∧ Below w3.heap.size w3 V) (fun _ _ _ _ ii _ => m - (intOf ii).toNat)
      case atStart => exact ⟨0, rfl, by omega, Below.refl _ _⟩
      case round =>
        obtain ⟨iz, rfl, hile, hbr⟩ := hrel
        obtain ⟨W4, rfl⟩ : ∃ V, V = wr := ⟨_, rfl⟩
        have hb2r : Below w2.heap.size w2 W4 := b_trans HB3.out hbr
        have hbvr : Below wv.heap.size wv W4 := b_trans HB22.out hb2r
        have HBr := Lib.hid hbr
        by_cases him : iz < m
        · obtain ⟨q, hq⟩ : ∃ q : Nat, (iz + 1) % m = q := ⟨_, rfl⟩
          have hqm : q < m := by rw [← hq]; exact Nat.mod_lt _ (by omega)
          have hrem : ((iz : Int) + 1).tmod (m : Int) = (q : Int) := by
            have := Int.ofNat_tmod (iz + 1) m
            rw [hq] at this
            rw [this]; rfl
          have hcs : ∀ V : World, Below W4.heap.size W4 V → ∀ j, j < m → V.cell? ⟨g2, j, none⟩ = some (.string (rnm j)) := fun V hV j hj => by
            have h1 := HCell.out j hj
            exact ((b_trans hb2r hV).cell (p := ⟨g2, j, none⟩) (World.block_lt_of_cell? w2 _ h1)).trans h1
          have ci := hcs W4 (Below.refl _ _) iz him
          have hfi := HFind.out W4 hbvr iz him
          have hld := fun V (hV : Below W4.heap.size W4 V) => HSrc.out V (b_trans hbvr hV) iz him
          rw [hq] at hld
          have hhas := ring_has q (by omega)
          have hcq := fun V (hV : Below W4.heap.size W4 V) => hcs V hV q hqm
          obtain ⟨kk, hkk⟩ : ∃ kk, es.length + iz = kk := ⟨_, rfl⟩
          have hkn : kk < n2 := by have := HN2.out; omega
          rw [hkk] at hfi hld
          generalize rnm q = nq at hld hhas hcq
          generalize rnm iz = nI at hfi ci
          have HFi := Lib.hid hfi
          have HLd := Lib.hid hld
          have HHs := Lib.hid hhas
          have HCq := Lib.hid hcq
          have hii : (iz : Int) < (m : Int) := by omega
          clear hfi hld hhas hcq hcs hq hkk
          go_upto_region 15 with (go_at_call 14; refine HFi.out.mono ?_; rintro e w5 ⟨rfl, rfl⟩)
          have hIx1 : ∀ V : World, (Instr.indexAt 23 (.slice (some ⟨g, 0, none⟩) n2 c) (.int .i64 (kk : Nat))).run Tryd.prog V = .ok (.pointer (some ⟨g, kk * 9, none⟩)) V := fun V => by simp [go_sem, Tryd.underlying23, hkn]
          have hF3 : ∀ V : World, (Instr.fieldAt 36 (.pointer (some ⟨g, kk * 9, none⟩)) 3).run Tryd.prog V = .ok (.pointer (some ⟨g, kk * 9 + 3, none⟩)) V := fun V => by simp [go_sem]
          have hAdd : ∀ V : World, (do eqGuard .add 3 (.tmp 92) (.const (.int .i64 1)) (.int .i64 (iz : Nat)) (.int .i64 1); binOp .add 3 (.int .i64 (iz : Nat)) (.int .i64 1) : Sem Value).run Tryd.prog V = .ok (.int .i64 ((iz : Int) + 1)) V := fun V => by simp [go_sem, eqGuard, IntWalk.i64_in ((iz : Int) + 1) (by omega)]
          have hRem : ∀ V : World, (do eqGuard .rem 3 (.tmp 93) (.tmp 95) (.int .i64 ((iz : Int) + 1)) (.int .i64 (m : Nat)); binOp .rem 3 (.int .i64 ((iz : Int) + 1)) (.int .i64 (m : Nat)) : Sem Value).run Tryd.prog V = .ok (.int .i64 (q : Nat)) V := fun V => by
            have hmi : ¬ (m : Int) = 0 := by omega
            have hm0 : ¬ m = 0 := by omega
            simp [go_sem, eqGuard, hrem, hm0]
          have hIx2 : ∀ V : World, (Instr.indexAt 41 (.slice (some ⟨g2, 0, none⟩) m c2) (.int .i64 (q : Nat))).run Tryd.prog V = .ok (.pointer (some ⟨g2, q, none⟩)) V := fun V => by simp [go_sem, Tryd.underlying41, hqm]
          have hLs : ∀ V : World, Below W4.heap.size W4 V → (Instr.loadAt 9 (.pointer (some ⟨g2, q, none⟩))).run Tryd.prog V = .ok (.string nq) V := fun V hV => by
            have q1 := HCq.out V hV
            simp [go_sem, q1]
          have hNeq : ∀ V : World, (do eqGuard .neq 37 (.tmp 83) (.const (.int .i64 0)) (.int .i64 0) (.int .i64 0); binOp .neq 37 (.int .i64 0) (.int .i64 0) : Sem Value).run Tryd.prog V = .ok (.bool false) V := fun V => by simp [go_sem, eqGuard]
          have hNot : ∀ V : World, (Op.unary .not (.bool true)).run Tryd.prog V = .ok (.bool false) V := fun V => by kernel_rfl
          have hen1 : ∀ (args : Array Value) (w : World), (callFunc 13 args).run Tryd.prog w = .ok (.enter 13 args) w := fun _ _ => by kernel_rfl
          refine region_fill [(0, 83), (1, 84), (2, 85), (3, 86), (4, 87), (5, 88), (6, 89), (7, 90), (8, 91), (9, 92), (10, 93), (11, 94), (12, 95), (13, 96), (14, 97), (15, 98), (16, 99), (17, 100), (18, 101)] (JL (fun i => match i with | 0 => .int .i64 0 | 1 => .bool false | 2 => .bool false | 3 => .slice (some ⟨g, 0, none⟩) n2 c | 4 => .int .i64 (kk : Nat) | 5 => .pointer (some ⟨g, kk * 9, none⟩) | 6 => .pointer (some ⟨g, kk * 9 + 3, none⟩) | 7 => .agg #[.int .i64 2, .int .i64 0, .int .i64 0, .string ⟨#[]⟩, .string nq, .slice none 0 0] | 8 => .slice (some ⟨g2, 0, none⟩) m c2 | 9 => .int .i64 (iz : Nat) | 10 => .int .i64 ((iz : Int) + 1) | 11 => .slice (some ⟨g2, 0, none⟩) m c2 | 12 => .int .i64 (m : Nat) | 13 => .int .i64 (q : Nat) | 14 => .pointer (some ⟨g2, q, none⟩) | 15 => .string nq | 16 => .bool true | 17 => .bool false | 18 => .bool false | _ => undef) 19 (fun V => Below W4.heap.size W4 V) (fun V => Below W4.heap.size W4 V)) (fun f => by simp only [fill, Act.put, List.setIfInBounds_toArray, List.set_cons_zero, List.set_cons_succ]; rfl) (by kernel_rfl) (by kernel_rfl) (by kernel_rfl) (fun f => jl_start (b_drew (Below.refl _ _)) f) ?_ ?_
          · intro F hFr
            refine ⟨?_, ?_, ?_, ?_, ?_, ?_, ?_, ?_, ?_, ?_, ?_, ?_, ?_, ?_, ?_, ?_, ?_, ?_, ?_, trivial⟩
            · as_aux_lemma =>
              intro D f wx hJ hD hdep K9 hK
              exact stepF_val rfl (op_move rfl (v := .int .i64 0) (by rw [hFr]; kernel_rfl)) (by rw [hFr, hFr]; kernel_rfl) (hK (updf f 0 (.int .i64 0)) _ (jl_pure hJ (by decide) hD rfl))
            · as_aux_lemma =>
              intro D f wx hJ hD hdep K9 hK
              have e0 : f 0 = .int .i64 0 := hJ.1 0 (by decide) (done hdep 0 (by kernel_rfl))
              exact stepF_val rfl (op_bin rfl (p := .int .i64 0) (q := .int .i64 0) ((show _ = f 0 from by rw [hFr]; kernel_rfl).trans e0) (by rw [hFr]; kernel_rfl) (hNeq wx)) (by rw [hFr, hFr]; kernel_rfl) (hK (updf f 1 (.bool false)) _ (jl_pure hJ (by decide) hD rfl))
            · as_aux_lemma =>
              intro D f wx hJ hD hdep K9 hK
              have e1 : f 1 = .bool false := hJ.1 1 (by decide) (done hdep 1 (by kernel_rfl))
              exact stepF_val rfl (op_move rfl (v := .bool false) ((show _ = f 1 from by rw [hFr]; kernel_rfl).trans e1)) (by rw [hFr, hFr]; kernel_rfl) (hK (updf f 2 (.bool false)) _ (jl_pure hJ (by decide) hD rfl))
            · as_aux_lemma =>
              intro D f wx hJ hD hdep K9 hK
              have e2 : f 2 = .bool false := hJ.1 2 (by decide) (done hdep 2 (by kernel_rfl))
              exact stepF_valW (wanted_on rfl (yields_of (show _ = some (f 2) from by rw [hFr]; kernel_rfl) e2)) (op_move rfl (v := .slice (some ⟨g, 0, none⟩) n2 c) (by rw [hFr]; kernel_rfl)) (by rw [hFr, hFr]; kernel_rfl) (hK (updf f 3 (.slice (some ⟨g, 0, none⟩) n2 c)) _ (jl_pure hJ (by decide) hD rfl))
            · as_aux_lemma =>
              intro D f wx hJ hD hdep K9 hK
              have e2 : f 2 = .bool false := hJ.1 2 (by decide) (done hdep 2 (by kernel_rfl))
              exact stepF_valW (wanted_on rfl (yields_of (show _ = some (f 2) from by rw [hFr]; kernel_rfl) e2)) (op_move rfl (v := .int .i64 (kk : Nat)) (by rw [hFr]; kernel_rfl)) (by rw [hFr, hFr]; kernel_rfl) (hK (updf f 4 (.int .i64 (kk : Nat))) _ (jl_pure hJ (by decide) hD rfl))
            · as_aux_lemma =>
              intro D f wx hJ hD hdep K9 hK
              have e2 : f 2 = .bool false := hJ.1 2 (by decide) (done hdep 2 (by kernel_rfl))
              have e3 : f 3 = .slice (some ⟨g, 0, none⟩) n2 c := hJ.1 3 (by decide) (done hdep 3 (by kernel_rfl))
              have e4 : f 4 = .int .i64 (kk : Nat) := hJ.1 4 (by decide) (done hdep 4 (by kernel_rfl))
              exact stepF_valW (wanted_on rfl (yields_of (show _ = some (f 2) from by rw [hFr]; kernel_rfl) e2)) (op_index rfl (p := .slice (some ⟨g, 0, none⟩) n2 c) (q := .int .i64 (kk : Nat)) ((show _ = f 3 from by rw [hFr]; kernel_rfl).trans e3) ((show _ = f 4 from by rw [hFr]; kernel_rfl).trans e4) (hIx1 wx)) (by rw [hFr, hFr]; kernel_rfl) (hK (updf f 5 (.pointer (some ⟨g, kk * 9, none⟩))) _ (jl_pure hJ (by decide) hD rfl))
            · as_aux_lemma =>
              intro D f wx hJ hD hdep K9 hK
              have e2 : f 2 = .bool false := hJ.1 2 (by decide) (done hdep 2 (by kernel_rfl))
              have e5 : f 5 = .pointer (some ⟨g, kk * 9, none⟩) := hJ.1 5 (by decide) (done hdep 5 (by kernel_rfl))
              exact stepF_valW (wanted_on rfl (yields_of (show _ = some (f 2) from by rw [hFr]; kernel_rfl) e2)) (op_field rfl (p := .pointer (some ⟨g, kk * 9, none⟩)) ((show _ = f 5 from by rw [hFr]; kernel_rfl).trans e5) (hF3 wx)) (by rw [hFr, hFr]; kernel_rfl) (hK (updf f 6 (.pointer (some ⟨g, kk * 9 + 3, none⟩))) _ (jl_pure hJ (by decide) hD rfl))
            · as_aux_lemma =>
              intro D f wx hJ hD hdep K9 hK
              have e2 : f 2 = .bool false := hJ.1 2 (by decide) (done hdep 2 (by kernel_rfl))
              have e6 : f 6 = .pointer (some ⟨g, kk * 9 + 3, none⟩) := hJ.1 6 (by decide) (done hdep 6 (by kernel_rfl))
              obtain ⟨hDE, hA⟩ := jl_live hJ (by decide) hD
              exact stepF_valW (wanted_on rfl (yields_of (show _ = some (f 2) from by rw [hFr]; kernel_rfl) e2)) (op_load rfl (p := .pointer (some ⟨g, kk * 9 + 3, none⟩)) ((show _ = f 6 from by rw [hFr]; kernel_rfl).trans e6) (HLd.out wx hA)) (by rw [hFr, hFr]; kernel_rfl) (hK (updf f 7 (.agg #[.int .i64 2, .int .i64 0, .int .i64 0, .string ⟨#[]⟩, .string nq, .slice none 0 0])) _ (jl_pure hJ (by decide) hD rfl))
            · as_aux_lemma =>
              intro D f wx hJ hD hdep K9 hK
              have e2 : f 2 = .bool false := hJ.1 2 (by decide) (done hdep 2 (by kernel_rfl))
              exact stepF_valW (wanted_on rfl (yields_of (show _ = some (f 2) from by rw [hFr]; kernel_rfl) e2)) (op_move rfl (v := .slice (some ⟨g2, 0, none⟩) m c2) (by rw [hFr]; kernel_rfl)) (by rw [hFr, hFr]; kernel_rfl) (hK (updf f 8 (.slice (some ⟨g2, 0, none⟩) m c2)) _ (jl_pure hJ (by decide) hD rfl))
            · as_aux_lemma =>
              intro D f wx hJ hD hdep K9 hK
              have e2 : f 2 = .bool false := hJ.1 2 (by decide) (done hdep 2 (by kernel_rfl))
              exact stepF_valW (wanted_on rfl (yields_of (show _ = some (f 2) from by rw [hFr]; kernel_rfl) e2)) (op_move rfl (v := .int .i64 (iz : Nat)) (by rw [hFr]; kernel_rfl)) (by rw [hFr, hFr]; kernel_rfl) (hK (updf f 9 (.int .i64 (iz : Nat))) _ (jl_pure hJ (by decide) hD rfl))
            · as_aux_lemma =>
              intro D f wx hJ hD hdep K9 hK
              have e2 : f 2 = .bool false := hJ.1 2 (by decide) (done hdep 2 (by kernel_rfl))
              have e9 : f 9 = .int .i64 (iz : Nat) := hJ.1 9 (by decide) (done hdep 9 (by kernel_rfl))
              exact stepF_valW (wanted_on rfl (yields_of (show _ = some (f 2) from by rw [hFr]; kernel_rfl) e2)) (op_bin rfl (p := .int .i64 (iz : Nat)) (q := .int .i64 1) ((show _ = f 9 from by rw [hFr]; kernel_rfl).trans e9) (by rw [hFr]; kernel_rfl) (hAdd wx)) (by rw [hFr, hFr]; kernel_rfl) (hK (updf f 10 (.int .i64 ((iz : Int) + 1))) _ (jl_pure hJ (by decide) hD rfl))
            · as_aux_lemma =>
              intro D f wx hJ hD hdep K9 hK
              have e2 : f 2 = .bool false := hJ.1 2 (by decide) (done hdep 2 (by kernel_rfl))
              exact stepF_valW (wanted_on rfl (yields_of (show _ = some (f 2) from by rw [hFr]; kernel_rfl) e2)) (op_move rfl (v := .slice (some ⟨g2, 0, none⟩) m c2) (by rw [hFr]; kernel_rfl)) (by rw [hFr, hFr]; kernel_rfl) (hK (updf f 11 (.slice (some ⟨g2, 0, none⟩) m c2)) _ (jl_pure hJ (by decide) hD rfl))
            · as_aux_lemma =>
              intro D f wx hJ hD hdep K9 hK
              have e2 : f 2 = .bool false := hJ.1 2 (by decide) (done hdep 2 (by kernel_rfl))
              have e11 : f 11 = .slice (some ⟨g2, 0, none⟩) m c2 := hJ.1 11 (by decide) (done hdep 11 (by kernel_rfl))
              exact stepF_valW (wanted_on rfl (yields_of (show _ = some (f 2) from by rw [hFr]; kernel_rfl) e2)) (op_len2 rfl Tryd.underlying41 ((show _ = f 11 from by rw [hFr]; kernel_rfl).trans e11)) (by rw [hFr, hFr]; kernel_rfl) (hK (updf f 12 (.int .i64 (m : Nat))) _ (jl_pure hJ (by decide) hD rfl))
            · as_aux_lemma =>
              intro D f wx hJ hD hdep K9 hK
              have e2 : f 2 = .bool false := hJ.1 2 (by decide) (done hdep 2 (by kernel_rfl))
              have e10 : f 10 = .int .i64 ((iz : Int) + 1) := hJ.1 10 (by decide) (done hdep 10 (by kernel_rfl))
              have e12 : f 12 = .int .i64 (m : Nat) := hJ.1 12 (by decide) (done hdep 12 (by kernel_rfl))
              exact stepF_valW (wanted_on rfl (yields_of (show _ = some (f 2) from by rw [hFr]; kernel_rfl) e2)) (op_bin rfl (p := .int .i64 ((iz : Int) + 1)) (q := .int .i64 (m : Nat)) ((show _ = f 10 from by rw [hFr]; kernel_rfl).trans e10) ((show _ = f 12 from by rw [hFr]; kernel_rfl).trans e12) (hRem wx)) (by rw [hFr, hFr]; kernel_rfl) (hK (updf f 13 (.int .i64 (q : Nat))) _ (jl_pure hJ (by decide) hD rfl))
            · as_aux_lemma =>
              intro D f wx hJ hD hdep K9 hK
              have e2 : f 2 = .bool false := hJ.1 2 (by decide) (done hdep 2 (by kernel_rfl))
              have e8 : f 8 = .slice (some ⟨g2, 0, none⟩) m c2 := hJ.1 8 (by decide) (done hdep 8 (by kernel_rfl))
              have e13 : f 13 = .int .i64 (q : Nat) := hJ.1 13 (by decide) (done hdep 13 (by kernel_rfl))
              exact stepF_valW (wanted_on rfl (yields_of (show _ = some (f 2) from by rw [hFr]; kernel_rfl) e2)) (op_index rfl (p := .slice (some ⟨g2, 0, none⟩) m c2) (q := .int .i64 (q : Nat)) ((show _ = f 8 from by rw [hFr]; kernel_rfl).trans e8) ((show _ = f 13 from by rw [hFr]; kernel_rfl).trans e13) (hIx2 wx)) (by rw [hFr, hFr]; kernel_rfl) (hK (updf f 14 (.pointer (some ⟨g2, q, none⟩))) _ (jl_pure hJ (by decide) hD rfl))
            · as_aux_lemma =>
              intro D f wx hJ hD hdep K9 hK
              have e2 : f 2 = .bool false := hJ.1 2 (by decide) (done hdep 2 (by kernel_rfl))
              have e14 : f 14 = .pointer (some ⟨g2, q, none⟩) := hJ.1 14 (by decide) (done hdep 14 (by kernel_rfl))
              obtain ⟨hDE, hA⟩ := jl_live hJ (by decide) hD
              exact stepF_valW (wanted_on rfl (yields_of (show _ = some (f 2) from by rw [hFr]; kernel_rfl) e2)) (op_load rfl (p := .pointer (some ⟨g2, q, none⟩)) ((show _ = f 14 from by rw [hFr]; kernel_rfl).trans e14) (hLs wx hA)) (by rw [hFr, hFr]; kernel_rfl) (hK (updf f 15 (.string nq)) _ (jl_pure hJ (by decide) hD rfl))
            · as_aux_lemma =>
              intro D f wx hJ hD hdep K9 hK
              have e2 : f 2 = .bool false := hJ.1 2 (by decide) (done hdep 2 (by kernel_rfl))
              have e7 : f 7 = .agg #[.int .i64 2, .int .i64 0, .int .i64 0, .string ⟨#[]⟩, .string nq, .slice none 0 0] := hJ.1 7 (by decide) (done hdep 7 (by kernel_rfl))
              have e15 : f 15 = .string nq := hJ.1 15 (by decide) (done hdep 15 (by kernel_rfl))
              obtain ⟨hDE, hA⟩ := jl_live hJ (by decide) hD
              refine stepF_callW (wanted_on rfl (yields_of (show _ = some (f 2) from by rw [hFr]; kernel_rfl) e2)) (op_enter rfl rfl (xs := #[.agg #[.int .i64 2, .int .i64 0, .int .i64 0, .string ⟨#[]⟩, .string nq, .slice none 0 0], .string nq]) (by rw [← e7, ← e15, hFr]; kernel_rfl) hen1) (HHs.out wx) ?_
              rintro e w5 ⟨rfl, hb5⟩
              have hk := hK (updf f 16 (.bool true)) w5 (jl_step hJ (by decide) hD rfl (b_trans hA hb5))
              refine ⟨_, rfl, ?_⟩
              rw [hFr] at hk ⊢
              exact hk
            · as_aux_lemma =>
              intro D f wx hJ hD hdep K9 hK
              have e2 : f 2 = .bool false := hJ.1 2 (by decide) (done hdep 2 (by kernel_rfl))
              have e16 : f 16 = .bool true := hJ.1 16 (by decide) (done hdep 16 (by kernel_rfl))
              exact stepF_valW (wanted_on rfl (yields_of (show _ = some (f 2) from by rw [hFr]; kernel_rfl) e2)) (op_unop rfl (p := .bool true) ((show _ = f 16 from by rw [hFr]; kernel_rfl).trans e16) (hNot wx)) (by rw [hFr, hFr]; kernel_rfl) (hK (updf f 17 (.bool false)) _ (jl_pure hJ (by decide) hD rfl))
            · as_aux_lemma =>
              intro D f wx hJ hD hdep K9 hK
              have e2 : f 2 = .bool false := hJ.1 2 (by decide) (done hdep 2 (by kernel_rfl))
              have e17 : f 17 = .bool false := hJ.1 17 (by decide) (done hdep 17 (by kernel_rfl))
              exact stepF_val rfl (op_pick rfl (b := false) ((show _ = f 2 from by rw [hFr]; kernel_rfl).trans e2) ((show _ = f 17 from by rw [hFr]; kernel_rfl).trans e17)) (by rw [hFr, hFr]; kernel_rfl) (hK (updf f 18 (.bool false)) _ (jl_pure hJ (by decide) hD rfl))
          · intro D f wx hJ hall
            have e18 : f 18 = .bool false := hJ.1 18 (by decide) (hall 18 (by decide))
            have hbw : Below W4.heap.size W4 wx := by
              cases h19 : D 19 with
              | false => exact hJ.2.1 h19
              | true => exact (hJ.2.2 h19).2
            have HB5 := Lib.hid (b_trans HBr.out hbw)
            rw [e18]
            clear e18 hbw hJ hall
            go_wp2_with fail
            go_roundw
            case rel => exact ⟨iz + 1, by go_num, by omega, HB5.out⟩
            case measure => simp [intOf]; omega
        · have HEnd := Lib.hid (b_trans HB2.out (b_trans HB22.out hb2r))
          clear hb2r hbvr hbr
          go_wp2_with fail
          go_ret
          exact ⟨rfl, HEnd.out⟩

theorem not_of {W : World} (h : laidMetH Tryd.prog Rows.rankCyclesRow.laid W) : ExN.Tab W := by
  have h0 : laidMet Tryd.prog Rows.rankCyclesRow.laid W := by rw [MakeChecks.laidMetH_plain _ _ _ (by kernel_rfl)] at h; exact h
  have h1 := h0
  exact NotTab.is_of_head (g := 0) (t := 116) (e := 115) (n := 19) (by kernel_rfl) (by kernel_rfl) Tryd.underlying116 (by kernel_rfl) Tryd.underlying115 (by kernel_rfl) rfl rfl rfl Tryd.underlying9 Tryd.underlying3 Tryd.underlying3 (by kernel_rfl) (by kernel_rfl) (by kernel_rfl) h1

/-! ### The row's step -/
set_option maxRecDepth 100000 in
theorem lifted (os : Os) (started : os.Started) (H : Type) (enc : TypeId × Value → H) :
    ReturnsInHanded {} Tryd.checked os 5 .any (fun w args => (Rows.rankCyclesSpec.pre enc Tryd.prog Tryd.f5 [] false w args ∧ laidMetH Tryd.prog Rows.rankCyclesRow.laid w) ∧ sizedMet enc Tryd.prog Tryd.f5 (OpenSpec.ofChange Rows.rankCyclesSpec) false w args) (Rows.rankCyclesSpec.post enc Tryd.prog Tryd.f5 false true false false) := by
  refine returnsInHanded_of_change_and (C := Tryd.checked) (X := fun w _ => laidMetH Tryd.prog Rows.rankCyclesRow.laid w) (fun _ _ _ hh h => h.of_heap hh) own started (by kernel_rfl) Tryd.func5
    (ChangeSpec.witness_shaped (enc := enc) (C := Tryd.checked) (os := os) (X := fun w _ => laidMetH Tryd.prog Rows.rankCyclesRow.laid w) false (World.laidAll Tryd.prog os Rows.rankCyclesRow.laid) #[.slice none 0 0, .int .i64 0] 8 (World.laidAll_os _ _ _) (World.shaped_of_ZipB (by kernel_rfl) (by kernel_rfl)) (by kernel_rfl) (by kernel_rfl) (by kernel_rfl) (by rw [MakeChecks.laidMetH_plain _ _ _ (by kernel_rfl)]; exact laidMet_laidAll _ (by kernel_rfl) (by kernel_rfl))) ?_
  intro W base args ds gs before hval0 hW hcnd hsz hL _
  have hval : ∀ (j : Nat) t v, Tryd.f5.params[j]? = some t → args[j]? = some v → Value.okWide Tryd.prog W .any base t v := hval0
  have hW' := hW
  obtain ⟨p, q, hA0, hV, rfl, hfz, hnd⟩ := hW
  have hA : DataW.TrodAll enc Tryd.prog W 0 (fun _ => true) true Tryd.f5.params.toList args.toList ds p := hA0
  rw [Tryd.params5] at hA hval
  obtain ⟨v0, vs0, d0, ds0, p0, q0, hargs, rfl, rfl, h0, r0⟩ := trodAll_cons hA
  obtain ⟨v1, vs1, d1, ds1, p1, q1, rfl, rfl, rfl, h1, r1⟩ := trodAll_cons r0
  obtain ⟨rfl, rfl, rfl⟩ := trodAll_nil r1
  obtain rfl : args = #[v0, v1] := by cases args; simp_all
  obtain ⟨rfl, rfl⟩ := trodVars_none hV
  have k0 := h0
  have lt0 : ∀ x ∈ p0, x.block < W.heap.size := by obtain ⟨m, hm⟩ := k0; exact DataW.trod_lt m _ _ _ hm
  obtain ⟨A0, n0, c0, rfl, hraw0⟩ := RawO.open_raws (hval 0 22 v0 rfl rfl) h0
  have k1 := h1
  have lt1 : ∀ x ∈ p1, x.block < W.heap.size := by obtain ⟨m, hm⟩ := k1; exact DataW.trod_lt m _ _ _ hm
  obtain ⟨a1, rfl, rfl, rfl, w1⟩ := open_int Tryd.underlying3 (hval 1 3 v1 rfl rfl) h1
  clear hA0 hval0
  refine (walk A0 n0 c0 a1 w1 W hraw0 (not_of hL)).mono fun e W' ⟨he, bel⟩ => ?_
  subst he
  exact ⟨_, rfl, _, _, _, [], _, [], hW', trodAll_mk1 (shut_bool Tryd.underlying4 _), (trodAll_cons_mk (Below.trod laidOut (by kernel_rfl) (of_decide_eq_true (by kernel_rfl)) k0 bel lt0) (trodAll_cons_mk (Below.trod laidOut (by kernel_rfl) (of_decide_eq_true (by kernel_rfl)) k1 bel lt1) trodAll_mk0)), rfl, bel.frame _, fun h => by cases h⟩

theorem over : Rows.rankCyclesRow.holds Tryd.pinned (OpenSpec.ofChange Rows.rankCyclesSpec) :=
  OpenClaim.holds_of_wide 5 Tryd.f5 rfl rfl rfl rfl rfl rfl rfl ⟨rfl, rfl, rfl, rfl, rfl⟩ rfl rfl rfl rfl rfl (by kernel_rfl) Tryd.func5 (by kernel_rfl)
    (of_decide_eq_true (by kernel_rfl)) (by unfold Func.isWrapper; first | (rw [if_pos (by decide +kernel)]; kernel_rfl) | (rw [if_neg (by decide +kernel)]; exact ⟨rfl, rfl⟩))
    (fun os started H enc _ => lifted os started H enc)

/-- The tied card. -/
theorem proved : Rows.RankCyclesCardSaid :=
  Claim7.holds_tied_plain_at .later [] [.data] true (true, "30ed86a35aef7f2b7b86e44c87657eee70b397213ee416dc71cb93ee7c55c37e") false
    over (fun _ h => by cases h) (by kernel_rfl) (fun _ h => by cases h) rankCycles_row_tie rfl ⟨rfl, rfl⟩ (by kernel_rfl) rfl
    (fun f fn hf hfn => by
      obtain rfl : f = 5 := Option.some.inj ((show Tryd.prog.funcNamed "lychway/lychwaykeep.RankCycles" = some 5 by kernel_rfl).symm.trans hf) |>.symm
      obtain rfl : fn = Tryd.f5 := (Option.some.inj (Tryd.func5.symm.trans hfn)).symm
      exact ⟨by kernel_rfl, fun j t ht => by
        rw [Tryd.params5] at ht
        have hm : t ∈ [22, 3] := by simpa using Array.mem_of_getElem? ht
        have hall : ([22, 3].all fun u => !Tryd.prog.wantsStandIn u) = true := by kernel_rfl
        exact (show Tryd.prog.wantsStandIn t = false by simpa using List.all_eq_true.1 hall t hm)⟩)
    (by kernel_rfl)
#print axioms proved
end Go.Proofs.YtdndphagfohpnaaDoor.rankCycles
