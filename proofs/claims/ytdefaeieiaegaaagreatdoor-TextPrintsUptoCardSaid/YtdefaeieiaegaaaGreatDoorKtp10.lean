/- TyRef: what these laws name of them. -/
import Derived.Deep.DeepCutAuto
import Derived.Deep.QuietTactic
import Derived.BigQuiet
import Derived.WalkSpells
import Derived.WalkLawsBesides
import Derived.IntWalk
import Derived.Maps.Own
import Derived.Maps.OwnSet
import Derived.Maps.AppendAt
import Derived.Maps.Range
import Derived.Maps.RangeWalk
import Derived.Laws.OwnMore
import Derived.OwnWalk
import Derived.RangeFuncBox
import Derived.Deep.RegionHeld3
import Derived.Deep.AppendLies
import Derived.Deep.RegionLaw
import Derived.Deep.RegionWith
import Derived.RegionTactic
import Derived.BigRegion
import Derived.Laws.Pointers
import Derived.Test.YtdefaeieiaegaaaGreatDoorChecked
import Derived.WalkKit
import Derived.ProofKit
import Derived.Lib.ConvBytes
import Derived.Lib.AtoiErrMem
import Derived.Laws.IdiomStrings
import Derived.Outline
import Derived.Lib.Hide
import Derived.Deep.LoopGhost
import Derived.Below
import Derived.Deep.Draws
import GoSem.Claim
import Derived.Lib.Bytealg
import Derived.Lib.Small
import Derived.Lib.AtoiAll
import Derived.Test.YtdefaeieiaegaaaGreatDoorProg
import Derived.ChangeAlike
import Derived.RangeFuncNested
import Derived.RangeFuncBound
import Derived.RangeFuncCalls
import Derived.RangeFuncLeaves
import Derived.Shelf.Abstract
import Derived.Shelf.RegionOpen
import Derived.OwnWalkIn
import Derived.TacticsInMore
import Derived.LoopNIn
import Derived.LoopIn
import Derived.ChangeOld
import Derived.Deep.DrawnRows
import Derived.LaidMore
import Derived.LaidLaws
import Derived.ChangeArms
import Derived.Lib.LaidTab
import Derived.WideShapes
import Derived.WalkSmall
import Derived.Deep.CutBlock
import Derived.Test.YtdefaeieiaegaaaGreatDoorKtp07
import Derived.Test.YtdefaeieiaegaaaGreatDoorKtp09
namespace Go.Proofs.YtdefaeieiaegaaaGreatDoor.TyR
open Go.RowKit
open ExM Kit ExL GenL TyM Ty TyT TyO ExN
set_option linter.unusedVariables false
attribute [local go_sem] Go.undef
theorem uni_good {req ts : List Int} {want own : Int} (h0 : want ≠ 0) (ho : own ≠ 0) (hr : ∀ i, i < req.length → req.getD i 0 = want) (hl : ts.length = req.length) (h : ∀ i, i < ts.length → ts.getD i 0 = want) : applyR req own ts = (own, 0) := by
  unfold applyR
  rw [if_pos, settl, if_neg ho]
  intro i hi
  rw [hr i hi, settl, if_neg h0]
  exact h i (by omega)
theorem uni_bad {req ts : List Int} {want own : Int} (h0 : want ≠ 0) (hr : ∀ i, i < req.length → req.getD i 0 = want) (hl : ts.length = req.length) (i : Nat) (hi : i < ts.length) (h : ts.getD i 0 ≠ want) : applyR req own ts = (0, 9) := by
  unfold applyR
  rw [if_neg]
  intro g
  have := g i (by omega)
  rw [hr i (by omega), settl, if_neg h0] at this
  exact h this
theorem cmp_R (a b : Int) : applyR [0, 0] 2 [a, b] = if a = b then (2, 0) else (0, 9) := by
  unfold applyR
  by_cases h : a = b
  · rw [if_pos h, if_pos]; · rfl
    intro i hi
    match i, hi with
    | 0, _ => exact h
    | 1, _ => rfl
    | i + 2, hi => exact absurd hi (by simp)
  · rw [if_neg h, if_neg]
    intro g
    exact h (g 0 (by simp))
theorem if_R (a b c : Int) : applyR [2, 0, 0] 0 [a, b, c] = if a = 2 then (if b = c then (c, 0) else (0, 9)) else (0, 9) := by
  unfold applyR
  by_cases h : a = 2
  · rw [if_pos h]
    by_cases h2 : b = c
    · rw [if_pos h2, if_pos]; · rfl
      intro i hi
      match i, hi with
      | 0, _ => exact h
      | 1, _ => exact h2
      | 2, _ => rfl
      | i + 3, hi => exact absurd hi (by simp)
    · rw [if_neg h2, if_neg]
      intro g
      exact h2 (g 1 (by simp))
  · rw [if_neg h, if_neg]
    intro g
    exact h (g 0 (by simp))
/-- Between two operands. -/
structure RInv (w W1 : World) (fs : List GenL.Fd) (l : List Ex) (k : Nat) (v : Value) (wr : World) : Prop where
  le : k ≤ l.length
  err : errL (tyL (fts fs) (l.take k)) = 0
  row : wr.ownsRow (w.heap.size + 1) 3 1 v k (vals (tyL (fts fs) (l.take k)))
  below : Below (w.heap.size + 1) W1 wr
theorem RInv.step {w W1 : World} {fs : List GenL.Fd} {l : List Ex} {k : Nat} {v v' : Value} {wr w1 w3 : World} {o : Obj} (h : RInv w W1 fs l k v wr) (hs : W1.heap.size = w.heap.size + 1) (hk : k < l.length) (hb : Below wr.heap.size wr w1) (h0 : (Ex.ty (fts fs) l[k]).2 = 0)
    (ho : w3.ownsRow (w.heap.size + 1) 3 1 v' (k + 1) (vals (tyL (fts fs) (l.take k)) ++ [.int .i64 (Ex.ty (fts fs) l[k]).1])) (hg : (w1.alloc o).grownBy w3 v.ownBlock) : RInv w W1 fs l (k + 1) v' w3 := by
  have hsz := h.below.size
  have hbs := hb.size
  refine ⟨hk, by rw [errL_at _ l k hk h.err, h0], by rw [tyL_at _ l k hk, vals_snoc]; exact ho, ?_⟩
  exact ((h.below.trans (hb.mono (by omega))).alloc (by omega) _).grown hg (by simp; omega) (fun g hg => (h.row.lt g hg).1)
theorem RInv.kept {w W1 : World} {fs : List GenL.Fd} {l : List Ex} {k : Nat} {v : Value} {wr w1 : World} (h : RInv w W1 fs l k v wr) (hb : Below wr.heap.size wr w1) : w1.ownsRow (w.heap.size + 1) 3 1 v k (vals (tyL (fts fs) (l.take k))) := own_below h.row hb
set_option maxHeartbeats 4000000 in
set_option maxRecDepth 100000 in
theorem refTypeOf_any (fs : List GenL.Fd) (FA : Option Addr) (fc : Nat) (hm : fs.length ≤ 1000000000000) : ∀ (x : Ex) (d : Nd) (A : Option Addr) (n c : Nat) (w : World), x.okN → Is w x d A n → Flds w FA fs →
    Calls Tryz.prog 187 #[.agg #[.int .i64 d.op, .int .i64 d.k, .int .i64 d.n, .string d.s, .string d.nm, .slice A n c], .slice FA fs.length fc] w fun e w' => e = .returned (.tuple #[.int .i64 (Ex.ty (fts fs) x).1, .int .i64 (Ex.ty (fts fs) x).2]) ∧ Below w.heap.size w w' := by
  refine Ex.ind fun d l ih => ?_
  intro d' A n c w hok his hf
  rw [is_mk] at his
  obtain ⟨rfl, rfl, ⟨hmx, _⟩, his⟩ := his
  obtain ⟨o1, o2, o3⟩ := okN_op hok
  have hokl := ((okN_mk d' l).1 hok).2
  rw [ty_mk]
  obtain ⟨R, hR⟩ : ∃ R, tyN (fts fs) d' (tyL (fts fs) l) = R := ⟨_, rfl⟩
  rw [hR]
  have HS := Lib.hid his
  have HI := Lib.hid ih
  have HF := Lib.hid hf
  have HOk := Lib.hid hokl
  obtain ⟨op, dk, dn, ds, nm⟩ := d'
  dsimp only at o1 o2 o3
  by_cases p1 : op = 1
  · subst p1
    obtain rfl : R = (dk, 0) := by rw [← hR]; unfold tyN; rw [if_pos rfl]
    clear hR his ih hf hokl hok o3
    go_enter Tryz.func187, Tryz.ntmps187
    go_wp2_with fail
    go_ret2
    exact ⟨rfl, b_new _ _⟩
  by_cases p2 : op = 2
  · subst p2
    obtain rfl : R = fieldT (fts fs) nm := by rw [← hR]; unfold tyN; rw [if_neg (show ¬ (2 : Int) = 1 by decide), if_pos rfl]
    clear hR his ih hf hokl hok o3
    obtain ⟨R, hR⟩ : ∃ R, fieldT (fts fs) nm = R := ⟨_, rfl⟩
    have hgood := fun k hk h he => (fieldT_fts (fs := fs) (s := nm) (k := k) hk h he).symm.trans hR
    have hbad := fun h => (fieldT_fts_none (fs := fs) (s := nm) h).symm.trans hR
    rw [hR]
    have HG := Lib.hid hgood
    have HB := Lib.hid hbad
    clear hgood hbad hR p1
    obtain ⟨W1, hW1⟩ : ∃ W, w.alloc (.cells #[.int .i64 2, .int .i64 dk, .int .i64 dn, .string ds, .string nm, .slice A l.length c] 50) = W := ⟨_, rfl⟩
    have hs1 : W1.heap.size = w.heap.size + 1 := by rw [← hW1]; simp
    have hb1 : Below w.heap.size w W1 := by rw [← hW1]; exact b_new _ _
    have hn1 : W1.cell? ⟨w.heap.size, 4, none⟩ = some (.string nm) := by rw [← hW1]; simp [go_sem]
    have HB1 := Lib.hid hb1
    have HN1 := Lib.hid hn1
    have HW1 := Lib.hid hW1
    clear hb1 hn1 hW1
    go_enter Tryz.func187, Tryz.ntmps187
    go_wp2_with fail
    rw [HW1.out]
    go_loopw [28] (fun i wr => ∃ (k : Nat), i = .int .i64 k ∧ k ≤ fs.length ∧ (∀ j (hj : j < fs.length), j < k → fs[j].nm ≠ nm) ∧ Below (w.heap.size + 1) W1 wr) (fun i _ => fs.length - (intOf i).toNat)
    case atStart => exact ⟨0, rfl, Nat.zero_le _, fun j hj hjk => absurd hjk (by omega), Below.refl _ _⟩
    case round =>
      obtain ⟨k, rfl, hk, hall, hb⟩ := hrel
      have hbw : Below w.heap.size w wr := HB1.out.trans (hb.mono (by omega))
      have c4 := (hb.cell (p := ⟨w.heap.size, 4, none⟩) (by simp)).trans HN1.out
      have hws : w.heap.size < wr.heap.size := by have := hb.size; omega
      by_cases hlt : k < fs.length
      · obtain ⟨a, rfl, hat⟩ := HF.out k hlt
        obtain ⟨q0, q1, q2, q3, q4, q5, q6, q7, q8⟩ := hat.of_block (hbw.block _ hat.lt)
        have hg := HG.out k hlt hall
        have hnext : fs[k].nm ≠ nm → ∀ j (hj : j < fs.length), j < k + 1 → fs[j].nm ≠ nm := fun e j hj hjk => by
          rcases Nat.lt_or_ge j k with h | h
          · exact hall j hj h
          · obtain rfl : j = k := by omega
            exact e
        obtain ⟨f, hfk⟩ : ∃ f, fs[k] = f := ⟨_, rfl⟩
        rw [hfk] at q0 q1 q2 q3 q4 q5 q6 q7 q8 hg hnext
        have hbb : ∀ o, Below (w.heap.size + 1) W1 (wr.alloc o) := fun o => hb.alloc (by omega) o
        have hbw2 : ∀ o, Below w.heap.size w (wr.alloc o) := fun o => b_more hbw o
        have HG2 := Lib.hid hg
        have HN := Lib.hid hnext
        have HBB := Lib.hid hbb
        have HBW := Lib.hid hbw2
        clear hg hnext hall hfk hat hbb hbw2 hb hbw
        by_cases he : f.nm = nm
        · obtain rfl := HG2.out he
          have t1 : (f.nm.toList == nm.toList) = true := by rw [ByteArray.toList_eq, ByteArray.toList_eq, he]; simp
          go_wp2_with fail
          go_ret2
          exact ⟨rfl, HBW.out _⟩
        · have t1 : (f.nm.toList == nm.toList) = false := beq_eq_false_iff_ne.2 fun e => he (by
            rw [ByteArray.toList_eq, ByteArray.toList_eq] at e
            exact ByteArray.ext (Array.ext' e))
          go_wp2_with fail
          go_roundw
          case rel => exact ⟨k + 1, by go_num, by omega, HN.out he, HBB.out _⟩
          case measure => simp [intOf]; omega
      · obtain rfl := HB.out fun j hj => hall j hj (by omega)
        have HBW := Lib.hid hbw
        clear hall hb hbw
        go_wp2_with fail
        go_ret2
        exact ⟨rfl, HBW.out⟩
  have o3' : 1 ≤ l.length ∧ l.length ≤ 3 := by
    rw [o3]; exact ⟨arity_pos (by omega), by unfold arity; repeat' split
                                             all_goals omega⟩
  obtain ⟨l1, l3⟩ := o3'
  have hgood : errL (tyL (fts fs) l) = 0 → R = applyR (ruleReq op) (ruleRes op) ((tyL (fts fs) l).map (·.1)) := fun h => by
    rw [← hR]; unfold tyN; rw [if_neg p1, if_neg p2, if_pos h]
  have hbad : ∀ e, errL (tyL (fts fs) l) = e → e ≠ 0 → R = (0, e) := fun e h he => by
    rw [← hR]; unfold tyN; rw [if_neg p1, if_neg p2, h, if_neg he]
  have t1 : (op == 1) = false := beq_eq_false_iff_ne.2 p1
  have t2 : (op == 2) = false := beq_eq_false_iff_ne.2 p2
  obtain ⟨i0, hi, hz0, hz1, hz2⟩ := info_parts infoI
  have HG := Lib.hid hgood
  have HB := Lib.hid hbad
  have HO := Lib.hid (show op = 3 ∨ op = 4 ∨ op = 5 ∨ op = 6 ∨ op = 7 ∨ op = 8 ∨ op = 9 ∨ op = 10 ∨ op = 11 ∨ op = 12 ∨ op = 13 ∨ op = 14 ∨ op = 15 ∨ op = 16 ∨ op = 17 ∨ op = 18 by omega)
  have HA := Lib.hid o3
  obtain ⟨W1, hW1⟩ : ∃ W, w.alloc (.cells #[.int .i64 op, .int .i64 dk, .int .i64 dn, .string ds, .string nm, .slice A l.length c] 50) = W := ⟨_, rfl⟩
  have hs1 : W1.heap.size = w.heap.size + 1 := by rw [← hW1]; simp
  have hb1 : Below w.heap.size w W1 := by rw [← hW1]; exact b_new _ _
  have hn1 : W1.cell? ⟨w.heap.size, 0, none⟩ = some (.int .i64 op) := by rw [← hW1]; simp [go_sem]
  have hI0 : RInv w W1 fs l 0 (.slice none 0 0) W1 := ⟨Nat.zero_le _, by simp [tyL_nil, errL], by simpa [tyL_nil, vals] using World.ownsRow_nil _ _ _ _, Below.refl _ _⟩
  have HB1 := Lib.hid hb1
  have HN1 := Lib.hid hn1
  have HW1 := Lib.hid hW1
  have HI0 := Lib.hid hI0
  clear hR his ih hf hokl hok o3 hgood hbad o1 o2 p1 p2 hb1 hn1 hW1 hI0
  go_enter Tryz.func187, Tryz.ntmps187
  go_wp2_with fail
  rw [HW1.out]
  go_loopw [8, 11, 12, 43] (fun v _ _ i wr => ∃ (k : Nat), i = .int .i64 k ∧ RInv w W1 fs l k v wr) (fun _ _ _ i _ => l.length - (intOf i).toNat)
  case atStart => exact ⟨0, rfl, HI0.out⟩
  case round =>
    obtain ⟨k, rfl, hV⟩ := hrel
    have hk := hV.le
    have hbw : Below w.heap.size w wr := HB1.out.trans (hV.below.mono (by omega))
    have hws : w.heap.size < wr.heap.size := by have := hV.below.size; omega
    have hop := (hV.below.cell (p := ⟨w.heap.size, 0, none⟩) (by simp)).trans HN1.out
    have HV := Lib.hid hV
    by_cases hlt : k < l.length
    · obtain ⟨a, d2, B, m2, c2, rfl, hat, hi2⟩ := HS.out k hlt
      obtain ⟨h0, h1, h2, h3, h4, h5⟩ := hat.below hbw
      have hc := HI.out _ (List.getElem_mem hlt) d2 B m2 c2 (wr.alloc (.cells #[.int .i64 d2.op, .int .i64 d2.k, .int .i64 d2.n, .string d2.s, .string d2.nm, .slice B m2 c2] 50)) (HOk.out _ (List.getElem_mem hlt)) ((hi2.below hbw).alloc _) ((HF.out.below hbw).below (b_new _ _))
      obtain ⟨t, ht⟩ : ∃ a, (Ex.ty (fts fs) l[k]).1 = a := ⟨_, rfl⟩
      obtain ⟨e0, he⟩ : ∃ a, (Ex.ty (fts fs) l[k]).2 = a := ⟨_, rfl⟩
      rw [ht, he] at hc
      have hst : ∀ w2 w3 v', Below wr.heap.size wr w2 → e0 = 0 → w3.ownsRow (w.heap.size + 1) 3 1 v' (k + 1) (vals (tyL (fts fs) (l.take k)) ++ [.int .i64 t]) → (w2.alloc (.cells #[.int .i64 t] 3)).grownBy w3 (Value.ownBlock u8) → RInv w W1 fs l (k + 1) v' w3 := fun w2 w3 v' hb h ho hg =>
        HV.out.step hs1 hlt hb (by rw [he]; exact h) (by rw [ht]; exact ho) hg
      have hbd : e0 ≠ 0 → R = (0, e0) := fun h => HB.out e0 (by rw [errL_stop _ l k hlt HV.out.err (by rw [he]; exact h), he]) h
      have HC := Lib.hid hc
      have HSt := Lib.hid hst
      have HBd := Lib.hid hbd
      have HBW := Lib.hid hbw
      clear hc hst hbd hi2 hat ht he hbw hV
      go_wp2_with fail
      refine HC.out.mono ?_; rintro e w2 ⟨rfl, hb2⟩
      have hb3 : Below wr.heap.size wr w2 := b_then hb2
      have hbE : Below w.heap.size w w2 := HBW.out.trans (hb3.mono HBW.out.size)
      have HBE := Lib.hid hbE
      have hs2 := hb3.size
      have hown := (HV.out.kept hb3).alloc (.cells #[.int .i64 t] 3)
      have HB3 := Lib.hid hb3
      clear hb2 hb3 hbE h0 h1 h2 h3 h4 h5 hop
      by_cases h0 : e0 = 0
      · subst h0
        go_wp2_with (at_builtin; refine wpList_append_own _ rfl _ _ 99 rfl (w.heap.size + 1) 3 i0 (.int .i64 0) 1 8 Tryz.underlying99 hi hz0 hz1 hz2 rfl (by decide) _ _ _ rfl hown ⟨w2.heap.size, 0, none⟩ 1 1 [.int .i64 t] rfl rfl ?c1 ?c2 ?c3 ?c4 ?c5 ?_)
        case c1 =>
          intro j y hj
          match j, hj with
          | 0, hj => simp at hj; subst hj; simp [Addr.add]
          | j + 1, hj => simp at hj
        case c2 => intro y hy; simp at hy; subst hy; rfl
        case c3 => unfold maxLen; omega
        case c4 => omega
        case c5 => simp; omega
        intro v' w3 hown3 hgrow _
        have hN := HSt.out w2 w3 v' HB3.out (by first | rfl | trivial) hown3 hgrow
        have HN := Lib.hid hN
        clear hN hown3 hgrow hown
        go_wp2_with fail
        go_roundw
        case rel => exact ⟨k + 1, by go_num, HN.out⟩
        case measure => simp [intOf]; omega
      · have t3 : (e0 == 0) = false := beq_eq_false_iff_ne.2 h0
        obtain rfl := HBd.out h0
        clear hown
        go_wp2_with fail
        go_ret2
        exact ⟨rfl, HBE.out⟩
    · have hkl : k = l.length := by omega
      subst hkl
      obtain ⟨g, cap, rfl, hg1, hg2, hg3, hg4, hcl⟩ := own_form hV.row (by omega)
      have herr := hV.err
      rw [List.take_length] at herr hcl
      have hR := HG.out herr
      obtain ⟨ts, hts⟩ : ∃ ts, (tyL (fts fs) l).map (·.1) = ts := ⟨_, rfl⟩
      have hint : IntsAt wr g ts := by rw [← hts]; exact ints_vals wr g _ fun j hj => hcl j (by rw [tyL_len] at hj; omega)
      have htl : ts.length = l.length := by rw [← hts, List.length_map, tyL_len]
      rw [hts] at hR
      have HBW := Lib.hid hbw
      have HInt := Lib.hid hint
      clear hV hcl herr hts hbw hint HV HG HB HI HS HF HOk HI0 HW1 hg1
      have hn0 := HA.out
      rcases HO.out with rfl | rfl | rfl | rfl | rfl | rfl | rfl | rfl | rfl | rfl | rfl | rfl | rfl | rfl | rfl | rfl
      · have hn : l.length = 1 := hn0
        have hq : ∀ i, i < (ruleReq 3).length → (ruleReq 3).getD i 0 = 1 := by decide
        have hgd : (∀ i, i < ts.length → ts.getD i 0 = 1) → R = (1, 0) := fun h => hR.trans (by rw [show ruleRes 3 = 1 from rfl]; exact uni_good (by decide) (by decide) hq (htl.trans hn) h)
        have hbd : ∀ i, i < ts.length → ts.getD i 0 ≠ 1 → R = (0, 9) := fun i hi h => hR.trans (uni_bad (by decide) hq (htl.trans hn) i hi h)
        have HGd := Lib.hid hgd
        have HBd := Lib.hid hbd
        clear hgd hbd hR hq hn0
        rw [hn] at htl ⊢
        go_wp2_with fail
        go_loopw [16, 105] (fun _ i V => ∃ (k : Nat), i = .int .i64 k ∧ k ≤ 1 ∧ (∀ j, j < k → ts.getD j 0 = 1) ∧ V = wr) (fun _ i _ => 1 - (intOf i).toNat)
        case atStart => exact ⟨0, rfl, Nat.zero_le _, fun j hj => absurd hj (by omega), rfl⟩
        case round =>
          obtain ⟨k, rfl, hk, hall, rfl⟩ := hrel
          by_cases hlt : k < 1
          · have hx := HInt.out k (by omega)
            obtain ⟨x, hxx⟩ : ∃ a, ts.getD k 0 = a := ⟨_, rfl⟩
            have hb := HBd.out k (by omega)
            rw [hxx] at hx hb
            have hnext : x = 1 → ∀ j, j < k + 1 → ts.getD j 0 = 1 := fun e j hj => by
              rcases Nat.lt_or_ge j k with h | h
              · exact hall j h
              · obtain rfl : j = k := by omega
                rw [hxx]; exact e
            have HN := Lib.hid hnext
            have HB2 := Lib.hid hb
            clear hnext hb hxx hall
            by_cases he : x = 1
            · subst he
              go_wp2_with fail
              go_roundw
              case rel => exact ⟨k + 1, by go_num, by omega, (by first | exact HN.out rfl | exact HN.out trivial), by first | rfl | trivial⟩
              case measure => simp [intOf]; omega
            · have t3 : (x == 1) = false := beq_eq_false_iff_ne.2 he
              obtain rfl := HB2.out he
              go_wp2_with fail
              go_ret2
              exact ⟨rfl, HBW.out⟩
          · obtain rfl : k = 1 := by omega
            obtain rfl := HGd.out fun j hj => hall j (by omega)
            clear hall
            go_wp2_with fail
            go_ret2
            exact ⟨rfl, HBW.out⟩
      · have hn : l.length = 1 := hn0
        have hq : ∀ i, i < (ruleReq 4).length → (ruleReq 4).getD i 0 = 2 := by decide
        have hgd : (∀ i, i < ts.length → ts.getD i 0 = 2) → R = (2, 0) := fun h => hR.trans (by rw [show ruleRes 4 = 2 from rfl]; exact uni_good (by decide) (by decide) hq (htl.trans hn) h)
        have hbd : ∀ i, i < ts.length → ts.getD i 0 ≠ 2 → R = (0, 9) := fun i hi h => hR.trans (uni_bad (by decide) hq (htl.trans hn) i hi h)
        have HGd := Lib.hid hgd
        have HBd := Lib.hid hbd
        clear hgd hbd hR hq hn0
        rw [hn] at htl ⊢
        go_wp2_with fail
        go_loopw [16, 105] (fun _ i V => ∃ (k : Nat), i = .int .i64 k ∧ k ≤ 1 ∧ (∀ j, j < k → ts.getD j 0 = 2) ∧ V = wr) (fun _ i _ => 1 - (intOf i).toNat)
        case atStart => exact ⟨0, rfl, Nat.zero_le _, fun j hj => absurd hj (by omega), rfl⟩
        case round =>
          obtain ⟨k, rfl, hk, hall, rfl⟩ := hrel
          by_cases hlt : k < 1
          · have hx := HInt.out k (by omega)
            obtain ⟨x, hxx⟩ : ∃ a, ts.getD k 0 = a := ⟨_, rfl⟩
            have hb := HBd.out k (by omega)
            rw [hxx] at hx hb
            have hnext : x = 2 → ∀ j, j < k + 1 → ts.getD j 0 = 2 := fun e j hj => by
              rcases Nat.lt_or_ge j k with h | h
              · exact hall j h
              · obtain rfl : j = k := by omega
                rw [hxx]; exact e
            have HN := Lib.hid hnext
            have HB2 := Lib.hid hb
            clear hnext hb hxx hall
            by_cases he : x = 2
            · subst he
              go_wp2_with fail
              go_roundw
              case rel => exact ⟨k + 1, by go_num, by omega, (by first | exact HN.out rfl | exact HN.out trivial), by first | rfl | trivial⟩
              case measure => simp [intOf]; omega
            · have t3 : (x == 2) = false := beq_eq_false_iff_ne.2 he
              obtain rfl := HB2.out he
              go_wp2_with fail
              go_ret2
              exact ⟨rfl, HBW.out⟩
          · obtain rfl : k = 1 := by omega
            obtain rfl := HGd.out fun j hj => hall j (by omega)
            clear hall
            go_wp2_with fail
            go_ret2
            exact ⟨rfl, HBW.out⟩
      · have hn : l.length = 2 := hn0
        have hq : ∀ i, i < (ruleReq 5).length → (ruleReq 5).getD i 0 = 1 := by decide
        have hgd : (∀ i, i < ts.length → ts.getD i 0 = 1) → R = (1, 0) := fun h => hR.trans (by rw [show ruleRes 5 = 1 from rfl]; exact uni_good (by decide) (by decide) hq (htl.trans hn) h)
        have hbd : ∀ i, i < ts.length → ts.getD i 0 ≠ 1 → R = (0, 9) := fun i hi h => hR.trans (uni_bad (by decide) hq (htl.trans hn) i hi h)
        have HGd := Lib.hid hgd
        have HBd := Lib.hid hbd
        clear hgd hbd hR hq hn0
        rw [hn] at htl ⊢
        go_wp2_with fail
        go_loopw [16, 105] (fun _ i V => ∃ (k : Nat), i = .int .i64 k ∧ k ≤ 2 ∧ (∀ j, j < k → ts.getD j 0 = 1) ∧ V = wr) (fun _ i _ => 2 - (intOf i).toNat)
        case atStart => exact ⟨0, rfl, Nat.zero_le _, fun j hj => absurd hj (by omega), rfl⟩
        case round =>
          obtain ⟨k, rfl, hk, hall, rfl⟩ := hrel
          by_cases hlt : k < 2
          · have hx := HInt.out k (by omega)
            obtain ⟨x, hxx⟩ : ∃ a, ts.getD k 0 = a := ⟨_, rfl⟩
            have hb := HBd.out k (by omega)
            rw [hxx] at hx hb
            have hnext : x = 1 → ∀ j, j < k + 1 → ts.getD j 0 = 1 := fun e j hj => by
              rcases Nat.lt_or_ge j k with h | h
              · exact hall j h
              · obtain rfl : j = k := by omega
                rw [hxx]; exact e
            have HN := Lib.hid hnext
            have HB2 := Lib.hid hb
            clear hnext hb hxx hall
            by_cases he : x = 1
            · subst he
              go_wp2_with fail
              go_roundw
              case rel => exact ⟨k + 1, by go_num, by omega, (by first | exact HN.out rfl | exact HN.out trivial), by first | rfl | trivial⟩
              case measure => simp [intOf]; omega
            · have t3 : (x == 1) = false := beq_eq_false_iff_ne.2 he
              obtain rfl := HB2.out he
              go_wp2_with fail
              go_ret2
              exact ⟨rfl, HBW.out⟩
          · obtain rfl : k = 2 := by omega
            obtain rfl := HGd.out fun j hj => hall j (by omega)
            clear hall
            go_wp2_with fail
            go_ret2
            exact ⟨rfl, HBW.out⟩
      · have hn : l.length = 2 := hn0
        have hq : ∀ i, i < (ruleReq 6).length → (ruleReq 6).getD i 0 = 1 := by decide
        have hgd : (∀ i, i < ts.length → ts.getD i 0 = 1) → R = (1, 0) := fun h => hR.trans (by rw [show ruleRes 6 = 1 from rfl]; exact uni_good (by decide) (by decide) hq (htl.trans hn) h)
        have hbd : ∀ i, i < ts.length → ts.getD i 0 ≠ 1 → R = (0, 9) := fun i hi h => hR.trans (uni_bad (by decide) hq (htl.trans hn) i hi h)
        have HGd := Lib.hid hgd
        have HBd := Lib.hid hbd
        clear hgd hbd hR hq hn0
        rw [hn] at htl ⊢
        go_wp2_with fail
        go_loopw [16, 105] (fun _ i V => ∃ (k : Nat), i = .int .i64 k ∧ k ≤ 2 ∧ (∀ j, j < k → ts.getD j 0 = 1) ∧ V = wr) (fun _ i _ => 2 - (intOf i).toNat)
        case atStart => exact ⟨0, rfl, Nat.zero_le _, fun j hj => absurd hj (by omega), rfl⟩
        case round =>
          obtain ⟨k, rfl, hk, hall, rfl⟩ := hrel
          by_cases hlt : k < 2
          · have hx := HInt.out k (by omega)
            obtain ⟨x, hxx⟩ : ∃ a, ts.getD k 0 = a := ⟨_, rfl⟩
            have hb := HBd.out k (by omega)
            rw [hxx] at hx hb
            have hnext : x = 1 → ∀ j, j < k + 1 → ts.getD j 0 = 1 := fun e j hj => by
              rcases Nat.lt_or_ge j k with h | h
              · exact hall j h
              · obtain rfl : j = k := by omega
                rw [hxx]; exact e
            have HN := Lib.hid hnext
            have HB2 := Lib.hid hb
            clear hnext hb hxx hall
            by_cases he : x = 1
            · subst he
              go_wp2_with fail
              go_roundw
              case rel => exact ⟨k + 1, by go_num, by omega, (by first | exact HN.out rfl | exact HN.out trivial), by first | rfl | trivial⟩
              case measure => simp [intOf]; omega
            · have t3 : (x == 1) = false := beq_eq_false_iff_ne.2 he
              obtain rfl := HB2.out he
              go_wp2_with fail
              go_ret2
              exact ⟨rfl, HBW.out⟩
          · obtain rfl : k = 2 := by omega
            obtain rfl := HGd.out fun j hj => hall j (by omega)
            clear hall
            go_wp2_with fail
            go_ret2
            exact ⟨rfl, HBW.out⟩
      · have hn : l.length = 2 := hn0
        have hq : ∀ i, i < (ruleReq 7).length → (ruleReq 7).getD i 0 = 1 := by decide
        have hgd : (∀ i, i < ts.length → ts.getD i 0 = 1) → R = (1, 0) := fun h => hR.trans (by rw [show ruleRes 7 = 1 from rfl]; exact uni_good (by decide) (by decide) hq (htl.trans hn) h)
        have hbd : ∀ i, i < ts.length → ts.getD i 0 ≠ 1 → R = (0, 9) := fun i hi h => hR.trans (uni_bad (by decide) hq (htl.trans hn) i hi h)
        have HGd := Lib.hid hgd
        have HBd := Lib.hid hbd
        clear hgd hbd hR hq hn0
        rw [hn] at htl ⊢
        go_wp2_with fail
        go_loopw [16, 105] (fun _ i V => ∃ (k : Nat), i = .int .i64 k ∧ k ≤ 2 ∧ (∀ j, j < k → ts.getD j 0 = 1) ∧ V = wr) (fun _ i _ => 2 - (intOf i).toNat)
        case atStart => exact ⟨0, rfl, Nat.zero_le _, fun j hj => absurd hj (by omega), rfl⟩
        case round =>
          obtain ⟨k, rfl, hk, hall, rfl⟩ := hrel
          by_cases hlt : k < 2
          · have hx := HInt.out k (by omega)
            obtain ⟨x, hxx⟩ : ∃ a, ts.getD k 0 = a := ⟨_, rfl⟩
            have hb := HBd.out k (by omega)
            rw [hxx] at hx hb
            have hnext : x = 1 → ∀ j, j < k + 1 → ts.getD j 0 = 1 := fun e j hj => by
              rcases Nat.lt_or_ge j k with h | h
              · exact hall j h
              · obtain rfl : j = k := by omega
                rw [hxx]; exact e
            have HN := Lib.hid hnext
            have HB2 := Lib.hid hb
            clear hnext hb hxx hall
            by_cases he : x = 1
            · subst he
              go_wp2_with fail
              go_roundw
              case rel => exact ⟨k + 1, by go_num, by omega, (by first | exact HN.out rfl | exact HN.out trivial), by first | rfl | trivial⟩
              case measure => simp [intOf]; omega
            · have t3 : (x == 1) = false := beq_eq_false_iff_ne.2 he
              obtain rfl := HB2.out he
              go_wp2_with fail
              go_ret2
              exact ⟨rfl, HBW.out⟩
          · obtain rfl : k = 2 := by omega
            obtain rfl := HGd.out fun j hj => hall j (by omega)
            clear hall
            go_wp2_with fail
            go_ret2
            exact ⟨rfl, HBW.out⟩
      · have hn : l.length = 2 := hn0
        have hq : ∀ i, i < (ruleReq 8).length → (ruleReq 8).getD i 0 = 1 := by decide
        have hgd : (∀ i, i < ts.length → ts.getD i 0 = 1) → R = (1, 0) := fun h => hR.trans (by rw [show ruleRes 8 = 1 from rfl]; exact uni_good (by decide) (by decide) hq (htl.trans hn) h)
        have hbd : ∀ i, i < ts.length → ts.getD i 0 ≠ 1 → R = (0, 9) := fun i hi h => hR.trans (uni_bad (by decide) hq (htl.trans hn) i hi h)
        have HGd := Lib.hid hgd
        have HBd := Lib.hid hbd
        clear hgd hbd hR hq hn0
        rw [hn] at htl ⊢
        go_wp2_with fail
        go_loopw [16, 105] (fun _ i V => ∃ (k : Nat), i = .int .i64 k ∧ k ≤ 2 ∧ (∀ j, j < k → ts.getD j 0 = 1) ∧ V = wr) (fun _ i _ => 2 - (intOf i).toNat)
        case atStart => exact ⟨0, rfl, Nat.zero_le _, fun j hj => absurd hj (by omega), rfl⟩
        case round =>
          obtain ⟨k, rfl, hk, hall, rfl⟩ := hrel
          by_cases hlt : k < 2
          · have hx := HInt.out k (by omega)
            obtain ⟨x, hxx⟩ : ∃ a, ts.getD k 0 = a := ⟨_, rfl⟩
            have hb := HBd.out k (by omega)
            rw [hxx] at hx hb
            have hnext : x = 1 → ∀ j, j < k + 1 → ts.getD j 0 = 1 := fun e j hj => by
              rcases Nat.lt_or_ge j k with h | h
              · exact hall j h
              · obtain rfl : j = k := by omega
                rw [hxx]; exact e
            have HN := Lib.hid hnext
            have HB2 := Lib.hid hb
            clear hnext hb hxx hall
            by_cases he : x = 1
            · subst he
              go_wp2_with fail
              go_roundw
              case rel => exact ⟨k + 1, by go_num, by omega, (by first | exact HN.out rfl | exact HN.out trivial), by first | rfl | trivial⟩
              case measure => simp [intOf]; omega
            · have t3 : (x == 1) = false := beq_eq_false_iff_ne.2 he
              obtain rfl := HB2.out he
              go_wp2_with fail
              go_ret2
              exact ⟨rfl, HBW.out⟩
          · obtain rfl : k = 2 := by omega
            obtain rfl := HGd.out fun j hj => hall j (by omega)
            clear hall
            go_wp2_with fail
            go_ret2
            exact ⟨rfl, HBW.out⟩
      · have hn : l.length = 2 := hn0
        have hq : ∀ i, i < (ruleReq 9).length → (ruleReq 9).getD i 0 = 1 := by decide
        have hgd : (∀ i, i < ts.length → ts.getD i 0 = 1) → R = (1, 0) := fun h => hR.trans (by rw [show ruleRes 9 = 1 from rfl]; exact uni_good (by decide) (by decide) hq (htl.trans hn) h)
        have hbd : ∀ i, i < ts.length → ts.getD i 0 ≠ 1 → R = (0, 9) := fun i hi h => hR.trans (uni_bad (by decide) hq (htl.trans hn) i hi h)
        have HGd := Lib.hid hgd
        have HBd := Lib.hid hbd
        clear hgd hbd hR hq hn0
        rw [hn] at htl ⊢
        go_wp2_with fail
        go_loopw [16, 105] (fun _ i V => ∃ (k : Nat), i = .int .i64 k ∧ k ≤ 2 ∧ (∀ j, j < k → ts.getD j 0 = 1) ∧ V = wr) (fun _ i _ => 2 - (intOf i).toNat)
        case atStart => exact ⟨0, rfl, Nat.zero_le _, fun j hj => absurd hj (by omega), rfl⟩
        case round =>
          obtain ⟨k, rfl, hk, hall, rfl⟩ := hrel
          by_cases hlt : k < 2
          · have hx := HInt.out k (by omega)
            obtain ⟨x, hxx⟩ : ∃ a, ts.getD k 0 = a := ⟨_, rfl⟩
            have hb := HBd.out k (by omega)
            rw [hxx] at hx hb
            have hnext : x = 1 → ∀ j, j < k + 1 → ts.getD j 0 = 1 := fun e j hj => by
              rcases Nat.lt_or_ge j k with h | h
              · exact hall j h
              · obtain rfl : j = k := by omega
                rw [hxx]; exact e
            have HN := Lib.hid hnext
            have HB2 := Lib.hid hb
            clear hnext hb hxx hall
            by_cases he : x = 1
            · subst he
              go_wp2_with fail
              go_roundw
              case rel => exact ⟨k + 1, by go_num, by omega, (by first | exact HN.out rfl | exact HN.out trivial), by first | rfl | trivial⟩
              case measure => simp [intOf]; omega
            · have t3 : (x == 1) = false := beq_eq_false_iff_ne.2 he
              obtain rfl := HB2.out he
              go_wp2_with fail
              go_ret2
              exact ⟨rfl, HBW.out⟩
          · obtain rfl : k = 2 := by omega
            obtain rfl := HGd.out fun j hj => hall j (by omega)
            clear hall
            go_wp2_with fail
            go_ret2
            exact ⟨rfl, HBW.out⟩
      · have hn : l.length = 2 := hn0
        have hq : ∀ i, i < (ruleReq 10).length → (ruleReq 10).getD i 0 = 3 := by decide
        have hgd : (∀ i, i < ts.length → ts.getD i 0 = 3) → R = (3, 0) := fun h => hR.trans (by rw [show ruleRes 10 = 3 from rfl]; exact uni_good (by decide) (by decide) hq (htl.trans hn) h)
        have hbd : ∀ i, i < ts.length → ts.getD i 0 ≠ 3 → R = (0, 9) := fun i hi h => hR.trans (uni_bad (by decide) hq (htl.trans hn) i hi h)
        have HGd := Lib.hid hgd
        have HBd := Lib.hid hbd
        clear hgd hbd hR hq hn0
        rw [hn] at htl ⊢
        go_wp2_with fail
        go_loopw [16, 105] (fun _ i V => ∃ (k : Nat), i = .int .i64 k ∧ k ≤ 2 ∧ (∀ j, j < k → ts.getD j 0 = 3) ∧ V = wr) (fun _ i _ => 2 - (intOf i).toNat)
        case atStart => exact ⟨0, rfl, Nat.zero_le _, fun j hj => absurd hj (by omega), rfl⟩
        case round =>
          obtain ⟨k, rfl, hk, hall, rfl⟩ := hrel
          by_cases hlt : k < 2
          · have hx := HInt.out k (by omega)
            obtain ⟨x, hxx⟩ : ∃ a, ts.getD k 0 = a := ⟨_, rfl⟩
            have hb := HBd.out k (by omega)
            rw [hxx] at hx hb
            have hnext : x = 3 → ∀ j, j < k + 1 → ts.getD j 0 = 3 := fun e j hj => by
              rcases Nat.lt_or_ge j k with h | h
              · exact hall j h
              · obtain rfl : j = k := by omega
                rw [hxx]; exact e
            have HN := Lib.hid hnext
            have HB2 := Lib.hid hb
            clear hnext hb hxx hall
            by_cases he : x = 3
            · subst he
              go_wp2_with fail
              go_roundw
              case rel => exact ⟨k + 1, by go_num, by omega, (by first | exact HN.out rfl | exact HN.out trivial), by first | rfl | trivial⟩
              case measure => simp [intOf]; omega
            · have t3 : (x == 3) = false := beq_eq_false_iff_ne.2 he
              obtain rfl := HB2.out he
              go_wp2_with fail
              go_ret2
              exact ⟨rfl, HBW.out⟩
          · obtain rfl : k = 2 := by omega
            obtain rfl := HGd.out fun j hj => hall j (by omega)
            clear hall
            go_wp2_with fail
            go_ret2
            exact ⟨rfl, HBW.out⟩
      · have hn : l.length = 2 := hn0
        rw [hn] at htl
        obtain ⟨a, b, rfl⟩ : ∃ a b, ts = [a, b] := by
          match ts, htl with
          | [a, b], _ => exact ⟨a, b, rfl⟩
        have hR2 : R = if a = b then (2, 0) else (0, 9) := hR.trans (cmp_R a b)
        have c0 : wr.cell? ⟨g, 0, none⟩ = some (.int .i64 a) := HInt.out 0 (by simp)
        have c1 : wr.cell? ⟨g, 1, none⟩ = some (.int .i64 b) := HInt.out 1 (by simp)
        clear hR htl hn0 HInt
        rw [hn]
        by_cases h2 : a = b
        · subst h2
          obtain rfl : R = (2, 0) := by rw [hR2]; simp
          clear hR2
          go_wp2_with fail
          go_region
          go_wp2_with fail
          go_ret2
          exact ⟨rfl, by first | exact b_drewN HBW.out _ | exact b_drew HBW.out | exact HBW.out⟩
        · have t3 : (a == b) = false := beq_eq_false_iff_ne.2 h2
          obtain rfl : R = (0, 9) := by rw [hR2]; simp [h2]
          clear hR2
          go_wp2_with fail
          go_region
          go_wp2_with fail
          go_ret2
          exact ⟨rfl, by first | exact b_drewN HBW.out _ | exact b_drew HBW.out | exact HBW.out⟩
      · have hn : l.length = 2 := hn0
        rw [hn] at htl
        obtain ⟨a, b, rfl⟩ : ∃ a b, ts = [a, b] := by
          match ts, htl with
          | [a, b], _ => exact ⟨a, b, rfl⟩
        have hR2 : R = if a = b then (2, 0) else (0, 9) := hR.trans (cmp_R a b)
        have c0 : wr.cell? ⟨g, 0, none⟩ = some (.int .i64 a) := HInt.out 0 (by simp)
        have c1 : wr.cell? ⟨g, 1, none⟩ = some (.int .i64 b) := HInt.out 1 (by simp)
        clear hR htl hn0 HInt
        rw [hn]
        by_cases h2 : a = b
        · subst h2
          obtain rfl : R = (2, 0) := by rw [hR2]; simp
          clear hR2
          go_wp2_with fail
          go_region
          go_wp2_with fail
          go_ret2
          exact ⟨rfl, by first | exact b_drewN HBW.out _ | exact b_drew HBW.out | exact HBW.out⟩
        · have t3 : (a == b) = false := beq_eq_false_iff_ne.2 h2
          obtain rfl : R = (0, 9) := by rw [hR2]; simp [h2]
          clear hR2
          go_wp2_with fail
          go_region
          go_wp2_with fail
          go_ret2
          exact ⟨rfl, by first | exact b_drewN HBW.out _ | exact b_drew HBW.out | exact HBW.out⟩
      · have hn : l.length = 2 := hn0
        rw [hn] at htl
        obtain ⟨a, b, rfl⟩ : ∃ a b, ts = [a, b] := by
          match ts, htl with
          | [a, b], _ => exact ⟨a, b, rfl⟩
        have hR2 : R = if a = b then (2, 0) else (0, 9) := hR.trans (cmp_R a b)
        have c0 : wr.cell? ⟨g, 0, none⟩ = some (.int .i64 a) := HInt.out 0 (by simp)
        have c1 : wr.cell? ⟨g, 1, none⟩ = some (.int .i64 b) := HInt.out 1 (by simp)
        clear hR htl hn0 HInt
        rw [hn]
        by_cases h2 : a = b
        · subst h2
          obtain rfl : R = (2, 0) := by rw [hR2]; simp
          clear hR2
          go_wp2_with fail
          go_region
          go_wp2_with fail
          go_ret2
          exact ⟨rfl, by first | exact b_drewN HBW.out _ | exact b_drew HBW.out | exact HBW.out⟩
        · have t3 : (a == b) = false := beq_eq_false_iff_ne.2 h2
          obtain rfl : R = (0, 9) := by rw [hR2]; simp [h2]
          clear hR2
          go_wp2_with fail
          go_region
          go_wp2_with fail
          go_ret2
          exact ⟨rfl, by first | exact b_drewN HBW.out _ | exact b_drew HBW.out | exact HBW.out⟩
      · have hn : l.length = 2 := hn0
        rw [hn] at htl
        obtain ⟨a, b, rfl⟩ : ∃ a b, ts = [a, b] := by
          match ts, htl with
          | [a, b], _ => exact ⟨a, b, rfl⟩
        have hR2 : R = if a = b then (2, 0) else (0, 9) := hR.trans (cmp_R a b)
        have c0 : wr.cell? ⟨g, 0, none⟩ = some (.int .i64 a) := HInt.out 0 (by simp)
        have c1 : wr.cell? ⟨g, 1, none⟩ = some (.int .i64 b) := HInt.out 1 (by simp)
        clear hR htl hn0 HInt
        rw [hn]
        by_cases h2 : a = b
        · subst h2
          obtain rfl : R = (2, 0) := by rw [hR2]; simp
          clear hR2
          go_wp2_with fail
          go_region
          go_wp2_with fail
          go_ret2
          exact ⟨rfl, by first | exact b_drewN HBW.out _ | exact b_drew HBW.out | exact HBW.out⟩
        · have t3 : (a == b) = false := beq_eq_false_iff_ne.2 h2
          obtain rfl : R = (0, 9) := by rw [hR2]; simp [h2]
          clear hR2
          go_wp2_with fail
          go_region
          go_wp2_with fail
          go_ret2
          exact ⟨rfl, by first | exact b_drewN HBW.out _ | exact b_drew HBW.out | exact HBW.out⟩
      · have hn : l.length = 2 := hn0
        have hq : ∀ i, i < (ruleReq 15).length → (ruleReq 15).getD i 0 = 2 := by decide
        have hgd : (∀ i, i < ts.length → ts.getD i 0 = 2) → R = (2, 0) := fun h => hR.trans (by rw [show ruleRes 15 = 2 from rfl]; exact uni_good (by decide) (by decide) hq (htl.trans hn) h)
        have hbd : ∀ i, i < ts.length → ts.getD i 0 ≠ 2 → R = (0, 9) := fun i hi h => hR.trans (uni_bad (by decide) hq (htl.trans hn) i hi h)
        have HGd := Lib.hid hgd
        have HBd := Lib.hid hbd
        clear hgd hbd hR hq hn0
        rw [hn] at htl ⊢
        go_wp2_with fail
        go_loopw [16, 105] (fun _ i V => ∃ (k : Nat), i = .int .i64 k ∧ k ≤ 2 ∧ (∀ j, j < k → ts.getD j 0 = 2) ∧ V = wr) (fun _ i _ => 2 - (intOf i).toNat)
        case atStart => exact ⟨0, rfl, Nat.zero_le _, fun j hj => absurd hj (by omega), rfl⟩
        case round =>
          obtain ⟨k, rfl, hk, hall, rfl⟩ := hrel
          by_cases hlt : k < 2
          · have hx := HInt.out k (by omega)
            obtain ⟨x, hxx⟩ : ∃ a, ts.getD k 0 = a := ⟨_, rfl⟩
            have hb := HBd.out k (by omega)
            rw [hxx] at hx hb
            have hnext : x = 2 → ∀ j, j < k + 1 → ts.getD j 0 = 2 := fun e j hj => by
              rcases Nat.lt_or_ge j k with h | h
              · exact hall j h
              · obtain rfl : j = k := by omega
                rw [hxx]; exact e
            have HN := Lib.hid hnext
            have HB2 := Lib.hid hb
            clear hnext hb hxx hall
            by_cases he : x = 2
            · subst he
              go_wp2_with fail
              go_roundw
              case rel => exact ⟨k + 1, by go_num, by omega, (by first | exact HN.out rfl | exact HN.out trivial), by first | rfl | trivial⟩
              case measure => simp [intOf]; omega
            · have t3 : (x == 2) = false := beq_eq_false_iff_ne.2 he
              obtain rfl := HB2.out he
              go_wp2_with fail
              go_ret2
              exact ⟨rfl, HBW.out⟩
          · obtain rfl : k = 2 := by omega
            obtain rfl := HGd.out fun j hj => hall j (by omega)
            clear hall
            go_wp2_with fail
            go_ret2
            exact ⟨rfl, HBW.out⟩
      · have hn : l.length = 2 := hn0
        have hq : ∀ i, i < (ruleReq 16).length → (ruleReq 16).getD i 0 = 2 := by decide
        have hgd : (∀ i, i < ts.length → ts.getD i 0 = 2) → R = (2, 0) := fun h => hR.trans (by rw [show ruleRes 16 = 2 from rfl]; exact uni_good (by decide) (by decide) hq (htl.trans hn) h)
        have hbd : ∀ i, i < ts.length → ts.getD i 0 ≠ 2 → R = (0, 9) := fun i hi h => hR.trans (uni_bad (by decide) hq (htl.trans hn) i hi h)
        have HGd := Lib.hid hgd
        have HBd := Lib.hid hbd
        clear hgd hbd hR hq hn0
        rw [hn] at htl ⊢
        go_wp2_with fail
        go_loopw [16, 105] (fun _ i V => ∃ (k : Nat), i = .int .i64 k ∧ k ≤ 2 ∧ (∀ j, j < k → ts.getD j 0 = 2) ∧ V = wr) (fun _ i _ => 2 - (intOf i).toNat)
        case atStart => exact ⟨0, rfl, Nat.zero_le _, fun j hj => absurd hj (by omega), rfl⟩
        case round =>
          obtain ⟨k, rfl, hk, hall, rfl⟩ := hrel
          by_cases hlt : k < 2
          · have hx := HInt.out k (by omega)
            obtain ⟨x, hxx⟩ : ∃ a, ts.getD k 0 = a := ⟨_, rfl⟩
            have hb := HBd.out k (by omega)
            rw [hxx] at hx hb
            have hnext : x = 2 → ∀ j, j < k + 1 → ts.getD j 0 = 2 := fun e j hj => by
              rcases Nat.lt_or_ge j k with h | h
              · exact hall j h
              · obtain rfl : j = k := by omega
                rw [hxx]; exact e
            have HN := Lib.hid hnext
            have HB2 := Lib.hid hb
            clear hnext hb hxx hall
            by_cases he : x = 2
            · subst he
              go_wp2_with fail
              go_roundw
              case rel => exact ⟨k + 1, by go_num, by omega, (by first | exact HN.out rfl | exact HN.out trivial), by first | rfl | trivial⟩
              case measure => simp [intOf]; omega
            · have t3 : (x == 2) = false := beq_eq_false_iff_ne.2 he
              obtain rfl := HB2.out he
              go_wp2_with fail
              go_ret2
              exact ⟨rfl, HBW.out⟩
          · obtain rfl : k = 2 := by omega
            obtain rfl := HGd.out fun j hj => hall j (by omega)
            clear hall
            go_wp2_with fail
            go_ret2
            exact ⟨rfl, HBW.out⟩
      · have hn : l.length = 3 := hn0
        rw [hn] at htl
        obtain ⟨a, b, cc, rfl⟩ : ∃ a b cc, ts = [a, b, cc] := by
          match ts, htl with
          | [a, b, cc], _ => exact ⟨a, b, cc, rfl⟩
        have hR2 : R = if a = 2 then (if b = cc then (cc, 0) else (0, 9)) else (0, 9) := hR.trans (if_R a b cc)
        have c0 : wr.cell? ⟨g, 0, none⟩ = some (.int .i64 a) := HInt.out 0 (by simp)
        have c1 : wr.cell? ⟨g, 1, none⟩ = some (.int .i64 b) := HInt.out 1 (by simp)
        have c2 : wr.cell? ⟨g, 2, none⟩ = some (.int .i64 cc) := HInt.out 2 (by simp)
        clear hR htl hn0 HInt
        rw [hn]
        by_cases h1 : a = 2
        · subst h1
          by_cases h2 : b = cc
          · subst h2
            obtain rfl : R = (b, 0) := by rw [hR2]; simp
            clear hR2
            go_wp2_with fail
            go_region
            go_wp2_with fail
            go_ret2
            exact ⟨rfl, by first | exact b_drewN HBW.out _ | exact b_drew HBW.out | exact HBW.out⟩
          · have t3 : (b == cc) = false := beq_eq_false_iff_ne.2 h2
            obtain rfl : R = (0, 9) := by rw [hR2]; simp [h2]
            clear hR2
            go_wp2_with fail
            go_region
            go_wp2_with fail
            go_ret2
            exact ⟨rfl, by first | exact b_drewN HBW.out _ | exact b_drew HBW.out | exact HBW.out⟩
        · have t3 : (a == 2) = false := beq_eq_false_iff_ne.2 h1
          obtain rfl : R = (0, 9) := by rw [hR2]; simp [h1]
          clear hR2
          go_wp2_with fail
          first | (go_quiet (fail)) | (fail)
          go_wp2_with fail
          go_ret2
          exact ⟨rfl, by first | exact b_drewN HBW.out _ | exact b_drew HBW.out | exact HBW.out⟩
      · have hn : l.length = 1 := hn0
        have hq : ∀ i, i < (ruleReq 18).length → (ruleReq 18).getD i 0 = 3 := by decide
        have hgd : (∀ i, i < ts.length → ts.getD i 0 = 3) → R = (1, 0) := fun h => hR.trans (by rw [show ruleRes 18 = 1 from rfl]; exact uni_good (by decide) (by decide) hq (htl.trans hn) h)
        have hbd : ∀ i, i < ts.length → ts.getD i 0 ≠ 3 → R = (0, 9) := fun i hi h => hR.trans (uni_bad (by decide) hq (htl.trans hn) i hi h)
        have HGd := Lib.hid hgd
        have HBd := Lib.hid hbd
        clear hgd hbd hR hq hn0
        rw [hn] at htl ⊢
        go_wp2_with fail
        go_loopw [16, 105] (fun _ i V => ∃ (k : Nat), i = .int .i64 k ∧ k ≤ 1 ∧ (∀ j, j < k → ts.getD j 0 = 3) ∧ V = wr) (fun _ i _ => 1 - (intOf i).toNat)
        case atStart => exact ⟨0, rfl, Nat.zero_le _, fun j hj => absurd hj (by omega), rfl⟩
        case round =>
          obtain ⟨k, rfl, hk, hall, rfl⟩ := hrel
          by_cases hlt : k < 1
          · have hx := HInt.out k (by omega)
            obtain ⟨x, hxx⟩ : ∃ a, ts.getD k 0 = a := ⟨_, rfl⟩
            have hb := HBd.out k (by omega)
            rw [hxx] at hx hb
            have hnext : x = 3 → ∀ j, j < k + 1 → ts.getD j 0 = 3 := fun e j hj => by
              rcases Nat.lt_or_ge j k with h | h
              · exact hall j h
              · obtain rfl : j = k := by omega
                rw [hxx]; exact e
            have HN := Lib.hid hnext
            have HB2 := Lib.hid hb
            clear hnext hb hxx hall
            by_cases he : x = 3
            · subst he
              go_wp2_with fail
              go_roundw
              case rel => exact ⟨k + 1, by go_num, by omega, (by first | exact HN.out rfl | exact HN.out trivial), by first | rfl | trivial⟩
              case measure => simp [intOf]; omega
            · have t3 : (x == 3) = false := beq_eq_false_iff_ne.2 he
              obtain rfl := HB2.out he
              go_wp2_with fail
              go_ret2
              exact ⟨rfl, HBW.out⟩
          · obtain rfl : k = 1 := by omega
            obtain rfl := HGd.out fun j hj => hall j (by omega)
            clear hall
            go_wp2_with fail
            go_ret2
            exact ⟨rfl, HBW.out⟩
end Go.Proofs.YtdefaeieiaegaaaGreatDoor.TyR
namespace Go.Proofs.YtdefaeieiaegaaaGreatDoor.TyRT
open Go.RowKit
open ExM Kit ExL GenL TyM Ty TyT TyO TyR ExN
set_option linter.unusedVariables false
attribute [local go_sem] Go.undef
set_option maxHeartbeats 2000000 in
theorem refOf_any (x : Ex) (fs : List GenL.Fd) (FA : Option Addr) (fc : Nat) (d : Nd) (A : Option Addr) (n c : Nat) (w : World) (hx : x.nodes ≤ 1048576) (hm : fs.length ≤ 1000000000000) (his : Is w x d A n) (hf : Flds w FA fs) :
    Calls Tryz.prog 151 #[.agg #[.int .i64 d.op, .int .i64 d.k, .int .i64 d.n, .string d.s, .string d.nm, .slice A n c], .slice FA fs.length fc] w fun e w' => e = .returned (.tuple #[.int .i64 (ofT (fts fs) x).1, .int .i64 (ofT (fts fs) x).2]) ∧ Below w.heap.size w w' := by
  obtain ⟨R, hR⟩ : ∃ R, ofT (fts fs) x = R := ⟨_, rfl⟩
  obtain ⟨e0, he0⟩ : ∃ e, x.checkE = e := ⟨_, rfl⟩
  rw [hR]
  have hck := fun W (hb : Below w.heap.size w W) => ExR.fault_any x d A n c W (by omega) (his.below hb)
  rw [he0] at hck
  have hty := fun W (hb : Below w.heap.size w W) (h0 : e0 = 0) => refTypeOf_any fs FA fc hm x d A n c W (checkE_zero (by rw [he0, h0])).2.2 (his.below hb) (hf.below hb)
  have hgood : e0 = 0 → Ex.ty (fts fs) x = R := fun h => by rw [← hR]; unfold ofT; rw [if_pos (by rw [he0, h])]
  have hbad : e0 ≠ 0 → R = (0, e0) := fun h => by rw [← hR]; unfold ofT; rw [he0, if_neg h]
  have HCk := Lib.hid hck
  have HTy := Lib.hid hty
  have HG := Lib.hid hgood
  have HB := Lib.hid hbad
  clear hck hty hgood hbad hR he0 his hf
  go_enter Tryz.func151, Tryz.ntmps151
  go_wp2_with fail
  refine (HCk.out _ (b_new w _)).mono ?_; rintro e w1 ⟨rfl, hb1⟩
  obtain ⟨c0, c1, c2, c3, c4, c5⟩ := ((ExV.Box.new w d A n c).below hb1).cells
  have HBW := Lib.hid (b_then hb1)
  clear hb1
  by_cases h0 : e0 = 0
  · subst h0
    have hg := HG.out (by first | rfl | trivial)
    have hty := HTy.out w1 HBW.out (by first | rfl | trivial)
    rw [hg] at hty
    have HT2 := Lib.hid hty
    clear hty hg HG HB HTy HCk
    go_wp2_with fail
    refine HT2.out.mono ?_; rintro e w2 ⟨rfl, hb2⟩
    have HB2 := Lib.hid (HBW.out.trans (hb2.mono HBW.out.size))
    clear hb2
    go_wp2_with fail
    go_ret2
    exact ⟨rfl, HB2.out⟩
  · have t1 : (e0 == 0) = false := beq_eq_false_iff_ne.2 h0
    obtain rfl := HB.out h0
    go_wp2_with fail
    go_ret2
    exact ⟨rfl, HBW.out⟩
set_option maxHeartbeats 2000000 in
theorem refFits_any (x : Ex) (fs : List GenL.Fd) (FA : Option Addr) (fc : Nat) (want : Int) (d : Nd) (A : Option Addr) (n c : Nat) (w : World) (hx : x.nodes ≤ 1048576) (hm : fs.length ≤ 1000000000000) (his : Is w x d A n) (hf : Flds w FA fs) :
    Calls Tryz.prog 103 #[.agg #[.int .i64 d.op, .int .i64 d.k, .int .i64 d.n, .string d.s, .string d.nm, .slice A n c], .slice FA fs.length fc, .int .i64 want] w fun e w' => e = .returned (.int .i64 (fitsT (fts fs) x want)) ∧ Below w.heap.size w w' := by
  obtain ⟨t, e0, hR⟩ : ∃ t e, ofT (fts fs) x = (t, e) := ⟨_, _, rfl⟩
  have hres : fitsT (fts fs) x want = if e0 = 0 then (if t = want then 0 else 9) else e0 := by unfold fitsT; rw [hR]
  have hc := fun W (hb : Below w.heap.size w W) => refOf_any x fs FA fc d A n c W hx hm (his.below hb) (hf.below hb)
  rw [hR] at hc
  rw [hres]
  have HC := Lib.hid hc
  clear hc hres hR his hf
  go_enter Tryz.func103, Tryz.ntmps103
  go_wp2_with fail
  refine (HC.out _ (b_new w _)).mono ?_; rintro e w1 ⟨rfl, hb1⟩
  have HBW := Lib.hid (b_then hb1)
  clear hb1
  by_cases h0 : e0 = 0
  · subst h0
    by_cases ht : t = want
    · subst ht
      go_wp2_with fail
      go_ret
      exact ⟨by simp, HBW.out⟩
    · have t1 : (t == want) = false := beq_eq_false_iff_ne.2 ht
      go_wp2_with fail
      go_ret
      exact ⟨by simp, HBW.out⟩
  · have t1 : (e0 == 0) = false := beq_eq_false_iff_ne.2 h0
    go_wp2_with fail
    go_ret
    exact ⟨by simp, HBW.out⟩
end Go.Proofs.YtdefaeieiaegaaaGreatDoor.TyRT
