/- Contracts of package typing: typeOf, Of, Fits. -/
import Derived.Test.YthgcmficmodhiaaDoorTyMap
import Derived.Test.YthgcmficmodhiaaDoorExCheck
import Derived.Test.YthgcmficmodhiaaDoorNmCopy
import Derived.Laws.OwnMore
import Derived.OwnWalk
namespace Go.Proofs.YthgcmficmodhiaaDoor.TyO
open Go.RowKit
open ExM Kit ExL GenL TyM Ty TyT ExN
set_option linter.unusedVariables false

theorem infoI : (Tryd.prog.info? 3).map (fun i => (i.zero, i.size, i.bytes)) = some (some (.int .i64 0), 1, 8) := by kernel_rfl
def vals (l : List (Int × Int)) : List Value := l.map fun p => .int .i64 p.1
theorem vals_len (l : List (Int × Int)) : (vals l).length = l.length := by unfold vals; rw [List.length_map]
theorem vals_snoc (l : List (Int × Int)) (p : Int × Int) : vals (l ++ [p]) = vals l ++ [.int .i64 p.1] := by unfold vals; rw [List.map_append]; rfl
theorem ints_vals (w : World) (b : Nat) (l : List (Int × Int)) (h : ∀ j, j < l.length → w.cell? ⟨b, j, none⟩ = (vals l)[j]?) : IntsAt w b (l.map (·.1)) := fun i hi => by
  rw [List.length_map] at hi
  rw [h i hi]; unfold vals
  simp [hi]

/-- Between two operands. -/
structure TInv (w : World) (fs : List GenL.Fd) (l : List Ex) (g k : Nat) (wr : World) : Prop where
  le : k ≤ l.length
  err : errL (tyL (fts fs) (l.take k)) = 0
  row : ∃ r : List Value, wr.ownsRow w.heap.size 3 1 (.slice (some ⟨g, 0, none⟩) l.length l.length) l.length (vals (tyL (fts fs) (l.take k)) ++ r)
  below : Below w.heap.size w wr
theorem TInv.len {w : World} {fs : List GenL.Fd} {l : List Ex} {g k : Nat} {wr : World} (h : TInv w fs l g k wr) : (vals (tyL (fts fs) (l.take k))).length = k := by
  rw [vals_len, tyL_len, List.length_take]; have := h.le; omega
theorem TInv.cell {w : World} {fs : List GenL.Fd} {l : List Ex} {g k : Nat} {wr : World} (h : TInv w fs l g k wr) (hk : k < l.length) : (∃ v, wr.cell? ⟨g, k, none⟩ = some v) ∧ wr.frozen? ⟨g, k, none⟩ = false := by
  obtain ⟨r, hr⟩ := h.row
  have hl := hr.1
  exact ⟨⟨_, (hr.cellAt k (by omega)).trans (List.getElem?_eq_getElem (by omega))⟩, hr.frozenAt k⟩
theorem TInv.step {w : World} {fs : List GenL.Fd} {l : List Ex} {g k : Nat} {wr w1 : World} (h : TInv w fs l g k wr) (hk : k < l.length) (hb : Below wr.heap.size wr w1) (h0 : (Ex.ty (fts fs) l[k]).2 = 0) :
    TInv w fs l g (k + 1) (w1.setCell ⟨g, k, none⟩ (.int .i64 (Ex.ty (fts fs) l[k]).1)) := by
  refine ⟨hk, by rw [errL_at _ l k hk h.err, h0], ?_, ?_⟩
  · obtain ⟨r, hr⟩ := h.row
    have hl : (vals (tyL (fts fs) (l.take k)) ++ r).length = l.length * 1 := hr.1
    rw [List.length_append, h.len] at hl
    have hr1 := hr.kept (row := none) ⟨hb.os, hb.tape, hb.output, hb.size, fun k hk _ => hb.block k hk⟩ (.inr (by simp [Value.ownBlock]))
    refine ⟨r.drop 1, ?_⟩
    have hs := (hr1.stored k (.int .i64 (Ex.ty (fts fs) l[k]).1)).1
    rw [NmC.set_app _ _ 0 k (by have := h.len; omega)] at hs
    rw [tyL_at _ l k hk, vals_snoc]
    match r, hl, hs with
    | [], hl, _ => simp at hl; omega
    | x :: r, _, hs => simpa using hs
  · obtain ⟨r, hr⟩ := h.row
    have hg : w.heap.size ≤ g := by
      rcases hr.2 with ⟨h2, _⟩ | ⟨g', cap', cur, h2, h3, _⟩
      · simp at h2
      · injection h2 with h2; injection h2 with h2; injection h2 with h2; omega
    exact (h.below.trans (hb.mono h.below.size)).setCell (p := ⟨g, k, none⟩) hg _
theorem TInv.ints {w : World} {fs : List GenL.Fd} {l : List Ex} {g : Nat} {wr : World} (h : TInv w fs l g l.length wr) : IntsAt wr g ((tyL (fts fs) l).map (·.1)) := by
  obtain ⟨r, hr⟩ := h.row
  have hl := h.len
  rw [List.take_length] at hr hl
  exact ints_vals wr g _ fun j hj => by
    rw [hr.cellAt j (by rw [tyL_len] at hj; omega), List.getElem?_append_left (by rw [vals_len]; exact hj)]

set_option maxRecDepth 100000 in
set_option maxHeartbeats 2000000 in
theorem typeOf_any (fs : List GenL.Fd) (FA : Option Addr) (fc m : Nat) (hm : fs.length ≤ 1000000000000) : ∀ (x : Ex) (d : Nd) (A : Option Addr) (n c : Nat) (w : World), x.okN → Is w x d A n → Flds w FA fs → Rules w m →
    Calls Tryd.prog 49 #[.agg #[.int .i64 d.op, .int .i64 d.k, .int .i64 d.n, .string d.s, .string d.nm, .slice A n c], .slice FA fs.length fc, .map (some m)] w fun e w' => e = .returned (.tuple #[.int .i64 (Ex.ty (fts fs) x).1, .int .i64 (Ex.ty (fts fs) x).2]) ∧ Below w.heap.size w w' := by
  refine Ex.ind fun d l ih => ?_
  intro d' A n c w hok his hf hru
  rw [is_mk] at his
  obtain ⟨rfl, rfl, ⟨hmx, _⟩, his⟩ := his
  obtain ⟨o1, o2, o3⟩ := okN_op hok
  have hokl := ((okN_mk d' l).1 hok).2
  rw [ty_mk]
  obtain ⟨R, hR⟩ : ∃ R, tyN (fts fs) d' (tyL (fts fs) l) = R := ⟨_, rfl⟩
  rw [hR]
  have HS := Lib.hid his
  have HI := Lib.hid ih
  have HF := Lib.hid hf
  have HRu := Lib.hid hru
  have HOk := Lib.hid hokl
  by_cases p1 : d'.op = 1
  · obtain rfl : R = (d'.k, 0) := by rw [← hR]; unfold tyN; rw [if_pos p1]
    clear hR his ih hf hru hokl hok o3
    have t1 : (d'.op == 1) = true := by rw [p1]; rfl
    go_enter Tryd.func49, Tryd.ntmps49
    go_wp2_with fail
    go_ret2
    exact ⟨rfl, b_new _ _⟩
  have t1 : (d'.op == 1) = false := beq_eq_false_iff_ne.2 p1
  by_cases p2 : d'.op = 2
  · obtain rfl : R = fieldT (fts fs) d'.nm := by rw [← hR]; unfold tyN; rw [if_neg p1, if_pos p2]
    obtain ⟨op, k, n, s, nm⟩ := d'
    obtain rfl : op = 2 := p2
    have hc := field_any nm fs FA fc (w.alloc (.cells #[.int .i64 2, .int .i64 k, .int .i64 n, .string s, .string nm, .slice A l.length c] 40)) (hf.below (b_new _ _)) hm
    have HC := Lib.hid hc
    clear hR his ih hf hru hokl hok o3 hc t1 p1
    go_enter Tryd.func49, Tryd.ntmps49
    go_wp2_with fail
    refine HC.out.mono ?_; rintro e w1 ⟨rfl, rfl⟩
    go_wp2_with fail
    go_ret2
    exact ⟨rfl, b_new _ _⟩
  have t2 : (d'.op == 2) = false := beq_eq_false_iff_ne.2 p2
  have o3' : 1 ≤ l.length ∧ l.length ≤ 3 := by
    rw [o3]; exact ⟨arity_pos (by omega), by unfold arity; repeat' split
                                             all_goals omega⟩
  obtain ⟨l1, l3⟩ := o3'
  have hgood : errL (tyL (fts fs) l) = 0 → R = applyR (ruleReq d'.op) (ruleRes d'.op) ((tyL (fts fs) l).map (·.1)) := fun h => by
    rw [← hR]; unfold tyN; rw [if_neg p1, if_neg p2, if_pos h]
  have hbad : ∀ e, errL (tyL (fts fs) l) = e → e ≠ 0 → R = (0, e) := fun e h he => by
    rw [← hR]; unfold tyN; rw [if_neg p1, if_neg p2, h, if_neg he]
  have hreq : (ruleReq d'.op).length = l.length := by rw [ruleReq_len (by omega) o2, o3]
  obtain ⟨i0, hi, hz0, hz1, hz2⟩ := info_parts infoI
  have HG := Lib.hid hgood
  have HB := Lib.hid hbad
  have HQ := Lib.hid hreq
  have HO := Lib.hid (And.intro (show 3 ≤ d'.op by omega) o2)
  have hI0 : ∀ W', W'.ownsRow w.heap.size 3 1 (.slice (some ⟨w.heap.size + 1, 0, none⟩) l.length l.length) l.length (madeCells (Value.int .i64 0).cells (l.length * 1)).toList → (w.alloc (.cells #[.int .i64 d'.op, .int .i64 d'.k, .int .i64 d'.n, .string d'.s, .string d'.nm, .slice A l.length c] 40)).grownBy W' none → TInv w fs l (w.heap.size + 1) 0 W' := fun W' h1 h2 =>
    ⟨Nat.zero_le _, by simp [tyL_nil, errL], ⟨_, by simpa [tyL_nil, vals] using h1⟩, (b_new _ _).grown h2 (by simp) (fun k e => by cases e)⟩
  have HI0 := Lib.hid hI0
  have hbx : ∀ W', (w.alloc (.cells #[.int .i64 d'.op, .int .i64 d'.k, .int .i64 d'.n, .string d'.s, .string d'.nm, .slice A l.length c] 40)).grownBy W' none → W'.cell? ⟨w.heap.size, 0, none⟩ = some (.int .i64 d'.op) ∧ W'.cell? ⟨w.heap.size, 5, none⟩ = some (.slice A l.length c) := fun W' h =>
    ⟨h.cell (by simp [go_sem]) (by simp), h.cell (by simp [go_sem]) (by simp)⟩
  have HBx := Lib.hid hbx
  clear hbx hR his ih hf hru hokl hok o3 hgood hbad hreq hI0 o1 o2 p1 p2
  go_enter Tryd.func49, Tryd.ntmps49
  go_wp2_with ((at_make; refine wpList_make_full _ rfl _ _ 76 rfl w.heap.size 3 i0 _ 1 Tryd.underlying76 hi hz0 hz1 .i64 .i64 _ _ l.length rfl rfl rfl rfl (by rw [hz2]; omega) (by unfold maxLen; omega) (by simp) ?_; intro w1 hown hgrow; obtain ⟨b0, b5⟩ := HBx.out w1 hgrow))
  rw [World.size_alloc] at hown
  have hI := HI0.out w1 hown hgrow
  have HBx2 := Lib.hid (HBx.out w1 hgrow)
  have hsz : w.heap.size + 1 < w1.heap.size := (hown.lt (w.heap.size + 1) rfl).2
  have sz1 := Lib.hid hsz
  have HIv := Lib.hid hI
  clear hI hown hgrow b0 b5 HI0 HBx
  go_loopw [9, 11, 12, 35] (fun _ _ _ i wr => ∃ (k : Nat), i = .int .i64 k ∧ TInv w fs l (w.heap.size + 1) k wr ∧ (wr.cell? ⟨w.heap.size, 0, none⟩ = some (.int .i64 d'.op)) ∧ w.heap.size + 1 < wr.heap.size) (fun _ _ _ i _ => l.length - (intOf i).toNat)
  case atStart => exact ⟨0, rfl, HIv.out, HBx2.out.1, sz1.out⟩
  case round =>
    obtain ⟨k, rfl, hV, hop, hws⟩ := hrel
    have hk := hV.le
    have HV := Lib.hid hV
    clear hV
    by_cases hlt : k < l.length
    · obtain ⟨a, d2, B, m2, c2, rfl, hat, hi⟩ := HS.out k hlt
      have hbw := HV.out.below
      obtain ⟨h0, h1, h2, h3, h4, h5⟩ := hat.below hbw
      have hc := HI.out _ (List.getElem_mem hlt) d2 B m2 c2 (wr.alloc (.cells #[.int .i64 d2.op, .int .i64 d2.k, .int .i64 d2.n, .string d2.s, .string d2.nm, .slice B m2 c2] 40)) (HOk.out _ (List.getElem_mem hlt)) ((hi.below hbw).alloc _) ((HF.out.below hbw).below (b_new _ _)) ((HRu.out.below hbw).below (b_new _ _))
      obtain ⟨t, ht⟩ : ∃ a, (Ex.ty (fts fs) l[k]).1 = a := ⟨_, rfl⟩
      obtain ⟨e0, he⟩ : ∃ a, (Ex.ty (fts fs) l[k]).2 = a := ⟨_, rfl⟩
      rw [ht, he] at hc
      have hst : ∀ W, Below wr.heap.size wr W → e0 = 0 → TInv w fs l (w.heap.size + 1) (k + 1) (W.setCell ⟨w.heap.size + 1, k, none⟩ (.int .i64 t)) := fun W hb h => by
        rw [← ht]; exact HV.out.step hlt hb (by rw [he]; exact h)
      have hbd : e0 ≠ 0 → R = (0, e0) := fun h => HB.out e0 (by rw [errL_stop _ l k hlt HV.out.err (by rw [he]; exact h), he]) h
      obtain ⟨⟨v0, hv0⟩, hfz⟩ := HV.out.cell hlt
      have HC := Lib.hid hc
      have HSt := Lib.hid hst
      have HBd := Lib.hid hbd
      have HBW := Lib.hid hbw
      clear hc hst hbd hi hat ht he hbw
      go_wp2_with fail
      refine HC.out.mono ?_; rintro e w2 ⟨rfl, hb2⟩
      have hb3 : Below wr.heap.size wr w2 := b_then hb2
      have g0 := (hb3.cell (p := ⟨w.heap.size + 1, k, none⟩) hws).trans hv0
      have gz := (hb3.frozen (p := ⟨w.heap.size + 1, k, none⟩) hws).trans hfz
      have gop := (hb3.cell (p := ⟨w.heap.size, 0, none⟩) (by show w.heap.size < _; omega)).trans hop
      have hws2 : w.heap.size + 1 < w2.heap.size := Nat.lt_of_lt_of_le hws hb3.size
      have hbE : Below w.heap.size w w2 := HBW.out.trans (hb3.mono HBW.out.size)
      have HBE := Lib.hid hbE
      have HI3 := Lib.hid (HSt.out w2 hb3)
      clear hb2 hb3 hbE h0 h1 h2 h3 h4 h5 hop hv0 hfz
      by_cases h0 : e0 = 0
      · subst h0
        go_wp2_with fail
        go_roundw
        case rel => exact ⟨k + 1, by go_num, (by first | exact HI3.out rfl | exact HI3.out trivial), (World.cell?_of_block (a := ⟨w.heap.size, 0, none⟩) (Below.heap_setCell w2 ⟨w.heap.size + 1, k, none⟩ _ w.heap.size (by simp))).trans gop, by rw [sz_set]; exact hws2⟩
        case measure => simp [intOf]; omega
      · have t3 : (e0 == 0) = false := beq_eq_false_iff_ne.2 h0
        obtain rfl := HBd.out h0
        go_wp2_with fail
        go_ret2
        exact ⟨rfl, HBE.out⟩
    · have hkl : k = l.length := by omega
      subst hkl
      have hbw := HV.out.below
      obtain ⟨rb, rc, hlook, hri⟩ := (HRu.out.below hbw).look HO.out.1 HO.out.2
      have herr := HV.out.err
      rw [List.take_length] at herr
      have hR := HG.out herr
      have hap := apply_any (ruleReq d'.op) ((tyL (fts fs) l).map (·.1)) (ruleRes d'.op) rb (w.heap.size + 1) rc l.length wr hri HV.out.ints (by rw [HQ.out, List.length_map, tyL_len]; exact Nat.le_refl _) (by rw [List.length_map, tyL_len]; exact l1) (by rw [List.length_map, tyL_len]; omega)
      rw [← hR, List.length_map, tyL_len, HQ.out] at hap
      rw [HQ.out] at hlook
      have HA := Lib.hid hap
      have HBW := Lib.hid hbw
      clear hap hri herr hR hbw
      go_wp2_with fail
      refine HA.out.mono ?_; rintro e w2 ⟨rfl, hb2⟩
      have hbE : Below w.heap.size w w2 := HBW.out.trans (hb2.mono HBW.out.size)
      have HBE := Lib.hid hbE
      clear hb2 hbE
      go_wp2_with fail
      go_ret2
      exact ⟨rfl, HBE.out⟩

theorem b_step {wc w w' : World} (h : Below wc.heap.size wc w) (h' : Below w.heap.size w w') : Below wc.heap.size wc w' := h.trans (h'.mono h.size)
set_option maxRecDepth 100000 in
set_option maxHeartbeats 2000000 in
theorem of_any (x : Ex) (fs : List GenL.Fd) (FA : Option Addr) (fc : Nat) (d : Nd) (A : Option Addr) (n c : Nat) (w : World) (hm : fs.length ≤ 1000000000000) (his : Is w x d A n) (hf : Flds w FA fs) (hT : Tab w) :
    Calls Tryd.prog 37 #[.agg #[.int .i64 d.op, .int .i64 d.k, .int .i64 d.n, .string d.s, .string d.nm, .slice A n c], .slice FA fs.length fc] w fun e w' => e = .returned (.tuple #[.int .i64 (ofT (fts fs) x).1, .int .i64 (ofT (fts fs) x).2]) ∧ Below w.heap.size w w' := by
  obtain ⟨R, hR⟩ : ∃ R, ofT (fts fs) x = R := ⟨_, rfl⟩
  obtain ⟨e0, he0⟩ : ∃ e, x.checkE = e := ⟨_, rfl⟩
  rw [hR]
  have hck := fun W (hb : Below w.heap.size w W) => ExC.check_any x d A n c W (his.below hb) (hT.below hb)
  rw [he0] at hck
  have hty := fun m W (hb : Below w.heap.size w W) (h0 : e0 = 0) (hru : Rules W m) => typeOf_any fs FA fc m hm x d A n c W (checkE_zero (by rw [he0, h0])).2.2 (his.below hb) (hf.below hb) hru
  have hgood : e0 = 0 → Ex.ty (fts fs) x = R := fun h => by rw [← hR]; unfold ofT; rw [if_pos (by rw [he0, h])]
  have hbad : e0 ≠ 0 → R = (0, e0) := fun h => by rw [← hR]; unfold ofT; rw [he0, if_neg h]
  have HCk := Lib.hid hck
  have HTy := Lib.hid hty
  have HG := Lib.hid hgood
  have HB := Lib.hid hbad
  clear hck hty hgood hbad hR he0 his hf hT
  go_enter Tryd.func37, Tryd.ntmps37
  go_wp2_with fail
  refine (HCk.out _ (b_new w _)).mono ?_; rintro e w1 ⟨rfl, hb1⟩
  have hbx := (ExV.Box.new w d A n c).below hb1
  have hb1w : Below w.heap.size w w1 := b_then hb1
  have HBW := Lib.hid hb1w
  have hcl : ∀ W, Below w1.heap.size w1 W → W.cell? ⟨w.heap.size, 0, none⟩ = some (.int .i64 d.op) ∧ W.cell? ⟨w.heap.size, 1, none⟩ = some (.int .i64 d.k) ∧ W.cell? ⟨w.heap.size, 2, none⟩ = some (.int .i64 d.n) ∧ W.cell? ⟨w.heap.size, 3, none⟩ = some (.string d.s) ∧ W.cell? ⟨w.heap.size, 4, none⟩ = some (.string d.nm) ∧ W.cell? ⟨w.heap.size, 5, none⟩ = some (.slice A n c) := fun W hb => (hbx.below hb).cells
  have HCells := Lib.hid hcl
  clear hb1 hbx hb1w hcl
  by_cases h0 : e0 = 0
  · subst h0
    have hg := HG.out (by first | rfl | trivial)
    have hty := fun m W (hb : Below w1.heap.size w1 W) (hru : Rules W m) => HTy.out m W (HBW.out.trans (hb.mono HBW.out.size)) rfl hru
    rw [hg] at hty
    have HT2 := Lib.hid hty
    obtain ⟨c0, c1, c2, c3, c4, c5⟩ := HCells.out w1 (Below.refl _ _)
    have hbl := Below.refl w1.heap.size w1
    clear hty hg HG HB HTy HCk
    go_wp2_with fail
    go_region_held3 (fun W => W.cell? ⟨w.heap.size, 0, none⟩ = some (.int .i64 d.op) ∧ W.cell? ⟨w.heap.size, 1, none⟩ = some (.int .i64 d.k) ∧ W.cell? ⟨w.heap.size, 2, none⟩ = some (.int .i64 d.n) ∧ W.cell? ⟨w.heap.size, 3, none⟩ = some (.string d.s) ∧ W.cell? ⟨w.heap.size, 4, none⟩ = some (.string d.nm) ∧ W.cell? ⟨w.heap.size, 5, none⟩ = some (.slice A n c)) (first | (with_reducible exact HCells.out _ hbl) | (with_reducible exact HCells.out _ (b_drew hbl)))
      (first | (go_at_call 50; refine (rules_any _).mono ?_; rintro e wn ⟨⟨m, rfl, hru⟩, hbn⟩; have hbl : Below w1.heap.size w1 wn := (by (first | (exact b_step hbl hbn) | (exact b_step (b_drew hbl) hbn)))) | (go_at_call 49; (with_reducible refine (HT2.out _ _ ?_ ?_).mono ?_); (first | exact hbl | exact b_drew hbl); (first | exact hru | exact hru.below (b_drew (Below.refl _ _))); rintro e wk ⟨rfl, hbk⟩; have hbl : Below w1.heap.size w1 wk := (by (first | (exact b_step hbl hbk) | (exact b_step (b_drew hbl) hbk)))))
    go_wp2_with fail
    go_ret2
    exact ⟨rfl, HBW.out.trans (hbl.mono HBW.out.size)⟩
  · have t1 : (e0 == 0) = false := beq_eq_false_iff_ne.2 h0
    obtain rfl := HB.out h0
    obtain ⟨c0, c1, c2, c3, c4, c5⟩ := HCells.out w1 (Below.refl _ _)
    go_wp2_with fail
    go_ret2
    exact ⟨rfl, HBW.out⟩

set_option maxRecDepth 100000 in
set_option maxHeartbeats 2000000 in
theorem fits_any (x : Ex) (fs : List GenL.Fd) (FA : Option Addr) (fc : Nat) (want : Int) (d : Nd) (A : Option Addr) (n c : Nat) (w : World) (hm : fs.length ≤ 1000000000000) (his : Is w x d A n) (hf : Flds w FA fs) (hT : Tab w) :
    Calls Tryd.prog 18 #[.agg #[.int .i64 d.op, .int .i64 d.k, .int .i64 d.n, .string d.s, .string d.nm, .slice A n c], .slice FA fs.length fc, .int .i64 want] w fun e w' => e = .returned (.int .i64 (fitsT (fts fs) x want)) ∧ Below w.heap.size w w' := by
  obtain ⟨t, e0, hR⟩ : ∃ t e, ofT (fts fs) x = (t, e) := ⟨_, _, rfl⟩
  have hres : fitsT (fts fs) x want = if e0 = 0 then (if t = want then 0 else 9) else e0 := by unfold fitsT; rw [hR]
  have hc := fun W (hb : Below w.heap.size w W) => of_any x fs FA fc d A n c W hm (his.below hb) (hf.below hb) (hT.below hb)
  rw [hR] at hc
  rw [hres]
  have HC := Lib.hid hc
  clear hc hres hR his hf hT
  go_enter Tryd.func18, Tryd.ntmps18
  go_wp2_with fail
  refine (HC.out _ (b_new w _)).mono ?_; rintro e w1 ⟨rfl, hb1⟩
  have HBW := Lib.hid (b_then hb1)
  clear hb1
  by_cases h0 : e0 = 0
  · subst h0
    by_cases ht : t = want
    · subst ht
      go_wp2_with fail
      go_ret
      exact ⟨by simp, HBW.out⟩
    · have t1 : (t == want) = false := beq_eq_false_iff_ne.2 ht
      go_wp2_with fail
      go_ret
      exact ⟨by simp, HBW.out⟩
  · have t1 : (e0 == 0) = false := beq_eq_false_iff_ne.2 h0
    go_wp2_with fail
    go_ret
    exact ⟨rfl, HBW.out⟩
end Go.Proofs.YthgcmficmodhiaaDoor.TyO
