/- The reference's valued: what it calls, and its map of four comparisons. The reference's valued: the value of a right formula. The reference's valued: And, Or. The reference's valued: all other operators. The reference's valued: the value of a right formula, whole. -/
import Derived.Maps.Own
import Derived.Maps.OwnSet
import Derived.Maps.AppendAt
import Derived.Maps.Range
import Derived.Maps.RangeWalk
import Derived.Test.YtehkebncdahmcaaGreatDoorEvEval
import Derived.Test.YtehkebncdahmcaaGreatDoorNumRef
import Derived.Test.YtehkebncdahmcaaGreatDoorNumQuo
import Derived.Test.YtehkebncdahmcaaGreatDoorValueCmp
import Derived.Deep.RegionHeld3
import Derived.Deep.DrawnRows
import Derived.Deep.DeepCutAuto
import Derived.Deep.AppendLies
import Derived.Laws.Concat
namespace Go.Proofs.YtehkebncdahmcaaGreatDoor.Vd
open Go.RowKit Go.Maps
open NumM ValM StrM ExM NmM TyM EvM Kit ExL ExV Ev EvC EvO EvF
set_option linter.unusedVariables false

theorem eqs_of (s t : ByteArray) : (s.toList == t.toList) = decide (s = t) := by
  rw [ByteArray.toList_eq, ByteArray.toList_eq]
  by_cases h : s = t
  · subst h; simp
  · rw [decide_eq_false h, beq_eq_false_iff_ne]
    intro e
    apply h
    cases s with | mk a => cases t with | mk b => exact congrArg _ (Array.toList_inj.1 e)
def ValOut (v : Vl) (w : World) (e : Ending) (w' : World) : Prop := e = .returned (.agg #[.int .i64 v.k, .int .i64 v.n, .string v.s]) ∧ Below w.heap.size w w'
set_option maxHeartbeats 1000000 in
theorem no_any (n : Int) (w : World) : Calls Tryz.prog 67 #[.int .i64 n] w fun e w' => e = .returned (.agg #[.int .i64 5, .int .i64 n, .string ⟨#[]⟩]) ∧ Below w.heap.size w w' := by
  go_enter Tryz.func67, Tryz.ntmps67
  go_wp2_with fail
  refine bodyPost_ret (v := .agg #[.int .i64 5, .int .i64 n, .string ⟨#[]⟩]) (by simp [results, Tryz.results67, go_sem]) rfl ⟨rfl, b_new _ _⟩
set_option maxHeartbeats 1000000 in
theorem yes_any (b : Bool) (w : World) : Calls Tryz.prog 69 #[.bool b] w fun e w' => e = .returned (.agg #[.int .i64 2, .int .i64 (bitI b), .string ⟨#[]⟩]) ∧ Below w.heap.size w w' := by
  cases b
  · show Calls _ _ _ w fun e w' => e = .returned (.agg #[.int .i64 2, .int .i64 0, .string ⟨#[]⟩]) ∧ Below w.heap.size w w'
    go_enter Tryz.func69, Tryz.ntmps69
    go_wp2_with fail
    refine bodyPost_ret (v := .agg #[.int .i64 2, .int .i64 0, .string ⟨#[]⟩]) (by simp [results, Tryz.results69, go_sem]) rfl ⟨rfl, b_new _ _⟩
  · show Calls _ _ _ w fun e w' => e = .returned (.agg #[.int .i64 2, .int .i64 1, .string ⟨#[]⟩]) ∧ Below w.heap.size w w'
    go_enter Tryz.func69, Tryz.ntmps69
    go_wp2_with fail
    refine bodyPost_ret (v := .agg #[.int .i64 2, .int .i64 1, .string ⟨#[]⟩]) (by simp [results, Tryz.results69, go_sem]) rfl ⟨rfl, b_new _ _⟩
theorem numof_any (op a b : Int) (h : 5 ≤ op ∧ op ≤ 9) (w : World) : Calls Tryz.prog 70 #[.int .i64 op, .int .i64 a, .int .i64 b] w fun e w' => e = .returned (.tuple #[.int .i64 (arN op a b).1, .int .i64 (arN op a b).2]) ∧ w = w' := by
  have : op = 5 ∨ op = 6 ∨ op = 7 ∨ op = 8 ∨ op = 9 := by omega
  rcases this with rfl | rfl | rfl | rfl | rfl
  · exact NumRef.mul_any a b w
  · exact NumRef.div_any a b w
  · exact NumRef.mod_any a b w
  · exact NumRef.add_any a b w
  · exact NumRef.sub_any a b w

/-! ### The map of comparisons -/
/-- An element is read as the value that it is. -/
def hv (v : Value) : Option (DataW Value × List MemPlace) := some (.held v, [])
theorem intKeyed : Keyed Tryz.prog 3 := int_keyed Tryz.underlying3
theorem keyI {a : Int} (h : (Lit.int .i64 a).wf = true) : keyOf Tryz.prog 3 (.int .i64 a) = some (.int .i64 a) := keyOf_int_mk Tryz.underlying3 h
structure BP (W0 W : World) (m n : Nat) (kv : List (Int × Bool)) : Prop where
  grown : W0.grownBy W (some m)
  own : ∃ D, W.ownsMap Tryz.prog 3 hv m n D ∧ ∀ p ∈ kv, D.atKey (.int .i64 p.1) .nil = .held (.bool p.2)
theorem BP.made (w : World) : BP (w.alloc (.map #[] 0)) (w.alloc (.map #[] 0)) w.heap.size 0 [] :=
  ⟨World.grownBy.refl _ _, _, World.ownsMap_made w _ _ _, fun p h => absurd h (by simp)⟩
theorem BP.put {W0 W : World} {m n : Nat} {kv : List (Int × Bool)} (h : BP W0 W m n kv) (hn : n < maxLen) (op : Int) (b : Bool) (hw : (Lit.int .i64 op).wf = true) (hnew : ∀ p ∈ kv, p.1 ≠ op) :
    ∃ w', (Instr.mapUpdate 110 (.map (some m)) (.int .i64 op) (.bool b)).run Tryz.prog W = .ok () w' ∧ BP W0 w' m (n + 1) ((op, b) :: kv) := by
  obtain ⟨D, hD, hall⟩ := h.own
  obtain ⟨w', hrun, r1, r2⟩ := hD.update intKeyed Tryz.underlying110 hn (keyI hw) (val := .bool b) (d := .held (.bool b)) (ps := []) rfl
  refine ⟨w', hrun, h.grown.trans r2, _, r1, fun p hp => ?_⟩
  rcases List.mem_cons.1 hp with e | hp
  · subst e; exact atKey_put_same hD.isMap (by trivial) _ _
  · rw [atKey_put_other (fun e => hnew p hp (by injection e))]; exact hall p hp
set_option maxRecDepth 100000 in
theorem BP.look {W0 W : World} {m n : Nat} {kv : List (Int × Bool)} (h : BP W0 W m n kv) {op : Int} {b : Bool} (hp : (op, b) ∈ kv) (hw : (Lit.int .i64 op).wf = true) : (Instr.lookup 110 (.map (some m)) (.int .i64 op) false).run Tryz.prog W = .ok (.bool b) W := by
  obtain ⟨D, hD, hall⟩ := h.own
  have h3 := hall _ hp
  simp only at h3
  obtain ⟨es, clock, hb, F, _, rfl⟩ := hD
  rcases Maps.fit_look false intKeyed Tryz.underlying110 (z := .bool false) (by kernel_rfl) hb F (keyI hw) with ⟨hrun, _, hat⟩ | ⟨e0, y, _, _, hrun, hRv, hat, _⟩
  · have := hat .nil
    rw [h3] at this; cases this
  · have := hat .nil
    rw [h3] at this
    have hy : y = (.held (e0.val), []) := by
      have : hv e0.val = some y := hRv
      unfold hv at this; injection this with this; exact this.symm
    subst hy
    have h6 : DataW.held (.bool b) = DataW.held e0.val := this
    injection h6 with h5
    rw [hrun, ← h5]; rfl
/-- All four, laid one behind the other. -/
theorem four_maps (w : World) (b1 b2 b3 b4 : Bool) : ∃ w1 w2 w3 w4 : World,
    (Instr.mapUpdate 110 (.map (some w.heap.size)) (.int .i64 11) (.bool b1)).run Tryz.prog (w.alloc (.map #[] 0)) = .ok () w1 ∧
    (Instr.mapUpdate 110 (.map (some w.heap.size)) (.int .i64 12) (.bool b2)).run Tryz.prog w1 = .ok () w2 ∧
    (Instr.mapUpdate 110 (.map (some w.heap.size)) (.int .i64 13) (.bool b3)).run Tryz.prog w2 = .ok () w3 ∧
    (Instr.mapUpdate 110 (.map (some w.heap.size)) (.int .i64 14) (.bool b4)).run Tryz.prog w3 = .ok () w4 ∧
    (Instr.lookup 110 (.map (some w.heap.size)) (.int .i64 11) false).run Tryz.prog w4 = .ok (.bool b1) w4 ∧
    (Instr.lookup 110 (.map (some w.heap.size)) (.int .i64 12) false).run Tryz.prog w4 = .ok (.bool b2) w4 ∧
    (Instr.lookup 110 (.map (some w.heap.size)) (.int .i64 13) false).run Tryz.prog w4 = .ok (.bool b3) w4 ∧
    (Instr.lookup 110 (.map (some w.heap.size)) (.int .i64 14) false).run Tryz.prog w4 = .ok (.bool b4) w4 ∧ Below w.heap.size w w4 := by
  have h0 := BP.made w
  obtain ⟨w1, r1, h1⟩ := h0.put (by unfold maxLen; omega) 11 b1 rfl (fun p hp => absurd hp (by simp))
  obtain ⟨w2, r2, h2⟩ := h1.put (by unfold maxLen; omega) 12 b2 rfl (fun p hp => by simp at hp; subst hp; simp)
  obtain ⟨w3, r3, h3⟩ := h2.put (by unfold maxLen; omega) 13 b3 rfl (fun p hp => by simp at hp; rcases hp with e | e <;> subst e <;> simp)
  obtain ⟨w4, r4, h4⟩ := h3.put (by unfold maxLen; omega) 14 b4 rfl (fun p hp => by simp at hp; rcases hp with e | e | e <;> subst e <;> simp)
  refine ⟨w1, w2, w3, w4, r1, r2, r3, r4, h4.look (by simp) rfl, h4.look (by simp) rfl, h4.look (by simp) rfl, h4.look (by simp) rfl, ?_⟩
  exact (b_new w (.map #[] 0)).grown h4.grown (by simp) (fun k e => by injection e; omega)
theorem ord_cases (a b : Vl) : ordVl a b = -1 ∨ ordVl a b = 0 ∨ ordVl a b = 1 := by
  unfold ordVl
  split
  · exact cmp_cases _ _
  · rcases int_cases a.n b.n with h | h | h <;> omega
theorem cmpB_all (o : Int) (h : o = -1 ∨ o = 0 ∨ o = 1) : cmpB 11 o = (o == -1) ∧ cmpB 12 o = (o != 1) ∧ cmpB 13 o = (o == 0) ∧ cmpB 14 o = (o != 0) := by
  rcases h with rfl | rfl | rfl <;> decide
theorem resV_bad (e : Int) (v : Vl) (h : e ≠ 0) : resV (v, e) = flt e := by unfold resV; rw [if_neg h]
end Go.Proofs.YtehkebncdahmcaaGreatDoor.Vd
namespace Go.Proofs.YtehkebncdahmcaaGreatDoor.VdT
open Go.RowKit
open NumM ValM StrM ExM NmM TyM EvM Kit ExL ExV Ev EvC EvO EvF Vd
set_option linter.unusedVariables false

set_option maxRecDepth 100000 in
set_option maxHeartbeats 1000000 in
theorem vd_const (op k n : Int) (s nm : ByteArray) (A : Option Addr) (m c : Nat) (lv : Value) (w : World) (h : op = 1) :
    Calls Tryz.prog 43 #[.agg #[.int .i64 op, .int .i64 k, .int .i64 n, .string s, .string nm, .slice A m c], lv] w (ValOut ⟨k, n, s⟩ w) := by
  subst h
  go_enter Tryz.func43, Tryz.ntmps43
  go_wp2_with fail
  refine bodyPost_ret (v := .agg #[.int .i64 k, .int .i64 n, .string s]) (by simp [results, Tryz.results43, go_sem]) rfl ⟨rfl, b_more (b_new _ _) _⟩
set_option maxRecDepth 100000 in
set_option maxHeartbeats 2000000 in
theorem vd_ref (op k n : Int) (s nm : ByteArray) (A : Option Addr) (m c : Nat) (l : List Fc) (FA : Option Addr) (fc : Nat) (w : World) (h : op = 2) (hl : l.length ≤ 1000000000000) (hf : Fcs w FA l) :
    Calls Tryz.prog 43 #[.agg #[.int .i64 op, .int .i64 k, .int .i64 n, .string s, .string nm, .slice A m c], .slice FA l.length fc] w (ValOut (factV (fcs l) nm) w) := by
  subst h
  obtain ⟨R, hR⟩ : ∃ R, factV (fcs l) nm = R := ⟨_, rfl⟩
  rw [hR]
  have z0 := BV.new (w.alloc (.cells #[.int .i64 2, .int .i64 k, .int .i64 n, .string s, .string nm, .slice A m c] 26)) 0 0 ⟨#[]⟩
  rw [World.size_alloc] at z0
  have x0 := (Box.new w ⟨2, k, n, s, nm⟩ A m c).below (b_new _ (.cells #[.int .i64 0, .int .i64 0, .string ⟨#[]⟩] 23))
  have hbW := b_more (b_new w (.cells #[.int .i64 2, .int .i64 k, .int .i64 n, .string s, .string nm, .slice A m c] 26)) (.cells #[.int .i64 0, .int .i64 0, .string ⟨#[]⟩] 23)
  obtain ⟨W, hW⟩ : ∃ W, (w.alloc (.cells #[.int .i64 2, .int .i64 k, .int .i64 n, .string s, .string nm, .slice A m c] 26)).alloc (.cells #[.int .i64 0, .int .i64 0, .string ⟨#[]⟩] 23) = W := ⟨_, rfl⟩
  simp only at x0
  rw [hW] at z0 x0 hbW
  have HX := Lib.hid x0
  have HZ := Lib.hid z0
  have HB := Lib.hid hbW
  have HW := Lib.hid hW
  have HF := Lib.hid hf
  have HR := Lib.hid hR
  obtain ⟨m0, m1, m2, m3, m4, m5⟩ := x0.cells
  simp only at m0 m1 m2 m3 m4
  clear z0 x0 hbW hW hf hR
  go_enter Tryz.func43, Tryz.ntmps43
  go_upto_region 1 with fail
  rw [HW.out]
  go_wp2_with fail
  go_loopw [6, 31] (fun _ i wr => ∃ k : Nat, i = .int .i64 k ∧ k ≤ l.length ∧ Below W.heap.size W wr ∧ ∀ j (hj : j < (fcs l).length), j < k → (fcs l)[j].1 ≠ nm) (fun _ i _ => l.length - (intOf i).toNat)
  case atStart => exact ⟨0, rfl, by omega, Below.refl _ _, fun j hj h => by omega⟩
  case round =>
    obtain ⟨k, rfl, hk, hbr, hne⟩ := hrel
    have HNE := Lib.hid hne
    have HBR := Lib.hid hbr
    have hzr := HZ.out.below hbr
    clear hne
    by_cases hlt : k < l.length
    · obtain ⟨a, rfl, hat⟩ := (HF.out.below (b_trans HB.out hbr)) k hlt
      have hxr := HX.out.below hbr
      obtain ⟨p0, p1, p2, p3, p4, p5⟩ := hxr.cells
      simp only at p4
      have pl := hxr.lt
      obtain ⟨f, hfk⟩ : ∃ f, l[k] = f := ⟨_, rfl⟩
      have HFk := Lib.hid hfk
      rw [hfk] at hat
      obtain ⟨h0, h1, h2, h3, h4, h5, h6⟩ := hat
      obtain ⟨fnm, fkk, fkn, fks, fv⟩ := f
      obtain ⟨vk, vn, vs⟩ := fv
      simp only at h0 h1 h2 h3 h4 h5 h6
      have z0 := hzr.cells
      obtain ⟨z0, z1, z2⟩ := z0
      have zf := hzr.frozen
      have zl := hzr.lt
      by_cases he : fnm = nm
      · have t1 : (fnm.toList == nm.toList) = true := by rw [eqs_of]; exact decide_eq_true he
        have hres : R = ⟨vk, vn, vs⟩ := by
          rw [← HR.out, factV_hit (fcs l) nm k (by rw [fcs_len]; exact hlt) HNE.out (by rw [fcs_at _ _ hlt, HFk.out]; exact he), fcs_at _ _ hlt, HFk.out]
        have HRes := Lib.hid hres
        clear hres hbr hzr hxr hfk he
        go_wp2_with fail
        refine bodyPost_ret (v := .agg #[.int .i64 vk, .int .i64 vn, .string vs]) (by simp [results, Tryz.results43, go_sem, z0, z1, z2, zl]) rfl ⟨by rw [HRes.out], b_more (b_set3 (b_trans HB.out HBR.out) (w.heap.size + 1) (by omega) _ _ _) _⟩
      · have t1 : (fnm.toList == nm.toList) = false := by rw [eqs_of]; exact decide_eq_false he
        have hne2 : ∀ j (hj : j < (fcs l).length), j < k + 1 → (fcs l)[j].1 ≠ nm := fun j hj hjk => by
          by_cases e : j = k
          · subst e; rw [fcs_at _ _ hlt, HFk.out]; exact he
          · exact HNE.out j hj (by omega)
        have HN2 := Lib.hid hne2
        clear hne2 hbr hzr hxr hfk he
        go_wp2_with fail
        go_roundw
        case rel => exact ⟨k + 1, by go_num, by omega, b_more HBR.out _, HN2.out⟩
        case measure => simp [intOf]; omega
    · have hres : R = flt 5 := by
        rw [← HR.out]
        exact factV_none _ _ fun j hj => HNE.out j hj (by rw [fcs_len] at hj; omega)
      have HRes := Lib.hid hres
      clear hres hbr
      go_wp2_with fail
      refine (no_any 5 _).mono ?_; rintro e w3 ⟨rfl, hb3⟩
      have hz3 := hzr.below hb3
      obtain ⟨z0, z1, z2⟩ := hz3.cells
      have zf := hz3.frozen
      have zl := hz3.lt
      have HB3 := Lib.hid (b_trans (b_trans HB.out HBR.out) hb3)
      clear hb3 hz3 hzr
      go_wp2_with fail
      refine bodyPost_ret (v := .agg #[.int .i64 5, .int .i64 5, .string ⟨#[]⟩]) (by simp [results, Tryz.results43, go_sem, z0, z1, z2]) rfl ⟨by rw [HRes.out]; rfl, b_set3 HB3.out (w.heap.size + 1) (by omega) _ _ _⟩

/-- The contract of valued at a formula. -/
def VdAt (l : List Fc) (FA : Option Addr) (fc : Nat) (x : Ex) : Prop := ∀ (d : Nd) (A : Option Addr) (n c : Nat) (w : World), Is w x d A n → Fcs w FA l →
  Calls Tryz.prog 43 #[.agg #[.int .i64 d.op, .int .i64 d.k, .int .i64 d.n, .string d.s, .string d.nm, .slice A n c], .slice FA l.length fc] w (ValOut (Ex.ev (fcs l) x) w)
theorem at_lit {w : World} {a : Addr} {j : Nat} {d : Nd} {B : Option Addr} {n c : Nat} (h : At w (a.add j) d B n c) (hj : j ≠ 0) : w.cell? ⟨a.block, a.off + j, none⟩ = some (.int .i64 d.op) ∧ w.cell? ⟨a.block, a.off + j + 1, none⟩ = some (.int .i64 d.k) ∧ w.cell? ⟨a.block, a.off + j + 2, none⟩ = some (.int .i64 d.n) ∧ w.cell? ⟨a.block, a.off + j + 3, none⟩ = some (.string d.s) ∧ w.cell? ⟨a.block, a.off + j + 4, none⟩ = some (.string d.nm) ∧ w.cell? ⟨a.block, a.off + j + 5, none⟩ = some (.slice B n c) := by
  have e : a.add j = ⟨a.block, a.off + j, none⟩ := by unfold Addr.add; split <;> simp_all
  rw [e] at h
  exact h
/-- Operands that lie in a row. -/
theorem arg_at {w : World} {a : Addr} {l : List Ex} (h : ∀ (j : Nat) (h : j < l.length), ∃ a' d B n c, some a = some a' ∧ At w (a'.add (j * 6)) d B n c ∧ Is w l[j] d B n) (j : Nat) (hj : j < l.length) : ∃ d B n c, At w (a.add (j * 6)) d B n c ∧ Is w l[j] d B n := by
  obtain ⟨a', d, B, n, c, e, h1, h2⟩ := h j hj
  obtain rfl : a = a' := by injection e
  exact ⟨d, B, n, c, h1, h2⟩
set_option maxRecDepth 100000 in
set_option maxHeartbeats 4000000 in
/-- If. -/
theorem vd_if (k n : Int) (s nm : ByteArray) (xa xb xc : Ex) (A : Option Addr) (c : Nat) (l : List Fc) (FA : Option Addr) (fc : Nat) (w : World) (hok : (Ex.ev (fcs l) xa).ok) (hA : VdAt l FA fc xa) (hB : VdAt l FA fc xb) (hC : VdAt l FA fc xc)
    (hargs : ∀ (j : Nat) (h : j < [xa, xb, xc].length), ∃ a d B n c, A = some a ∧ At w (a.add (j * 6)) d B n c ∧ Is w [xa, xb, xc][j] d B n) (hf : Fcs w FA l) :
    Calls Tryz.prog 43 #[.agg #[.int .i64 17, .int .i64 k, .int .i64 n, .string s, .string nm, .slice A 3 c], .slice FA l.length fc] w (ValOut (choV [Ex.ev (fcs l) xa, Ex.ev (fcs l) xb, Ex.ev (fcs l) xc]) w) := by
  obtain ⟨a, _, _, _, _, rfl, _, _⟩ := hargs 0 (by simp)
  obtain ⟨da, Ba, na, ca, hatA, hisA⟩ := arg_at hargs 0 (by simp)
  obtain ⟨db, Bb, nb, cb, hatB, hisB⟩ := arg_at hargs 1 (by simp)
  obtain ⟨dc, Bc, nc, cc, hatC, hisC⟩ := arg_at hargs 2 (by simp)
  simp only [List.getElem_cons_zero, List.getElem_cons_succ] at hisA hisB hisC
  have e0 : a.add (0 * 6) = a := by unfold Addr.add; simp
  rw [e0] at hatA
  obtain ⟨va, hva⟩ : ∃ v, Ex.ev (fcs l) xa = v := ⟨_, rfl⟩
  obtain ⟨vb, hvb⟩ : ∃ v, Ex.ev (fcs l) xb = v := ⟨_, rfl⟩
  obtain ⟨vc, hvc⟩ : ∃ v, Ex.ev (fcs l) xc = v := ⟨_, rfl⟩
  unfold VdAt at hA hB hC
  rw [hva] at hA hok
  rw [hvb] at hB
  rw [hvc] at hC
  rw [hva, hvb, hvc]
  have z0 := BV.new (w.alloc (.cells #[.int .i64 17, .int .i64 k, .int .i64 n, .string s, .string nm, .slice (some a) 3 c] 26)) 0 0 ⟨#[]⟩
  rw [World.size_alloc] at z0
  have x0 := (Box.new w ⟨17, k, n, s, nm⟩ (some a) 3 c).below (b_new _ (.cells #[.int .i64 0, .int .i64 0, .string ⟨#[]⟩] 23))
  have hbW := b_more (b_new w (.cells #[.int .i64 17, .int .i64 k, .int .i64 n, .string s, .string nm, .slice (some a) 3 c] 26)) (.cells #[.int .i64 0, .int .i64 0, .string ⟨#[]⟩] 23)
  obtain ⟨W, hW⟩ : ∃ W, (w.alloc (.cells #[.int .i64 17, .int .i64 k, .int .i64 n, .string s, .string nm, .slice (some a) 3 c] 26)).alloc (.cells #[.int .i64 0, .int .i64 0, .string ⟨#[]⟩] 23) = W := ⟨_, rfl⟩
  simp only at x0
  rw [hW] at z0 x0 hbW
  have HX := Lib.hid x0
  have HZ := Lib.hid z0
  have HB := Lib.hid hbW
  have HW := Lib.hid hW
  have HF := Lib.hid hf
  have HOk := Lib.hid hok
  have HcA := Lib.hid (hA da Ba na ca W (hisA.below hbW) (hf.below hbW))
  have HcB := Lib.hid (fun V (hV : Below w.heap.size w V) => hB db Bb nb cb V (hisB.below hV) (hf.below hV))
  have HcC := Lib.hid (fun V (hV : Below w.heap.size w V) => hC dc Bc nc cc V (hisC.below hV) (hf.below hV))
  rw [show 1 * 6 = 6 from rfl] at hatB
  rw [show 2 * 6 = 12 from rfl] at hatC
  have HatB := Lib.hid hatB
  have HatC := Lib.hid hatC
  obtain ⟨m0, m1, m2, m3, m4, m5⟩ := x0.cells
  simp only at m0 m1 m2 m3 m4
  obtain ⟨q0, q1, q2, q3, q4, q5⟩ := hatA.below hbW
  clear z0 x0 hbW hW hf hok hA hB hC hargs hatA hatB hatC hisA hisB hisC hva hvb hvc e0
  go_enter Tryz.func43, Tryz.ntmps43
  go_upto_region 1 with fail
  rw [HW.out]
  go_wp2_with fail
  refine HcA.out.mono ?_; rintro e w1 ⟨rfl, hb1⟩
  obtain ⟨ak, an, az⟩ := va
  have hv1 := BV.new w1 ak an az
  have hx1 := (HX.out.below hb1).below (b_new w1 (.cells #[.int .i64 ak, .int .i64 an, .string az] 23))
  have hz1 := (HZ.out.below hb1).below (b_new w1 (.cells #[.int .i64 ak, .int .i64 an, .string az] 23))
  have hbY := b_more (b_trans HB.out hb1) (.cells #[.int .i64 ak, .int .i64 an, .string az] 23)
  obtain ⟨Y, hY⟩ : ∃ Y, w1.alloc (.cells #[.int .i64 ak, .int .i64 an, .string az] 23) = Y := ⟨_, rfl⟩
  rw [hY] at hv1 hx1 hz1 hbY
  obtain ⟨u0, u1, u2⟩ := hv1.cells
  obtain ⟨p0, p1, p2, p3, p4, p5⟩ := hx1.cells
  simp only at p0
  obtain ⟨z0, z1, z2⟩ := hz1.cells
  have zf := hz1.frozen
  have zl := hz1.lt
  have HZ1 := Lib.hid hz1
  have HBY := Lib.hid hbY
  have HY := Lib.hid hY
  clear m0 m1 m2 m3 m4 m5 q0 q1 q2 q3 q4 q5 hb1 hv1 hx1 hz1 hbY hY
  go_upto_region 12 with fail
  rw [HY.out]
  have hk := ok_kind HOk.out
  simp only at hk
  have hk5 : ak = 1 ∨ ak = 2 ∨ ak = 3 ∨ ak = 4 ∨ ak = 5 := by omega
  rcases hk5 with rfl | rfl | rfl | rfl | rfl
  · have hch : choV [⟨1, an, az⟩, vb, vc] = flt 9 := rfl
    have HCh := Lib.hid hch
    clear hch hk
    go_wp2_with fail
    refine (no_any 9 _).mono ?_; rintro e w3 ⟨rfl, hb3⟩
    have hz3 := HZ1.out.below hb3
    obtain ⟨z0, z1, z2⟩ := hz3.cells
    have zf := hz3.frozen
    have zl := hz3.lt
    have HB3 := Lib.hid (b_trans HBY.out hb3)
    clear hb3 hz3
    go_wp2_with fail
    refine bodyPost_ret (v := .agg #[.int .i64 5, .int .i64 9, .string ⟨#[]⟩]) (by simp [results, Tryz.results43, go_sem, z0, z1, z2]) rfl ⟨by rw [HCh.out]; rfl, b_set3 HB3.out (w.heap.size + 1) (by omega) _ _ _⟩
  · have hn : an = 0 ∨ an = 1 := by
      rcases ok_cases HOk.out with g | g | g | g | g
      · exact absurd (show (2 : Int) = 1 from g.1) (by decide)
      · exact g.2.1
      · exact absurd (show (2 : Int) = 3 from g.1) (by decide)
      · exact absurd (show (2 : Int) = 4 from g.1) (by decide)
      · exact absurd (show (2 : Int) = 5 from g.1) (by decide)
    rcases hn with rfl | rfl
    · have hch : choV [⟨2, 0, az⟩, vb, vc] = vc := rfl
      have HCh := Lib.hid hch
      obtain ⟨q0, q1, q2, q3, q4, q5⟩ := at_lit (HatC.out.below HBY.out) (by decide)
      have hc := HcC.out Y HBY.out
      have HC := Lib.hid hc
      clear hch hk hc
      go_wp2_with fail
      refine (HC.out).mono ?_; rintro e w3 ⟨rfl, hb3⟩
      have hz3 := HZ1.out.below hb3
      obtain ⟨z0, z1, z2⟩ := hz3.cells
      have zf := hz3.frozen
      have zl := hz3.lt
      have HB3 := Lib.hid (b_trans HBY.out hb3)
      clear hb3 hz3
      go_wp2_with fail
      refine bodyPost_ret (v := .agg #[.int .i64 vc.k, .int .i64 vc.n, .string vc.s]) (by simp [results, Tryz.results43, go_sem, z0, z1, z2]) rfl ⟨by rw [HCh.out], b_set3 HB3.out (w.heap.size + 1) (by omega) _ _ _⟩
    · have hch : choV [⟨2, 1, az⟩, vb, vc] = vb := rfl
      have HCh := Lib.hid hch
      obtain ⟨q0, q1, q2, q3, q4, q5⟩ := at_lit (HatB.out.below HBY.out) (by decide)
      have hc := HcB.out Y HBY.out
      have HC := Lib.hid hc
      clear hch hk hc
      go_wp2_with fail
      refine (HC.out).mono ?_; rintro e w3 ⟨rfl, hb3⟩
      have hz3 := HZ1.out.below hb3
      obtain ⟨z0, z1, z2⟩ := hz3.cells
      have zf := hz3.frozen
      have zl := hz3.lt
      have HB3 := Lib.hid (b_trans HBY.out hb3)
      clear hb3 hz3
      go_wp2_with fail
      refine bodyPost_ret (v := .agg #[.int .i64 vb.k, .int .i64 vb.n, .string vb.s]) (by simp [results, Tryz.results43, go_sem, z0, z1, z2]) rfl ⟨by rw [HCh.out], b_set3 HB3.out (w.heap.size + 1) (by omega) _ _ _⟩
  · have hch : choV [⟨3, an, az⟩, vb, vc] = flt 9 := rfl
    have HCh := Lib.hid hch
    clear hch hk
    go_wp2_with fail
    refine (no_any 9 _).mono ?_; rintro e w3 ⟨rfl, hb3⟩
    have hz3 := HZ1.out.below hb3
    obtain ⟨z0, z1, z2⟩ := hz3.cells
    have zf := hz3.frozen
    have zl := hz3.lt
    have HB3 := Lib.hid (b_trans HBY.out hb3)
    clear hb3 hz3
    go_wp2_with fail
    refine bodyPost_ret (v := .agg #[.int .i64 5, .int .i64 9, .string ⟨#[]⟩]) (by simp [results, Tryz.results43, go_sem, z0, z1, z2]) rfl ⟨by rw [HCh.out]; rfl, b_set3 HB3.out (w.heap.size + 1) (by omega) _ _ _⟩
  · have hch : choV [⟨4, an, az⟩, vb, vc] = ⟨4, an, az⟩ := rfl
    have HCh := Lib.hid hch
    clear hch hk
    go_wp2_with fail
    refine bodyPost_ret (v := .agg #[.int .i64 4, .int .i64 an, .string az]) (by simp [results, Tryz.results43, go_sem, z0, z1, z2]) rfl ⟨by rw [HCh.out], b_set3 HBY.out (w.heap.size + 1) (by omega) _ _ _⟩
  · have hch : choV [⟨5, an, az⟩, vb, vc] = ⟨5, an, az⟩ := rfl
    have HCh := Lib.hid hch
    clear hch hk
    go_wp2_with fail
    refine bodyPost_ret (v := .agg #[.int .i64 5, .int .i64 an, .string az]) (by simp [results, Tryz.results43, go_sem, z0, z1, z2]) rfl ⟨by rw [HCh.out], b_set3 HBY.out (w.heap.size + 1) (by omega) _ _ _⟩
end Go.Proofs.YtehkebncdahmcaaGreatDoor.VdT
namespace Go.Proofs.YtehkebncdahmcaaGreatDoor.VdC
open Go.RowKit
open NumM ValM StrM ExM NmM TyM EvM Kit ExL ExV Ev EvC EvO EvF Vd VdT
set_option linter.unusedVariables false

theorem con_stop (b : Bool) (n : Int) (s : ByteArray) (v : Vl) (h : n ≠ bitI b) : conV b [⟨2, n, s⟩, v] = ⟨2, n, s⟩ := by
  unfold conV
  rw [if_neg (fun g => h g.2)]; rfl
theorem con_go (b : Bool) (n : Int) (s : ByteArray) (v : Vl) (h : n = bitI b) : conV b [⟨2, n, s⟩, v] = condV v := by
  unfold conV
  rw [if_pos ⟨rfl, h⟩]; rfl
theorem cond_num (k n : Int) (s : ByteArray) (h : k = 1 ∨ k = 3) : condV ⟨k, n, s⟩ = flt 9 := by unfold condV; rw [if_pos h]
theorem cond_own (k n : Int) (s : ByteArray) (h : ¬ (k = 1 ∨ k = 3)) : condV ⟨k, n, s⟩ = ⟨k, n, s⟩ := by unfold condV; rw [if_neg h]
set_option maxRecDepth 100000 in
set_option maxHeartbeats 4000000 in
theorem vd_con_15 (k n : Int) (s nm : ByteArray) (xa xb : Ex) (A : Option Addr) (c : Nat) (l : List Fc) (FA : Option Addr) (fc : Nat) (w : World) (hok : (Ex.ev (fcs l) xa).ok) (hA : VdAt l FA fc xa) (hB : VdAt l FA fc xb)
    (hargs : ∀ (j : Nat) (h : j < [xa, xb].length), ∃ a d B n c, A = some a ∧ At w (a.add (j * 6)) d B n c ∧ Is w [xa, xb][j] d B n) (hf : Fcs w FA l) :
    Calls Tryz.prog 43 #[.agg #[.int .i64 15, .int .i64 k, .int .i64 n, .string s, .string nm, .slice A 2 c], .slice FA l.length fc] w (ValOut (conV true [Ex.ev (fcs l) xa, Ex.ev (fcs l) xb]) w) := by
  obtain ⟨a, _, _, _, _, rfl, _, _⟩ := hargs 0 (by simp)
  obtain ⟨da, Ba, na, ca, hatA, hisA⟩ := arg_at hargs 0 (by simp)
  obtain ⟨db, Bb, nb, cb, hatB, hisB⟩ := arg_at hargs 1 (by simp)
  simp only [List.getElem_cons_zero, List.getElem_cons_succ] at hisA hisB
  have e0 : a.add (0 * 6) = a := by unfold Addr.add; simp
  rw [e0] at hatA
  obtain ⟨va, hva⟩ : ∃ v, Ex.ev (fcs l) xa = v := ⟨_, rfl⟩
  obtain ⟨vb, hvb⟩ : ∃ v, Ex.ev (fcs l) xb = v := ⟨_, rfl⟩
  unfold VdAt at hA hB
  rw [hva] at hA hok
  rw [hvb] at hB
  rw [hva, hvb]
  have z0 := BV.new (w.alloc (.cells #[.int .i64 15, .int .i64 k, .int .i64 n, .string s, .string nm, .slice (some a) 2 c] 26)) 0 0 ⟨#[]⟩
  rw [World.size_alloc] at z0
  have x0 := (Box.new w ⟨15, k, n, s, nm⟩ (some a) 2 c).below (b_new _ (.cells #[.int .i64 0, .int .i64 0, .string ⟨#[]⟩] 23))
  have hbW := b_more (b_new w (.cells #[.int .i64 15, .int .i64 k, .int .i64 n, .string s, .string nm, .slice (some a) 2 c] 26)) (.cells #[.int .i64 0, .int .i64 0, .string ⟨#[]⟩] 23)
  obtain ⟨W, hW⟩ : ∃ W, (w.alloc (.cells #[.int .i64 15, .int .i64 k, .int .i64 n, .string s, .string nm, .slice (some a) 2 c] 26)).alloc (.cells #[.int .i64 0, .int .i64 0, .string ⟨#[]⟩] 23) = W := ⟨_, rfl⟩
  simp only at x0
  rw [hW] at z0 x0 hbW
  have HX := Lib.hid x0
  have HZ := Lib.hid z0
  have HB := Lib.hid hbW
  have HW := Lib.hid hW
  have HF := Lib.hid hf
  have HOk := Lib.hid hok
  have HcA := Lib.hid (hA da Ba na ca W (hisA.below hbW) (hf.below hbW))
  have HcB := Lib.hid (fun V (hV : Below w.heap.size w V) => hB db Bb nb cb V (hisB.below hV) (hf.below hV))
  rw [show 1 * 6 = 6 from rfl] at hatB
  have HatB := Lib.hid hatB
  obtain ⟨m0, m1, m2, m3, m4, m5⟩ := x0.cells
  simp only at m0 m1 m2 m3 m4
  obtain ⟨q0, q1, q2, q3, q4, q5⟩ := hatA.below hbW
  clear z0 x0 hbW hW hf hok hA hB hargs hatA hatB hisA hisB hva hvb e0
  go_enter Tryz.func43, Tryz.ntmps43
  go_upto_region 1 with fail
  rw [HW.out]
  go_wp2_with fail
  refine HcA.out.mono ?_; rintro e w1 ⟨rfl, hb1⟩
  obtain ⟨ak, an, az⟩ := va
  have hv1 := BV.new w1 ak an az
  have hx1 := (HX.out.below hb1).below (b_new w1 (.cells #[.int .i64 ak, .int .i64 an, .string az] 23))
  have hz1 := (HZ.out.below hb1).below (b_new w1 (.cells #[.int .i64 ak, .int .i64 an, .string az] 23))
  have hbY := b_more (b_trans HB.out hb1) (.cells #[.int .i64 ak, .int .i64 an, .string az] 23)
  obtain ⟨Y, hY⟩ : ∃ Y, w1.alloc (.cells #[.int .i64 ak, .int .i64 an, .string az] 23) = Y := ⟨_, rfl⟩
  rw [hY] at hv1 hx1 hz1 hbY
  obtain ⟨u0, u1, u2⟩ := hv1.cells
  obtain ⟨p0, p1, p2, p3, p4, p5⟩ := hx1.cells
  simp only at p0
  obtain ⟨z0, z1, z2⟩ := hz1.cells
  have zf := hz1.frozen
  have zl := hz1.lt
  have HZ1 := Lib.hid hz1
  have HBY := Lib.hid hbY
  have HY := Lib.hid hY
  clear m0 m1 m2 m3 m4 m5 q0 q1 q2 q3 q4 q5 hb1 hv1 hx1 hz1 hbY hY
  go_upto_region 12 with fail
  rw [HY.out]
  have hk := ok_kind HOk.out
  simp only at hk
  have hk5 : ak = 1 ∨ ak = 2 ∨ ak = 3 ∨ ak = 4 ∨ ak = 5 := by omega
  rcases hk5 with rfl | rfl | rfl | rfl | rfl
  · have hch : conV true [⟨1, an, az⟩, vb] = flt 9 := rfl
    have HCh := Lib.hid hch
    clear hch hk
    go_wp2_with fail
    refine (no_any 9 _).mono ?_; rintro e w3 ⟨rfl, hb3⟩
    have hz3 := HZ1.out.below hb3
    obtain ⟨z0, z1, z2⟩ := hz3.cells
    have zf := hz3.frozen
    have zl := hz3.lt
    have HB3 := Lib.hid (b_trans HBY.out hb3)
    clear hb3 hz3
    go_wp2_with fail
    refine bodyPost_ret (v := .agg #[.int .i64 5, .int .i64 9, .string ⟨#[]⟩]) (by simp [results, Tryz.results43, go_sem, z0, z1, z2]) rfl ⟨by rw [HCh.out]; rfl, b_set3 HB3.out (w.heap.size + 1) (by omega) _ _ _⟩
  · have hn : an = 0 ∨ an = 1 := by
      rcases ok_cases HOk.out with g | g | g | g | g
      · exact absurd (show (2 : Int) = 1 from g.1) (by decide)
      · exact g.2.1
      · exact absurd (show (2 : Int) = 3 from g.1) (by decide)
      · exact absurd (show (2 : Int) = 4 from g.1) (by decide)
      · exact absurd (show (2 : Int) = 5 from g.1) (by decide)
    rcases hn with rfl | rfl
    · have hch : conV true [⟨2, 0, az⟩, vb] = ⟨2, 0, az⟩ := con_stop true 0 az vb (by decide)
      have HCh := Lib.hid hch
      clear hch hk
      go_wp2_with fail
      refine bodyPost_ret (v := .agg #[.int .i64 2, .int .i64 0, .string az]) (by simp [results, Tryz.results43, go_sem, z0, z1, z2]) rfl ⟨by rw [HCh.out], b_set3 HBY.out (w.heap.size + 1) (by omega) _ _ _⟩
    · have hch : conV true [⟨2, 1, az⟩, vb] = condV vb := con_go true 1 az vb rfl
      have HCh := Lib.hid hch
      obtain ⟨q0, q1, q2, q3, q4, q5⟩ := at_lit (HatB.out.below HBY.out) (by decide)
      have hc := HcB.out Y HBY.out
      have HC := Lib.hid hc
      clear hch hk hc
      go_wp2_with fail
      refine HC.out.mono ?_; rintro e w4 ⟨rfl, hb4⟩
      obtain ⟨bk, bn, bz⟩ := vb
      have hw4 := BV.new w4 bk bn bz
      have hz4 := (HZ1.out.below hb4).below (b_new w4 (.cells #[.int .i64 bk, .int .i64 bn, .string bz] 23))
      have hbX := b_more (b_trans HBY.out hb4) (.cells #[.int .i64 bk, .int .i64 bn, .string bz] 23)
      obtain ⟨X, hX⟩ : ∃ X, w4.alloc (.cells #[.int .i64 bk, .int .i64 bn, .string bz] 23) = X := ⟨_, rfl⟩
      rw [hX] at hw4 hz4 hbX
      obtain ⟨y0, y1, y2⟩ := hw4.cells
      have HZ4 := Lib.hid hz4
      have HBX := Lib.hid hbX
      have HX4 := Lib.hid hX
      have hz4c := hz4.cells
      have zf4 := hz4.frozen
      have zl4 := hz4.lt
      clear z0 z1 z2 zf zl u0 u1 u2 p0 p1 p2 p3 p4 p5 q0 q1 q2 q3 q4 q5 hb4 hw4 hz4 hbX hX
      obtain ⟨z0, z1, z2⟩ := hz4c
      go_upto_region 24 with fail
      rw [HX4.out]
      by_cases hb1 : bk = 1
      · subst hb1
        have hcv := cond_num 1 bn bz (.inl rfl)
        have HCv := Lib.hid hcv
        clear hcv
        go_wp2_with fail
        refine (no_any 9 _).mono ?_; rintro e w3 ⟨rfl, hb3⟩
        have hz3 := HZ4.out.below hb3
        obtain ⟨z0, z1, z2⟩ := hz3.cells
        have zf := hz3.frozen
        have zl := hz3.lt
        have HB3 := Lib.hid (b_trans HBX.out hb3)
        clear hb3 hz3
        go_wp2_with fail
        refine bodyPost_ret (v := .agg #[.int .i64 5, .int .i64 9, .string ⟨#[]⟩]) (by simp [results, Tryz.results43, go_sem, z0, z1, z2]) rfl ⟨by rw [HCh.out, HCv.out]; rfl, b_set3 HB3.out (w.heap.size + 1) (by omega) _ _ _⟩
      · by_cases hb3 : bk = 3
        · subst hb3
          have hcv := cond_num 3 bn bz (.inr rfl)
          have HCv := Lib.hid hcv
          clear hcv hb1
          go_wp2_with fail
          refine (no_any 9 _).mono ?_; rintro e w3 ⟨rfl, hb3⟩
          have hz3 := HZ4.out.below hb3
          obtain ⟨z0, z1, z2⟩ := hz3.cells
          have zf := hz3.frozen
          have zl := hz3.lt
          have HB3 := Lib.hid (b_trans HBX.out hb3)
          clear hb3 hz3
          go_wp2_with fail
          refine bodyPost_ret (v := .agg #[.int .i64 5, .int .i64 9, .string ⟨#[]⟩]) (by simp [results, Tryz.results43, go_sem, z0, z1, z2]) rfl ⟨by rw [HCh.out, HCv.out]; rfl, b_set3 HB3.out (w.heap.size + 1) (by omega) _ _ _⟩
        · have t1 : (bk == 1) = false := beq_eq_false_iff_ne.2 hb1
          have t3 : (bk == 3) = false := beq_eq_false_iff_ne.2 hb3
          have hcv := cond_own bk bn bz (fun g => g.elim hb1 hb3)
          have HCv := Lib.hid hcv
          clear hcv hb1 hb3
          go_wp2_with fail
          refine bodyPost_ret (v := .agg #[.int .i64 bk, .int .i64 bn, .string bz]) (by simp [results, Tryz.results43, go_sem, z0, z1, z2]) rfl ⟨by rw [HCh.out, HCv.out], b_set3 HBX.out (w.heap.size + 1) (by omega) _ _ _⟩
  · have hch : conV true [⟨3, an, az⟩, vb] = flt 9 := rfl
    have HCh := Lib.hid hch
    clear hch hk
    go_wp2_with fail
    refine (no_any 9 _).mono ?_; rintro e w3 ⟨rfl, hb3⟩
    have hz3 := HZ1.out.below hb3
    obtain ⟨z0, z1, z2⟩ := hz3.cells
    have zf := hz3.frozen
    have zl := hz3.lt
    have HB3 := Lib.hid (b_trans HBY.out hb3)
    clear hb3 hz3
    go_wp2_with fail
    refine bodyPost_ret (v := .agg #[.int .i64 5, .int .i64 9, .string ⟨#[]⟩]) (by simp [results, Tryz.results43, go_sem, z0, z1, z2]) rfl ⟨by rw [HCh.out]; rfl, b_set3 HB3.out (w.heap.size + 1) (by omega) _ _ _⟩
  · have hch : conV true [⟨4, an, az⟩, vb] = ⟨4, an, az⟩ := rfl
    have HCh := Lib.hid hch
    clear hch hk
    go_wp2_with fail
    refine bodyPost_ret (v := .agg #[.int .i64 4, .int .i64 an, .string az]) (by simp [results, Tryz.results43, go_sem, z0, z1, z2]) rfl ⟨by rw [HCh.out], b_set3 HBY.out (w.heap.size + 1) (by omega) _ _ _⟩
  · have hch : conV true [⟨5, an, az⟩, vb] = ⟨5, an, az⟩ := rfl
    have HCh := Lib.hid hch
    clear hch hk
    go_wp2_with fail
    refine bodyPost_ret (v := .agg #[.int .i64 5, .int .i64 an, .string az]) (by simp [results, Tryz.results43, go_sem, z0, z1, z2]) rfl ⟨by rw [HCh.out], b_set3 HBY.out (w.heap.size + 1) (by omega) _ _ _⟩
set_option maxRecDepth 100000 in
set_option maxHeartbeats 4000000 in
theorem vd_con_16 (k n : Int) (s nm : ByteArray) (xa xb : Ex) (A : Option Addr) (c : Nat) (l : List Fc) (FA : Option Addr) (fc : Nat) (w : World) (hok : (Ex.ev (fcs l) xa).ok) (hA : VdAt l FA fc xa) (hB : VdAt l FA fc xb)
    (hargs : ∀ (j : Nat) (h : j < [xa, xb].length), ∃ a d B n c, A = some a ∧ At w (a.add (j * 6)) d B n c ∧ Is w [xa, xb][j] d B n) (hf : Fcs w FA l) :
    Calls Tryz.prog 43 #[.agg #[.int .i64 16, .int .i64 k, .int .i64 n, .string s, .string nm, .slice A 2 c], .slice FA l.length fc] w (ValOut (conV false [Ex.ev (fcs l) xa, Ex.ev (fcs l) xb]) w) := by
  obtain ⟨a, _, _, _, _, rfl, _, _⟩ := hargs 0 (by simp)
  obtain ⟨da, Ba, na, ca, hatA, hisA⟩ := arg_at hargs 0 (by simp)
  obtain ⟨db, Bb, nb, cb, hatB, hisB⟩ := arg_at hargs 1 (by simp)
  simp only [List.getElem_cons_zero, List.getElem_cons_succ] at hisA hisB
  have e0 : a.add (0 * 6) = a := by unfold Addr.add; simp
  rw [e0] at hatA
  obtain ⟨va, hva⟩ : ∃ v, Ex.ev (fcs l) xa = v := ⟨_, rfl⟩
  obtain ⟨vb, hvb⟩ : ∃ v, Ex.ev (fcs l) xb = v := ⟨_, rfl⟩
  unfold VdAt at hA hB
  rw [hva] at hA hok
  rw [hvb] at hB
  rw [hva, hvb]
  have z0 := BV.new (w.alloc (.cells #[.int .i64 16, .int .i64 k, .int .i64 n, .string s, .string nm, .slice (some a) 2 c] 26)) 0 0 ⟨#[]⟩
  rw [World.size_alloc] at z0
  have x0 := (Box.new w ⟨16, k, n, s, nm⟩ (some a) 2 c).below (b_new _ (.cells #[.int .i64 0, .int .i64 0, .string ⟨#[]⟩] 23))
  have hbW := b_more (b_new w (.cells #[.int .i64 16, .int .i64 k, .int .i64 n, .string s, .string nm, .slice (some a) 2 c] 26)) (.cells #[.int .i64 0, .int .i64 0, .string ⟨#[]⟩] 23)
  obtain ⟨W, hW⟩ : ∃ W, (w.alloc (.cells #[.int .i64 16, .int .i64 k, .int .i64 n, .string s, .string nm, .slice (some a) 2 c] 26)).alloc (.cells #[.int .i64 0, .int .i64 0, .string ⟨#[]⟩] 23) = W := ⟨_, rfl⟩
  simp only at x0
  rw [hW] at z0 x0 hbW
  have HX := Lib.hid x0
  have HZ := Lib.hid z0
  have HB := Lib.hid hbW
  have HW := Lib.hid hW
  have HF := Lib.hid hf
  have HOk := Lib.hid hok
  have HcA := Lib.hid (hA da Ba na ca W (hisA.below hbW) (hf.below hbW))
  have HcB := Lib.hid (fun V (hV : Below w.heap.size w V) => hB db Bb nb cb V (hisB.below hV) (hf.below hV))
  rw [show 1 * 6 = 6 from rfl] at hatB
  have HatB := Lib.hid hatB
  obtain ⟨m0, m1, m2, m3, m4, m5⟩ := x0.cells
  simp only at m0 m1 m2 m3 m4
  obtain ⟨q0, q1, q2, q3, q4, q5⟩ := hatA.below hbW
  clear z0 x0 hbW hW hf hok hA hB hargs hatA hatB hisA hisB hva hvb e0
  go_enter Tryz.func43, Tryz.ntmps43
  go_upto_region 1 with fail
  rw [HW.out]
  go_wp2_with fail
  refine HcA.out.mono ?_; rintro e w1 ⟨rfl, hb1⟩
  obtain ⟨ak, an, az⟩ := va
  have hv1 := BV.new w1 ak an az
  have hx1 := (HX.out.below hb1).below (b_new w1 (.cells #[.int .i64 ak, .int .i64 an, .string az] 23))
  have hz1 := (HZ.out.below hb1).below (b_new w1 (.cells #[.int .i64 ak, .int .i64 an, .string az] 23))
  have hbY := b_more (b_trans HB.out hb1) (.cells #[.int .i64 ak, .int .i64 an, .string az] 23)
  obtain ⟨Y, hY⟩ : ∃ Y, w1.alloc (.cells #[.int .i64 ak, .int .i64 an, .string az] 23) = Y := ⟨_, rfl⟩
  rw [hY] at hv1 hx1 hz1 hbY
  obtain ⟨u0, u1, u2⟩ := hv1.cells
  obtain ⟨p0, p1, p2, p3, p4, p5⟩ := hx1.cells
  simp only at p0
  obtain ⟨z0, z1, z2⟩ := hz1.cells
  have zf := hz1.frozen
  have zl := hz1.lt
  have HZ1 := Lib.hid hz1
  have HBY := Lib.hid hbY
  have HY := Lib.hid hY
  clear m0 m1 m2 m3 m4 m5 q0 q1 q2 q3 q4 q5 hb1 hv1 hx1 hz1 hbY hY
  go_upto_region 12 with fail
  rw [HY.out]
  have hk := ok_kind HOk.out
  simp only at hk
  have hk5 : ak = 1 ∨ ak = 2 ∨ ak = 3 ∨ ak = 4 ∨ ak = 5 := by omega
  rcases hk5 with rfl | rfl | rfl | rfl | rfl
  · have hch : conV false [⟨1, an, az⟩, vb] = flt 9 := rfl
    have HCh := Lib.hid hch
    clear hch hk
    go_wp2_with fail
    refine (no_any 9 _).mono ?_; rintro e w3 ⟨rfl, hb3⟩
    have hz3 := HZ1.out.below hb3
    obtain ⟨z0, z1, z2⟩ := hz3.cells
    have zf := hz3.frozen
    have zl := hz3.lt
    have HB3 := Lib.hid (b_trans HBY.out hb3)
    clear hb3 hz3
    go_wp2_with fail
    refine bodyPost_ret (v := .agg #[.int .i64 5, .int .i64 9, .string ⟨#[]⟩]) (by simp [results, Tryz.results43, go_sem, z0, z1, z2]) rfl ⟨by rw [HCh.out]; rfl, b_set3 HB3.out (w.heap.size + 1) (by omega) _ _ _⟩
  · have hn : an = 0 ∨ an = 1 := by
      rcases ok_cases HOk.out with g | g | g | g | g
      · exact absurd (show (2 : Int) = 1 from g.1) (by decide)
      · exact g.2.1
      · exact absurd (show (2 : Int) = 3 from g.1) (by decide)
      · exact absurd (show (2 : Int) = 4 from g.1) (by decide)
      · exact absurd (show (2 : Int) = 5 from g.1) (by decide)
    rcases hn with rfl | rfl
    · have hch : conV false [⟨2, 0, az⟩, vb] = condV vb := con_go false 0 az vb rfl
      have HCh := Lib.hid hch
      obtain ⟨q0, q1, q2, q3, q4, q5⟩ := at_lit (HatB.out.below HBY.out) (by decide)
      have hc := HcB.out Y HBY.out
      have HC := Lib.hid hc
      clear hch hk hc
      go_wp2_with fail
      refine HC.out.mono ?_; rintro e w4 ⟨rfl, hb4⟩
      obtain ⟨bk, bn, bz⟩ := vb
      have hw4 := BV.new w4 bk bn bz
      have hz4 := (HZ1.out.below hb4).below (b_new w4 (.cells #[.int .i64 bk, .int .i64 bn, .string bz] 23))
      have hbX := b_more (b_trans HBY.out hb4) (.cells #[.int .i64 bk, .int .i64 bn, .string bz] 23)
      obtain ⟨X, hX⟩ : ∃ X, w4.alloc (.cells #[.int .i64 bk, .int .i64 bn, .string bz] 23) = X := ⟨_, rfl⟩
      rw [hX] at hw4 hz4 hbX
      obtain ⟨y0, y1, y2⟩ := hw4.cells
      have HZ4 := Lib.hid hz4
      have HBX := Lib.hid hbX
      have HX4 := Lib.hid hX
      have hz4c := hz4.cells
      have zf4 := hz4.frozen
      have zl4 := hz4.lt
      clear z0 z1 z2 zf zl u0 u1 u2 p0 p1 p2 p3 p4 p5 q0 q1 q2 q3 q4 q5 hb4 hw4 hz4 hbX hX
      obtain ⟨z0, z1, z2⟩ := hz4c
      go_upto_region 24 with fail
      rw [HX4.out]
      by_cases hb1 : bk = 1
      · subst hb1
        have hcv := cond_num 1 bn bz (.inl rfl)
        have HCv := Lib.hid hcv
        clear hcv
        go_wp2_with fail
        refine (no_any 9 _).mono ?_; rintro e w3 ⟨rfl, hb3⟩
        have hz3 := HZ4.out.below hb3
        obtain ⟨z0, z1, z2⟩ := hz3.cells
        have zf := hz3.frozen
        have zl := hz3.lt
        have HB3 := Lib.hid (b_trans HBX.out hb3)
        clear hb3 hz3
        go_wp2_with fail
        refine bodyPost_ret (v := .agg #[.int .i64 5, .int .i64 9, .string ⟨#[]⟩]) (by simp [results, Tryz.results43, go_sem, z0, z1, z2]) rfl ⟨by rw [HCh.out, HCv.out]; rfl, b_set3 HB3.out (w.heap.size + 1) (by omega) _ _ _⟩
      · by_cases hb3 : bk = 3
        · subst hb3
          have hcv := cond_num 3 bn bz (.inr rfl)
          have HCv := Lib.hid hcv
          clear hcv hb1
          go_wp2_with fail
          refine (no_any 9 _).mono ?_; rintro e w3 ⟨rfl, hb3⟩
          have hz3 := HZ4.out.below hb3
          obtain ⟨z0, z1, z2⟩ := hz3.cells
          have zf := hz3.frozen
          have zl := hz3.lt
          have HB3 := Lib.hid (b_trans HBX.out hb3)
          clear hb3 hz3
          go_wp2_with fail
          refine bodyPost_ret (v := .agg #[.int .i64 5, .int .i64 9, .string ⟨#[]⟩]) (by simp [results, Tryz.results43, go_sem, z0, z1, z2]) rfl ⟨by rw [HCh.out, HCv.out]; rfl, b_set3 HB3.out (w.heap.size + 1) (by omega) _ _ _⟩
        · have t1 : (bk == 1) = false := beq_eq_false_iff_ne.2 hb1
          have t3 : (bk == 3) = false := beq_eq_false_iff_ne.2 hb3
          have hcv := cond_own bk bn bz (fun g => g.elim hb1 hb3)
          have HCv := Lib.hid hcv
          clear hcv hb1 hb3
          go_wp2_with fail
          refine bodyPost_ret (v := .agg #[.int .i64 bk, .int .i64 bn, .string bz]) (by simp [results, Tryz.results43, go_sem, z0, z1, z2]) rfl ⟨by rw [HCh.out, HCv.out], b_set3 HBX.out (w.heap.size + 1) (by omega) _ _ _⟩
    · have hch : conV false [⟨2, 1, az⟩, vb] = ⟨2, 1, az⟩ := con_stop false 1 az vb (by decide)
      have HCh := Lib.hid hch
      clear hch hk
      go_wp2_with fail
      refine bodyPost_ret (v := .agg #[.int .i64 2, .int .i64 1, .string az]) (by simp [results, Tryz.results43, go_sem, z0, z1, z2]) rfl ⟨by rw [HCh.out], b_set3 HBY.out (w.heap.size + 1) (by omega) _ _ _⟩
  · have hch : conV false [⟨3, an, az⟩, vb] = flt 9 := rfl
    have HCh := Lib.hid hch
    clear hch hk
    go_wp2_with fail
    refine (no_any 9 _).mono ?_; rintro e w3 ⟨rfl, hb3⟩
    have hz3 := HZ1.out.below hb3
    obtain ⟨z0, z1, z2⟩ := hz3.cells
    have zf := hz3.frozen
    have zl := hz3.lt
    have HB3 := Lib.hid (b_trans HBY.out hb3)
    clear hb3 hz3
    go_wp2_with fail
    refine bodyPost_ret (v := .agg #[.int .i64 5, .int .i64 9, .string ⟨#[]⟩]) (by simp [results, Tryz.results43, go_sem, z0, z1, z2]) rfl ⟨by rw [HCh.out]; rfl, b_set3 HB3.out (w.heap.size + 1) (by omega) _ _ _⟩
  · have hch : conV false [⟨4, an, az⟩, vb] = ⟨4, an, az⟩ := rfl
    have HCh := Lib.hid hch
    clear hch hk
    go_wp2_with fail
    refine bodyPost_ret (v := .agg #[.int .i64 4, .int .i64 an, .string az]) (by simp [results, Tryz.results43, go_sem, z0, z1, z2]) rfl ⟨by rw [HCh.out], b_set3 HBY.out (w.heap.size + 1) (by omega) _ _ _⟩
  · have hch : conV false [⟨5, an, az⟩, vb] = ⟨5, an, az⟩ := rfl
    have HCh := Lib.hid hch
    clear hch hk
    go_wp2_with fail
    refine bodyPost_ret (v := .agg #[.int .i64 5, .int .i64 an, .string az]) (by simp [results, Tryz.results43, go_sem, z0, z1, z2]) rfl ⟨by rw [HCh.out], b_set3 HBY.out (w.heap.size + 1) (by omega) _ _ _⟩
end Go.Proofs.YtehkebncdahmcaaGreatDoor.VdC
namespace Go.Proofs.YtehkebncdahmcaaGreatDoor.VdO
open Go.RowKit
open NumM ValM StrM ExM NmM TyM EvM Kit ExL ExV Ev EvC EvO EvF Vd VdT ValCmp
set_option linter.unusedVariables false

theorem infoV : (Tryz.prog.info? 23).map (fun i => (i.zero, i.size, i.bytes)) = some (some (.agg #[.int .i64 0, .int .i64 0, .string ⟨#[]⟩]), 3, 32) := by kernel_rfl
theorem own_one {w : World} {base g : Nat} {k n : Int} {s : ByteArray} (h : BV w g k n s) (hb : base ≤ g) : w.ownsRow base 23 3 (.slice (some ⟨g, 0, none⟩) 1 1) 1 [.int .i64 k, .int .i64 n, .string s] :=
  ⟨rfl, .inr ⟨g, 1, #[.int .i64 k, .int .i64 n, .string s], rfl, hb, h, by decide, by decide, rfl, rfl⟩⟩
theorem vals_one {w : World} {g : Nat} {v : Vl} (h : BV w g v.k v.n v.s) : Vals w g [v] := fun i hi => by
  match i, hi with
  | 0, _ => exact h.cells
  | i + 1, hi => exact absurd hi (by simp)
theorem vals_two {w : World} {g : Nat} {a b : Vl} (h : ∀ j, j < 2 * 3 → w.cell? ⟨g, j, none⟩ = ([.int .i64 a.k, .int .i64 a.n, .string a.s, .int .i64 b.k, .int .i64 b.n, .string b.s] : List Value)[j]?) : Vals w g [a, b] := fun i hi => by
  match i, hi with
  | 0, _ => exact ⟨h 0 (by decide), h 1 (by decide), h 2 (by decide)⟩
  | 1, _ => exact ⟨h 3 (by decide), h 4 (by decide), h 5 (by decide)⟩
  | i + 2, hi => exact absurd hi (by simp)
theorem bad_neg {v : Vl} (h : v.k ≠ 1) : resV (compR 3 v v) = flt 9 := by
  have e : compR 3 v v = arR 9 ⟨1, 0, e0⟩ v := rfl
  rw [e]; unfold arR; rw [if_neg (fun g => h g.2)]; rfl
theorem bad_not {v : Vl} (h : v.k ≠ 2) : resV (compR 4 v v) = flt 9 := by
  have e : compR 4 v v = notR v := rfl
  rw [e]; unfold notR; rw [if_neg h]; rfl
theorem bad_len {v : Vl} (h : v.k ≠ 3) : resV (compR 18 v v) = flt 9 := by
  have e : compR 18 v v = lenR v := rfl
  rw [e]; unfold lenR; rw [if_neg h]; rfl
theorem res_neg (n : Int) (s : ByteArray) (h : okN n = true) : resV (compR 3 ⟨1, n, s⟩ ⟨1, n, s⟩) = ⟨1, -n, e0⟩ := by
  have e : compR 3 ⟨1, n, s⟩ ⟨1, n, s⟩ = arR 9 ⟨1, 0, e0⟩ ⟨1, n, s⟩ := rfl
  have e2 : arN 9 0 n = (-n, 0) := by
    unfold okN at h
    simp only [decide_eq_true_eq] at h
    have e3 : (0 : Int) - n = -n := by omega
    unfold arN
    rw [if_neg (by decide), if_neg (by decide), if_neg (by decide), if_neg (by decide), e3]
    unfold binV binE okN
    simp only [decide_eq_true_eq]
    rw [if_pos (by omega), if_pos (by omega)]
  rw [e]
  unfold arR
  rw [if_pos ⟨rfl, rfl⟩]
  show resV (if (arN 9 0 n).2 = 0 then (⟨1, (arN 9 0 n).1, e0⟩, 0) else (zeroV, (arN 9 0 n).2)) = _
  rw [e2]; rfl
theorem res_not (n : Int) (s : ByteArray) (h : (⟨2, n, s⟩ : Vl).ok) : resV (compR 4 ⟨2, n, s⟩ ⟨2, n, s⟩) = tru (n == 0) := by
  have e : compR 4 ⟨2, n, s⟩ ⟨2, n, s⟩ = (tru (decide (n = 0) && decide (s = e0)), 0) := rfl
  have hs : s = e0 := by
    rcases ok_cases h with g | g | g | g | g
    · exact absurd (show (2 : Int) = 1 from g.1) (by decide)
    · exact g.2.2
    · exact absurd (show (2 : Int) = 3 from g.1) (by decide)
    · exact absurd (show (2 : Int) = 4 from g.1) (by decide)
    · exact absurd (show (2 : Int) = 5 from g.1) (by decide)
  rw [e, hs]
  have e2 : (decide (n = 0) && decide ((e0 : ByteArray) = e0)) = (n == 0) := by
    rw [Bool.eq_iff_iff]; simp
  rw [e2]; rfl
theorem comp_cmp (op : Int) (a b : Vl) (h : 11 ≤ op ∧ op ≤ 14) : compR op a b = cmpR op a b := by
  unfold compR
  rw [if_neg (by omega), if_neg (by omega), if_neg (by omega), if_neg (by omega), if_neg (by omega)]
theorem res_cmp (op : Int) (a b : Vl) (h : 11 ≤ op ∧ op ≤ 14) (hk : a.k = b.k) : resV (compR op a b) = tru (cmpB op (ordVl a b)) := by
  rw [comp_cmp op a b h]; unfold cmpR; rw [if_pos hk]; rfl
theorem bad_cmp (op : Int) (a b : Vl) (h : 11 ≤ op ∧ op ≤ 14) (hk : a.k ≠ b.k) : resV (compR op a b) = flt 9 := by
  rw [comp_cmp op a b h]; unfold cmpR; rw [if_neg hk]; rfl
theorem bad_join (a b : Vl) (h : a.k ≠ 3 ∨ b.k ≠ 3) : resV (compR 10 a b) = flt 9 := by
  have e : compR 10 a b = joinR a b := rfl
  rw [e]; unfold joinR; rw [if_neg (fun g => h.elim (fun h => h g.1) (fun h => h g.2))]; rfl
theorem comp_num (op : Int) (a b : Vl) (h : 5 ≤ op ∧ op ≤ 9) : compR op a b = arR op a b := by
  unfold compR
  rw [if_neg (by omega), if_neg (by omega), if_neg (by omega), if_neg (by omega), if_pos h]
theorem bad_num (op : Int) (h5 : 5 ≤ op ∧ op ≤ 9) (a b : Vl) (h : a.k ≠ 1 ∨ b.k ≠ 1) : resV (compR op a b) = flt 9 := by
  rw [comp_num op a b h5]; unfold arR; rw [if_neg (fun g => h.elim (fun h => h g.1) (fun h => h g.2))]; rfl
theorem res_join (n m : Int) (s t : ByteArray) : resV (compR 10 ⟨3, n, s⟩ ⟨3, m, t⟩) = if 40 < s.size + t.size then flt 1 else ⟨3, 0, s ++ t⟩ := by
  have e : compR 10 ⟨3, n, s⟩ ⟨3, m, t⟩ = if 40 < s.size + t.size then (zeroV, 1) else (⟨3, 0, s ++ t⟩, 0) := rfl
  rw [e]; split <;> rfl
theorem res_num (op n m : Int) (s t : ByteArray) (h : 5 ≤ op ∧ op ≤ 9) : resV (compR op ⟨1, n, s⟩ ⟨1, m, t⟩) = if (arN op n m).2 = 0 then ⟨1, (arN op n m).1, e0⟩ else flt (arN op n m).2 := by
  rw [comp_num op _ _ h]
  unfold arR
  rw [if_pos ⟨rfl, rfl⟩]
  show resV (if (arN op n m).2 = 0 then (⟨1, (arN op n m).1, e0⟩, 0) else (zeroV, (arN op n m).2)) = _
  split
  · rfl
  · exact resV_bad _ _ (by assumption)
theorem evl_one {fs : List (ByteArray × Vl)} {v : Vl} : ∀ {xs : List Ex} {h0 : 0 < xs.length}, xs.length = 1 → Ex.ev fs xs[0] = v → evL fs xs = [v]
  | [x], _, _, h => by rw [evL_cons, evL_nil]; exact congrArg (fun z => [z]) h
theorem evl_two {fs : List (ByteArray × Vl)} {v u : Vl} : ∀ {xs : List Ex} {h0 : 0 < xs.length} {h1 : 1 < xs.length}, xs.length = 2 → Ex.ev fs xs[0] = v → Ex.ev fs xs[1] = u → evL fs xs = [v, u]
  | [x, y], _, _, _, h, h2 => by
    rw [evL_cons, evL_cons, evL_nil]
    exact (congrArg (fun z => [z, Ex.ev fs y]) h).trans (congrArg (fun z => [v, z]) h2)

set_option maxRecDepth 100000 in
set_option maxHeartbeats 8000000 in
theorem vd_op (op k n : Int) (s nm : ByteArray) (xs : List Ex) (A : Option Addr) (c : Nat) (l : List Fc) (FA : Option Addr) (fc : Nat) (w : World) (h3 : 3 ≤ op) (h18 : op ≤ 18) (hno : op ≠ 15 ∧ op ≠ 16 ∧ op ≠ 17) (hlen : xs.length = arity op) (hok : ∀ v ∈ evL (fcs l) xs, v.ok) (hA : ∀ x ∈ xs, VdAt l FA fc x)
    (hargs : ∀ (j : Nat) (h : j < xs.length), ∃ a d B n c, A = some a ∧ At w (a.add (j * 6)) d B n c ∧ Is w xs[j] d B n) (hf : Fcs w FA l) :
    Calls Tryz.prog 43 #[.agg #[.int .i64 op, .int .i64 k, .int .i64 n, .string s, .string nm, .slice A xs.length c], .slice FA l.length fc] w (ValOut (opV op (evL (fcs l) xs)) w) := by
  obtain ⟨i0, hi, hz0, hz1, hz2⟩ := info_parts infoV
  obtain ⟨_, _, ar3, ar4, ar5, ar6⟩ := arity_cases op
  have hx1 : 1 ≤ xs.length ∧ xs.length ≤ 2 := by rw [hlen]; exact ⟨(ar3 (by omega) (by omega)).1, ar4 (by omega) (by omega) (by omega)⟩
  obtain ⟨vs, hvs⟩ : ∃ vs, evL (fcs l) xs = vs := ⟨_, rfl⟩
  have hvl : vs.length = xs.length := by rw [← hvs, evL_len]
  obtain ⟨R, hR⟩ : ∃ R, opV op vs = R := ⟨_, rfl⟩
  rw [hvs, hR]
  rw [hvs] at hok
  obtain ⟨rk, rn, rs⟩ := R
  obtain ⟨a, _, _, _, _, rfl, _, _⟩ := hargs 0 (by omega)
  obtain ⟨da, Ba, na, ca, hatA, hisA⟩ := arg_at hargs 0 (by omega)
  have e0 : a.add (0 * 6) = a := by unfold Addr.add; simp
  rw [e0] at hatA
  have hcA := hA xs[0] (List.getElem_mem (by omega))
  obtain ⟨va, hva⟩ : ∃ v, Ex.ev (fcs l) xs[0] = v := ⟨_, rfl⟩
  unfold VdAt at hcA
  rw [hva] at hcA
  obtain ⟨N, hN⟩ : ∃ N, xs.length = N := ⟨_, rfl⟩
  rw [hN] at hlen hx1 hvl ⊢
  have HLen := Lib.hid (And.intro hlen hvl)
  have HN := Lib.hid hN
  have z0 := BV.new (w.alloc (.cells #[.int .i64 op, .int .i64 k, .int .i64 n, .string s, .string nm, .slice (some a) N c] 26)) 0 0 ⟨#[]⟩
  rw [World.size_alloc] at z0
  have x0 := (Box.new w ⟨op, k, n, s, nm⟩ (some a) N c).below (b_new _ (.cells #[.int .i64 0, .int .i64 0, .string ⟨#[]⟩] 23))
  have hbW := b_more (b_new w (.cells #[.int .i64 op, .int .i64 k, .int .i64 n, .string s, .string nm, .slice (some a) N c] 26)) (.cells #[.int .i64 0, .int .i64 0, .string ⟨#[]⟩] 23)
  obtain ⟨W, hW⟩ : ∃ W, (w.alloc (.cells #[.int .i64 op, .int .i64 k, .int .i64 n, .string s, .string nm, .slice (some a) N c] 26)).alloc (.cells #[.int .i64 0, .int .i64 0, .string ⟨#[]⟩] 23) = W := ⟨_, rfl⟩
  simp only at x0
  rw [hW] at z0 x0 hbW
  have hWs : w.heap.size + 2 ≤ W.heap.size := by have := z0.lt; omega
  have HX := Lib.hid x0
  have HZ := Lib.hid z0
  have HB := Lib.hid hbW
  have HW := Lib.hid hW
  have HF := Lib.hid hf
  have HOk := Lib.hid hok
  have HR := Lib.hid hR
  have HcA := Lib.hid (hcA da Ba na ca W (hisA.below hbW) (hf.below hbW))
  have HA := Lib.hid hA
  have HArgs := Lib.hid hargs
  have HVs := Lib.hid hvs
  have HVa := Lib.hid hva
  obtain ⟨m0, m1, m2, m3, m4, m5⟩ := x0.cells
  simp only at m0 m1 m2 m3 m4
  obtain ⟨q0, q1, q2, q3, q4, q5⟩ := hatA.below hbW
  have t1 : (op == 1) = false := beq_eq_false_iff_ne.2 (by omega)
  have t2 : (op == 2) = false := beq_eq_false_iff_ne.2 (by omega)
  have t15 : (op == 15) = false := beq_eq_false_iff_ne.2 (by omega)
  have t16 : (op == 16) = false := beq_eq_false_iff_ne.2 (by omega)
  have t17 : (op == 17) = false := beq_eq_false_iff_ne.2 (by omega)
  clear z0 x0 hbW hW hf hok hA hargs hatA hisA hva hvs e0 hR hcA ar3 ar4
  clear hlen hvl hN
  go_enter Tryz.func43, Tryz.ntmps43
  go_upto_region 1 with fail
  rw [HW.out]
  go_wp2_with fail
  refine HcA.out.mono ?_; rintro e w1 ⟨rfl, hb1⟩
  obtain ⟨ak, an, az⟩ := va
  have hv1 := BV.new w1 ak an az
  have hx1' := (HX.out.below hb1).below (b_new w1 (.cells #[.int .i64 ak, .int .i64 an, .string az] 23))
  have hz1' := (HZ.out.below hb1).below (b_new w1 (.cells #[.int .i64 ak, .int .i64 an, .string az] 23))
  have hbY := b_more (b_trans HB.out hb1) (.cells #[.int .i64 ak, .int .i64 an, .string az] 23)
  have hws := hb1.size
  have hbWY := b_more hb1 (.cells #[.int .i64 ak, .int .i64 an, .string az] 23)
  obtain ⟨Y, hY⟩ : ∃ Y, w1.alloc (.cells #[.int .i64 ak, .int .i64 an, .string az] 23) = Y := ⟨_, rfl⟩
  rw [hY] at hv1 hx1' hz1' hbY hbWY
  have HV1 := Lib.hid hv1
  have HX1 := Lib.hid hx1'
  have HZ1 := Lib.hid hz1'
  have HBY := Lib.hid hbY
  have HY := Lib.hid hY
  obtain ⟨p0, p1, p2, p3, p4, p5⟩ := hx1'.cells
  simp only at p0
  have hYl := hv1.lt
  have HBWY := Lib.hid ((show Below W.heap.size W Y from hbWY).mono hWs)
  clear m0 m1 m2 m3 m4 m5 q0 q1 q2 q3 q4 q5 hb1 hv1 hx1' hz1' hbY hbWY hY
  go_upto_region 12 with fail
  rw [HY.out]
  go_upto_if 149 with (fail)
  go_cut [7] (fun s7 wx => ∃ (g cap : Nat), s7 = .slice (some ⟨g, 0, none⟩) N cap ∧ Vals wx g vs ∧ w.heap.size + 2 ≤ g ∧ Below (w.heap.size + 2) W wx)
  case first =>
    by_cases hN1 : N = 1
    · subst hN1
      have hv : vs = [⟨ak, an, az⟩] := HVs.out.symm.trans (evl_one HN.out HVa.out)
      have hvals : Vals Y w1.heap.size vs := by rw [hv]; exact vals_one (v := ⟨ak, an, az⟩) HV1.out
      have HVals := Lib.hid hvals
      clear hv hvals
      go_wp2_with fail
      go_meet
      exact ⟨_, 1, rfl, HVals.out, by omega, HBWY.out⟩
    · have hN2 : N = 2 := by omega
      subst hN2
      obtain ⟨db, Bb, nb, cb, hatB, hisB⟩ := arg_at HArgs.out 1 (by rw [HN.out]; decide)
      rw [show 1 * 6 = 6 from rfl] at hatB
      have h1x : 1 < xs.length := by rw [HN.out]; decide
      have hcB := HA.out (xs[1]'h1x) (List.getElem_mem h1x)
      obtain ⟨vb, hvb⟩ : ∃ v, Ex.ev (fcs l) (xs[1]'h1x) = v := ⟨_, rfl⟩
      unfold VdAt at hcB
      rw [hvb] at hcB
      have hcB2 := hcB db Bb nb cb Y (hisB.below HBY.out) (HF.out.below HBY.out)
      obtain ⟨q0, q1, q2, q3, q4, q5⟩ := at_lit (hatB.below HBY.out) (by decide)
      obtain ⟨bk, bn, bz⟩ := vb
      have hv : vs = [⟨ak, an, az⟩, ⟨bk, bn, bz⟩] := HVs.out.symm.trans (evl_two HN.out HVa.out hvb)
      have HcB := Lib.hid hcB2
      have HVs2 := Lib.hid hv
      clear hatB hisB hcB hcB2 hvb hv hN1 h1x
      go_wp2_with fail
      refine HcB.out.mono ?_; rintro e w5 ⟨rfl, hb5⟩
      have own5 : w5.ownsRow (w.heap.size + 2) 23 3 (.slice (some ⟨w1.heap.size, 0, none⟩) 1 1) 1 [.int .i64 ak, .int .i64 an, .string az] := own_one (HV1.out.below hb5) (by omega)
      have hs5 := hb5.size
      have hz6 : w.heap.size + 2 ≤ (w5.alloc (.cells #[.int .i64 bk, .int .i64 bn, .string bz] 23)).heap.size := by simp; omega
      have hbw5 : Below (w.heap.size + 2) W (w5.alloc (.cells #[.int .i64 bk, .int .i64 bn, .string bz] 23)) := HBWY.out.trans (((b_more hb5 _)).mono (by omega))
      have HBW5 := Lib.hid hbw5
      clear hbw5 hb5 q0 q1 q2 q3 q4 q5
      go_wp2_with (at_builtin; refine wpList_append_lies _ rfl _ _ 94 rfl (w.heap.size + 2) 23 i0 _ 3 32 Tryz.underlying94 hi hz0 hz1 hz2 rfl (by omega) _ 1 _ rfl (own5.alloc _) ⟨w5.heap.size, 0, none⟩ 1 1 [.int .i64 bk, .int .i64 bn, .string bz] rfl rfl (World.news_of_block (cs := #[.int .i64 bk, .int .i64 bn, .string bz]) (t := 23) (fr := (0, 0)) (heap_alloc_new w5 _)) (by simp [Value.oneCell']) (by omega) (by unfold maxLen; omega) (by omega) hz6 (w5.heap.size + 1) (by simp) ?_; intro gg cap w6 hown6 hgrow6 hat6 hlt6)
      have hvals : Vals w6 gg vs := by
        rw [HVs2.out]
        obtain ⟨g', c', e1, _, _, _, _, hcl⟩ := GenL.own_form hown6 (by omega)
        injection e1 with e1 _ _
        injection e1 with e1
        injection e1 with e1 _ _
        subst e1
        exact vals_two (a := ⟨ak, an, az⟩) (b := ⟨bk, bn, bz⟩) fun j hj => hcl j hj
      have hg6 : w.heap.size + 2 ≤ gg := (hown6.lt gg rfl).1
      have hbw6 : Below (w.heap.size + 2) W w6 := HBW5.out.grown hgrow6 (by omega) (fun k e => by have e2 : some w1.heap.size = some k := e; injection e2 with e2; omega)
      have HVals := Lib.hid hvals
      have HBW6 := Lib.hid hbw6
      clear hown6 hgrow6 hat6 hlt6 own5 hvals hbw6
      go_wp2_with fail
      go_meet
      exact ⟨gg, cap, rfl, HVals.out, hg6, HBW6.out⟩
  case rest =>
    obtain ⟨g, cap, rfl, hvals, hg, hbc⟩ := hcut
    have hzc : BV wc (w.heap.size + 1) 0 0 ⟨#[]⟩ := (hbc.block _ (by omega)).trans HZ.out
    have hxc : Box wc w.heap.size ⟨op, k, n, s, nm⟩ (some a) N c := (hbc.block _ (by omega)).trans HX.out
    have hbw : Below w.heap.size w wc := HB.out.trans (hbc.mono (by omega))
    have HV := Lib.hid hvals
    have HZc := Lib.hid hzc
    have HXc := Lib.hid hxc
    have HBw := Lib.hid hbw
    clear hvals hbc hzc hxc hbw HZ HX HB HV1 HX1 HZ1 HBY HY HBWY HcA HA HArgs HVs HVa HF p0 p1 p2 p3 p4 p5 t1 t2 t15 t16 t17 hws
    go_wp2_with fail
    go_loopw [10, 161] (fun _ i wx => ∃ k : Nat, i = .int .i64 k ∧ k ≤ N ∧ Below wc.heap.size wc wx ∧ (∀ i (hi : i < vs.length), i < k → vs[i].k ≠ 5)) (fun _ i _ => N - (intOf i).toNat)
    case atStart => exact ⟨0, rfl, by omega, Below.refl _ _, fun i hi h => by omega⟩
    case round =>
      obtain ⟨k, rfl, hk, hbx, hne⟩ := hrel
      have HNE := Lib.hid hne
      have HBX := Lib.hid hbx
      have xz := HZc.out.below hbx
      have xx := HXc.out.below hbx
      obtain ⟨z0, z1, z2⟩ := xz.cells
      have zf := xz.frozen
      have zl := xz.lt
      obtain ⟨p0, p1, p2, p3, p4, p5⟩ := xx.cells
      simp only at p0
      clear hne
      by_cases hlk : k < N
      · have hlv : k < vs.length := by rw [HLen.out.2]; exact hlk
        obtain ⟨d0, d1, d2⟩ := (HV.out k hlv).below hbx
        obtain ⟨v, hv⟩ : ∃ v, vs[k] = v := ⟨_, rfl⟩
        have HVk := Lib.hid hv
        rw [hv] at d0 d1 d2
        obtain ⟨vk, vn, vt⟩ := v
        simp only at d0 d1 d2
        clear hv hbx xz xx
        by_cases hkk : vk = 5
        · have hfin : Value.agg #[.int .i64 vk, .int .i64 vn, .string vt] = .agg #[.int .i64 rk, .int .i64 rn, .string rs] := by
            have hh := firstK_hit 5 vs k hlv HNE.out (by rw [HVk.out]; exact hkk)
            have hr := HR.out
            unfold opV at hr
            rw [hh] at hr
            simp only at hr
            rw [HVk.out] at hr
            injection hr with e1 e2 e3
            rw [e1, e2, e3]
          subst hkk
          have HFin := Lib.hid hfin
          clear hfin
          go_wp2_with fail
          refine bodyPost_ret (v := .agg #[.int .i64 5, .int .i64 vn, .string vt]) (by simp [results, Tryz.results43, go_sem, z0, z1, z2, zl]) rfl ⟨by rw [HFin.out], b_more (b_set3 (b_trans HBw.out HBX.out) (w.heap.size + 1) (by omega) _ _ _) _⟩
        · have t0 : (vk == 5) = false := beq_eq_false_iff_ne.2 hkk
          go_wp2_with fail
          go_roundw
          case rel => exact ⟨k + 1, by go_num, by omega, b_more HBX.out _, fun i hi h => by
            by_cases e : i = k
            · subst e; rw [HVk.out]; exact hkk
            · exact HNE.out i hi (by omega)⟩
          case measure => simp [intOf]; omega
      · have hnone : firstK 5 vs = none := firstK_none.2 fun v hv => by
          obtain ⟨i, hi, rfl⟩ := List.getElem_of_mem hv
          exact HNE.out i hi (by have := HLen.out.2; omega)
        have HF5 := Lib.hid hnone
        clear hnone
        go_wp2_with fail
        obtain ⟨wo, rfl⟩ : ∃ wo : World, wo = wr := ⟨_, rfl⟩
        clear z0 z1 z2 zf zl p0 p1 p2 p3 p4 p5 xz xx hk hlk
        go_loopw [13, 172] (fun _ i wx => ∃ k : Nat, i = .int .i64 k ∧ k ≤ N ∧ Below wc.heap.size wc wx ∧ (∀ i (hi : i < vs.length), i < k → vs[i].k ≠ 4)) (fun _ i _ => N - (intOf i).toNat)
        case atStart => exact ⟨0, rfl, by omega, HBX.out, fun i hi h => by omega⟩
        case round =>
          obtain ⟨k, rfl, hk, hbx, hne⟩ := hrel
          have HNE2 := Lib.hid hne
          have HBX2 := Lib.hid hbx
          have xz := HZc.out.below hbx
          have xx := HXc.out.below hbx
          obtain ⟨z0, z1, z2⟩ := xz.cells
          have zf := xz.frozen
          have zl := xz.lt
          obtain ⟨p0, p1, p2, p3, p4, p5⟩ := xx.cells
          simp only at p0
          clear hne
          by_cases hlk : k < N
          · have hlv : k < vs.length := by rw [HLen.out.2]; exact hlk
            obtain ⟨d0, d1, d2⟩ := (HV.out k hlv).below hbx
            obtain ⟨v, hv⟩ : ∃ v, vs[k] = v := ⟨_, rfl⟩
            have HVk := Lib.hid hv
            rw [hv] at d0 d1 d2
            obtain ⟨vk, vn, vt⟩ := v
            simp only at d0 d1 d2
            clear hv hbx xz xx
            by_cases hkk : vk = 4
            · have hfin : Value.agg #[.int .i64 vk, .int .i64 vn, .string vt] = .agg #[.int .i64 rk, .int .i64 rn, .string rs] := by
                have hh := firstK_hit 4 vs k hlv HNE2.out (by rw [HVk.out]; exact hkk)
                have hr := HR.out
                unfold opV at hr
                rw [HF5.out, hh] at hr
                simp only at hr
                rw [HVk.out] at hr
                injection hr with e1 e2 e3
                rw [e1, e2, e3]
              subst hkk
              have HFin := Lib.hid hfin
              clear hfin
              go_wp2_with fail
              refine bodyPost_ret (v := .agg #[.int .i64 4, .int .i64 vn, .string vt]) (by simp [results, Tryz.results43, go_sem, z0, z1, z2, zl]) rfl ⟨by rw [HFin.out], b_more (b_set3 (b_trans HBw.out HBX2.out) (w.heap.size + 1) (by omega) _ _ _) _⟩
            · have t0 : (vk == 4) = false := beq_eq_false_iff_ne.2 hkk
              go_wp2_with fail
              go_roundw
              case rel => exact ⟨k + 1, by go_num, by omega, b_more HBX2.out _, fun i hi h => by
                by_cases e : i = k
                · subst e; rw [HVk.out]; exact hkk
                · exact HNE2.out i hi (by omega)⟩
              case measure => simp [intOf]; omega
          · have hnone : firstK 4 vs = none := firstK_none.2 fun v hv => by
              obtain ⟨i, hi, rfl⟩ := List.getElem_of_mem hv
              exact HNE2.out i hi (by have := HLen.out.2; omega)
            have HF4 := Lib.hid hnone
            clear hnone
            have hkn := none_known HOk.out HF5.out HF4.out
            have hres := (opV_comp (op := op) HF5.out HF4.out).symm.trans HR.out
            have HKn := Lib.hid hkn
            have HRes := Lib.hid hres
            clear hkn hres
            by_cases pu : op = 3 ∨ op = 4 ∨ op = 18
            · have hl1 : N = 1 := HLen.out.1.trans (ar5 pu)
              have hl2 : vs.length = 1 := HLen.out.2.trans hl1
              have HLen2 := Lib.hid hl2
              subst hl1
              have hvs1 : ∃ v, vs = [v] := by
                match vs, hl2 with
                | [v], _ => exact ⟨v, rfl⟩
              obtain ⟨v1, hv1⟩ := hvs1
              have HVs1 := Lib.hid hv1
              have hr1 := HRes.out
              rw [hv1] at hr1
              have hok1 : v1.ok := HOk.out v1 (by rw [hv1]; simp)
              have HR1 := Lib.hid (show resV (compR op v1 v1) = ⟨rk, rn, rs⟩ from hr1)
              have HOk1 := Lib.hid hok1
              clear hv1 hr1 hok1 hl2 ar5 ar6
              rcases pu with rfl | rfl | rfl
              · -- neg
                as_aux_lemma =>
                  go_wp2_with fail
                  obtain ⟨wo, rfl⟩ : ∃ wo : World, wo = wr := ⟨_, rfl⟩
                  clear z0 z1 z2 zf zl p0 p1 p2 p3 p4 p5 xz xx hlk hk
                  go_loopw [17, 223] (fun _ i wx => ∃ k : Nat, i = .int .i64 k ∧ k ≤ 1 ∧ Below wc.heap.size wc wx ∧ (∀ i (hi : i < vs.length), i < k → vs[i].k = 1)) (fun _ i _ => 1 - (intOf i).toNat)
                  case atStart => exact ⟨0, rfl, by omega, HBX2.out, fun i hi h => by omega⟩
                  case round =>
                    obtain ⟨k, rfl, hk, hbx, hne⟩ := hrel
                    have HNE4 := Lib.hid hne
                    have HBX4 := Lib.hid hbx
                    have xz := HZc.out.below hbx
                    have xx := HXc.out.below hbx
                    obtain ⟨z0, z1, z2⟩ := xz.cells
                    have zf := xz.frozen
                    have zl := xz.lt
                    obtain ⟨p0, p1, p2, p3, p4, p5⟩ := xx.cells
                    simp only at p0
                    clear hne
                    by_cases hlk : k < 1
                    · have hlv : k < vs.length := by rw [HLen2.out]; exact hlk
                      obtain ⟨d0, d1, d2⟩ := (HV.out k hlv).below hbx
                      obtain ⟨v, hv⟩ : ∃ v, vs[k] = v := ⟨_, rfl⟩
                      have HVk := Lib.hid hv
                      rw [hv] at d0 d1 d2
                      obtain ⟨vk, vn, vt⟩ := v
                      simp only at d0 d1 d2
                      have hmem : (⟨vk, vn, vt⟩ : Vl) ∈ vs := by rw [← hv]; exact List.getElem_mem hlv
                      have HMem := Lib.hid hmem
                      clear hv hbx xx hmem
                      by_cases hkk : vk = 1
                      · have t0 : (vk != 1) = false := by rw [hkk]; rfl
                        clear xz
                        go_wp2_with fail
                        go_roundw
                        case rel => exact ⟨k + 1, by go_num, by omega, b_more HBX4.out _, fun i hi h => by
                          by_cases e : i = k
                          · subst e; rw [HVk.out]; exact hkk
                          · exact HNE4.out i hi (by omega)⟩
                        case measure => simp [intOf]; omega
                      · have t0 : (vk != 1) = true := bne_iff_ne.2 hkk
                        have hbad : (⟨rk, rn, rs⟩ : Vl) = flt 9 := HR1.out.symm.trans (bad_neg (by
              have h1 := HMem.out
              rw [HVs1.out] at h1
              simp at h1
              rw [← h1]; exact hkk))
                        have HBad := Lib.hid hbad
                        have hzr := xz.below (b_new wr (.cells #[.int .i64 vk, .int .i64 vn, .string vt] 23))
                        have HZr := Lib.hid hzr
                        have HBr := Lib.hid (b_more (b_trans HBw.out HBX4.out) (.cells #[.int .i64 vk, .int .i64 vn, .string vt] 23))
                        clear hbad hzr xz hkk
                        go_wp2_with fail
                        refine (no_any 9 _).mono ?_; rintro e w3 ⟨rfl, hb3⟩
                        have hz3 := HZr.out.below hb3
                        obtain ⟨z0, z1, z2⟩ := hz3.cells
                        have zf := hz3.frozen
                        have zl := hz3.lt
                        have HB3 := Lib.hid (b_trans HBr.out hb3)
                        clear hb3 hz3
                        go_wp2_with fail
                        refine bodyPost_ret (v := .agg #[.int .i64 5, .int .i64 9, .string ⟨#[]⟩]) (by simp [results, Tryz.results43, go_sem, z0, z1, z2]) rfl ⟨by injection HBad.out with e1 e2 e3; rw [e1, e2, e3], b_set3 HB3.out (w.heap.size + 1) (by omega) _ _ _⟩
                    · have hall : ∀ v ∈ vs, v.k = 1 := fun v hv => by
                        obtain ⟨i, hi, rfl⟩ := List.getElem_of_mem hv
                        exact HNE4.out i hi (by have := HLen2.out; omega)
                      have HAll := Lib.hid hall
                      have hvw := HV.out.below hbx
                      have HVw := Lib.hid hvw
                      have HBr := Lib.hid (b_trans HBw.out HBX4.out)
                      have HZr := Lib.hid xz
                      clear hall hvw hk
                      obtain ⟨wq, hwq⟩ : ∃ wq : World, wq = wr := ⟨_, rfl⟩
                      clear wq hwq
                      obtain ⟨u0, u1, u2⟩ : wr.cell? ⟨g, 0, none⟩ = some (.int .i64 v1.k) ∧ wr.cell? ⟨g, 1, none⟩ = some (.int .i64 v1.n) ∧ wr.cell? ⟨g, 2, none⟩ = some (.string v1.s) := by
                        have := HVw.out
                        rw [HVs1.out] at this
                        exact this 0 (by simp)
                      have hk1 : v1.k = 1 := HAll.out v1 (by rw [HVs1.out]; simp)
                      obtain ⟨vk, vn, vt⟩ := v1
                      simp only at u0 u1 u2 hk1
                      subst hk1
                      have hn : okN vn = true := by
                        rcases ok_cases HOk1.out with h | h | h | h | h
                        · exact h.2.1
                        · exact absurd (show (1 : Int) = 2 from h.1) (by decide)
                        · exact absurd (show (1 : Int) = 3 from h.1) (by decide)
                        · exact absurd (show (1 : Int) = 4 from h.1) (by decide)
                        · exact absurd (show (1 : Int) = 5 from h.1) (by decide)
                      have hw : IntKind.i64.wrap (-vn) = -vn := IntWalk.i64_in _ (by unfold okN at hn; simp only [decide_eq_true_eq] at hn; omega)
                      have hfin : (⟨rk, rn, rs⟩ : Vl) = ⟨1, -vn, e0⟩ := HR1.out.symm.trans (res_neg vn vt hn)
                      have HFin := Lib.hid hfin
                      clear hn hfin xz xx
                      go_wp2_with fail
                      refine bodyPost_ret (v := .agg #[.int .i64 1, .int .i64 (-vn), .string ⟨#[]⟩]) (by simp [results, Tryz.results43, go_sem, z0, z1, z2]) rfl ⟨by injection HFin.out with e1 e2 e3; rw [e1, e2, e3], b_set3 HBr.out (w.heap.size + 1) (by omega) _ _ _⟩
              · -- not
                as_aux_lemma =>
                  go_wp2_with fail
                  obtain ⟨wo, rfl⟩ : ∃ wo : World, wo = wr := ⟨_, rfl⟩
                  clear z0 z1 z2 zf zl p0 p1 p2 p3 p4 p5 xz xx hlk hk
                  go_loopw [17, 223] (fun _ i wx => ∃ k : Nat, i = .int .i64 k ∧ k ≤ 1 ∧ Below wc.heap.size wc wx ∧ (∀ i (hi : i < vs.length), i < k → vs[i].k = 2)) (fun _ i _ => 1 - (intOf i).toNat)
                  case atStart => exact ⟨0, rfl, by omega, HBX2.out, fun i hi h => by omega⟩
                  case round =>
                    obtain ⟨k, rfl, hk, hbx, hne⟩ := hrel
                    have HNE4 := Lib.hid hne
                    have HBX4 := Lib.hid hbx
                    have xz := HZc.out.below hbx
                    have xx := HXc.out.below hbx
                    obtain ⟨z0, z1, z2⟩ := xz.cells
                    have zf := xz.frozen
                    have zl := xz.lt
                    obtain ⟨p0, p1, p2, p3, p4, p5⟩ := xx.cells
                    simp only at p0
                    clear hne
                    by_cases hlk : k < 1
                    · have hlv : k < vs.length := by rw [HLen2.out]; exact hlk
                      obtain ⟨d0, d1, d2⟩ := (HV.out k hlv).below hbx
                      obtain ⟨v, hv⟩ : ∃ v, vs[k] = v := ⟨_, rfl⟩
                      have HVk := Lib.hid hv
                      rw [hv] at d0 d1 d2
                      obtain ⟨vk, vn, vt⟩ := v
                      simp only at d0 d1 d2
                      have hmem : (⟨vk, vn, vt⟩ : Vl) ∈ vs := by rw [← hv]; exact List.getElem_mem hlv
                      have HMem := Lib.hid hmem
                      clear hv hbx xx hmem
                      by_cases hkk : vk = 2
                      · have t0 : (vk != 2) = false := by rw [hkk]; rfl
                        clear xz
                        go_wp2_with fail
                        go_roundw
                        case rel => exact ⟨k + 1, by go_num, by omega, b_more HBX4.out _, fun i hi h => by
                          by_cases e : i = k
                          · subst e; rw [HVk.out]; exact hkk
                          · exact HNE4.out i hi (by omega)⟩
                        case measure => simp [intOf]; omega
                      · have t0 : (vk != 2) = true := bne_iff_ne.2 hkk
                        have hbad : (⟨rk, rn, rs⟩ : Vl) = flt 9 := HR1.out.symm.trans (bad_not (by
              have h1 := HMem.out
              rw [HVs1.out] at h1
              simp at h1
              rw [← h1]; exact hkk))
                        have HBad := Lib.hid hbad
                        have hzr := xz.below (b_new wr (.cells #[.int .i64 vk, .int .i64 vn, .string vt] 23))
                        have HZr := Lib.hid hzr
                        have HBr := Lib.hid (b_more (b_trans HBw.out HBX4.out) (.cells #[.int .i64 vk, .int .i64 vn, .string vt] 23))
                        clear hbad hzr xz hkk
                        go_wp2_with fail
                        refine (no_any 9 _).mono ?_; rintro e w3 ⟨rfl, hb3⟩
                        have hz3 := HZr.out.below hb3
                        obtain ⟨z0, z1, z2⟩ := hz3.cells
                        have zf := hz3.frozen
                        have zl := hz3.lt
                        have HB3 := Lib.hid (b_trans HBr.out hb3)
                        clear hb3 hz3
                        go_wp2_with fail
                        refine bodyPost_ret (v := .agg #[.int .i64 5, .int .i64 9, .string ⟨#[]⟩]) (by simp [results, Tryz.results43, go_sem, z0, z1, z2]) rfl ⟨by injection HBad.out with e1 e2 e3; rw [e1, e2, e3], b_set3 HB3.out (w.heap.size + 1) (by omega) _ _ _⟩
                    · have hall : ∀ v ∈ vs, v.k = 2 := fun v hv => by
                        obtain ⟨i, hi, rfl⟩ := List.getElem_of_mem hv
                        exact HNE4.out i hi (by have := HLen2.out; omega)
                      have HAll := Lib.hid hall
                      have hvw := HV.out.below hbx
                      have HVw := Lib.hid hvw
                      have HBr := Lib.hid (b_trans HBw.out HBX4.out)
                      have HZr := Lib.hid xz
                      clear hall hvw hk
                      obtain ⟨wq, hwq⟩ : ∃ wq : World, wq = wr := ⟨_, rfl⟩
                      clear wq hwq
                      obtain ⟨u0, u1, u2⟩ : wr.cell? ⟨g, 0, none⟩ = some (.int .i64 v1.k) ∧ wr.cell? ⟨g, 1, none⟩ = some (.int .i64 v1.n) ∧ wr.cell? ⟨g, 2, none⟩ = some (.string v1.s) := by
                        have := HVw.out
                        rw [HVs1.out] at this
                        exact this 0 (by simp)
                      have hk1 : v1.k = 2 := HAll.out v1 (by rw [HVs1.out]; simp)
                      obtain ⟨vk, vn, vt⟩ := v1
                      simp only at u0 u1 u2 hk1
                      subst hk1
                      have hfin : (⟨rk, rn, rs⟩ : Vl) = tru (vn == 0) := HR1.out.symm.trans (res_not vn vt HOk1.out)
                      have HFin := Lib.hid hfin
                      clear hfin xz xx
                      go_wp2_with fail
                      refine (yes_any _ _).mono ?_; rintro e w3 ⟨rfl, hb3⟩
                      have hz3 := HZr.out.below hb3
                      obtain ⟨z0, z1, z2⟩ := hz3.cells
                      have zf := hz3.frozen
                      have zl := hz3.lt
                      have HB3 := Lib.hid (b_trans HBr.out hb3)
                      clear hb3 hz3
                      go_wp2_with fail
                      refine bodyPost_ret (v := .agg #[.int .i64 2, .int .i64 (bitI (vn == 0)), .string ⟨#[]⟩]) (by simp [results, Tryz.results43, go_sem, z0, z1, z2]) rfl ⟨by injection HFin.out with e1 e2 e3; rw [e1, e2, e3], b_set3 HB3.out (w.heap.size + 1) (by omega) _ _ _⟩
              · -- len
                as_aux_lemma =>
                  go_wp2_with fail
                  obtain ⟨wo, rfl⟩ : ∃ wo : World, wo = wr := ⟨_, rfl⟩
                  clear z0 z1 z2 zf zl p0 p1 p2 p3 p4 p5 xz xx hlk hk
                  go_loopw [17, 223] (fun _ i wx => ∃ k : Nat, i = .int .i64 k ∧ k ≤ 1 ∧ Below wc.heap.size wc wx ∧ (∀ i (hi : i < vs.length), i < k → vs[i].k = 3)) (fun _ i _ => 1 - (intOf i).toNat)
                  case atStart => exact ⟨0, rfl, by omega, HBX2.out, fun i hi h => by omega⟩
                  case round =>
                    obtain ⟨k, rfl, hk, hbx, hne⟩ := hrel
                    have HNE4 := Lib.hid hne
                    have HBX4 := Lib.hid hbx
                    have xz := HZc.out.below hbx
                    have xx := HXc.out.below hbx
                    obtain ⟨z0, z1, z2⟩ := xz.cells
                    have zf := xz.frozen
                    have zl := xz.lt
                    obtain ⟨p0, p1, p2, p3, p4, p5⟩ := xx.cells
                    simp only at p0
                    clear hne
                    by_cases hlk : k < 1
                    · have hlv : k < vs.length := by rw [HLen2.out]; exact hlk
                      obtain ⟨d0, d1, d2⟩ := (HV.out k hlv).below hbx
                      obtain ⟨v, hv⟩ : ∃ v, vs[k] = v := ⟨_, rfl⟩
                      have HVk := Lib.hid hv
                      rw [hv] at d0 d1 d2
                      obtain ⟨vk, vn, vt⟩ := v
                      simp only at d0 d1 d2
                      have hmem : (⟨vk, vn, vt⟩ : Vl) ∈ vs := by rw [← hv]; exact List.getElem_mem hlv
                      have HMem := Lib.hid hmem
                      clear hv hbx xx hmem
                      by_cases hkk : vk = 3
                      · have t0 : (vk != 3) = false := by rw [hkk]; rfl
                        clear xz
                        go_wp2_with fail
                        go_roundw
                        case rel => exact ⟨k + 1, by go_num, by omega, b_more HBX4.out _, fun i hi h => by
                          by_cases e : i = k
                          · subst e; rw [HVk.out]; exact hkk
                          · exact HNE4.out i hi (by omega)⟩
                        case measure => simp [intOf]; omega
                      · have t0 : (vk != 3) = true := bne_iff_ne.2 hkk
                        have hbad : (⟨rk, rn, rs⟩ : Vl) = flt 9 := HR1.out.symm.trans (bad_len (by
              have h1 := HMem.out
              rw [HVs1.out] at h1
              simp at h1
              rw [← h1]; exact hkk))
                        have HBad := Lib.hid hbad
                        have hzr := xz.below (b_new wr (.cells #[.int .i64 vk, .int .i64 vn, .string vt] 23))
                        have HZr := Lib.hid hzr
                        have HBr := Lib.hid (b_more (b_trans HBw.out HBX4.out) (.cells #[.int .i64 vk, .int .i64 vn, .string vt] 23))
                        clear hbad hzr xz hkk
                        go_wp2_with fail
                        refine (no_any 9 _).mono ?_; rintro e w3 ⟨rfl, hb3⟩
                        have hz3 := HZr.out.below hb3
                        obtain ⟨z0, z1, z2⟩ := hz3.cells
                        have zf := hz3.frozen
                        have zl := hz3.lt
                        have HB3 := Lib.hid (b_trans HBr.out hb3)
                        clear hb3 hz3
                        go_wp2_with fail
                        refine bodyPost_ret (v := .agg #[.int .i64 5, .int .i64 9, .string ⟨#[]⟩]) (by simp [results, Tryz.results43, go_sem, z0, z1, z2]) rfl ⟨by injection HBad.out with e1 e2 e3; rw [e1, e2, e3], b_set3 HB3.out (w.heap.size + 1) (by omega) _ _ _⟩
                    · have hall : ∀ v ∈ vs, v.k = 3 := fun v hv => by
                        obtain ⟨i, hi, rfl⟩ := List.getElem_of_mem hv
                        exact HNE4.out i hi (by have := HLen2.out; omega)
                      have HAll := Lib.hid hall
                      have hvw := HV.out.below hbx
                      have HVw := Lib.hid hvw
                      have HBr := Lib.hid (b_trans HBw.out HBX4.out)
                      have HZr := Lib.hid xz
                      clear hall hvw hk
                      obtain ⟨wq, hwq⟩ : ∃ wq : World, wq = wr := ⟨_, rfl⟩
                      clear wq hwq
                      obtain ⟨u0, u1, u2⟩ : wr.cell? ⟨g, 0, none⟩ = some (.int .i64 v1.k) ∧ wr.cell? ⟨g, 1, none⟩ = some (.int .i64 v1.n) ∧ wr.cell? ⟨g, 2, none⟩ = some (.string v1.s) := by
                        have := HVw.out
                        rw [HVs1.out] at this
                        exact this 0 (by simp)
                      have hk1 : v1.k = 3 := HAll.out v1 (by rw [HVs1.out]; simp)
                      obtain ⟨vk, vn, vt⟩ := v1
                      simp only at u0 u1 u2 hk1
                      subst hk1
                      have hfin : (⟨rk, rn, rs⟩ : Vl) = ⟨1, (vt.size : Int), e0⟩ := HR1.out.symm.trans rfl
                      have HFin := Lib.hid hfin
                      clear hfin xz xx
                      go_wp2_with fail
                      refine bodyPost_ret (v := .agg #[.int .i64 1, .int .i64 vt.size, .string ⟨#[]⟩]) (by simp [results, Tryz.results43, go_sem, z0, z1, z2]) rfl ⟨by injection HFin.out with e1 e2 e3; rw [e1, e2, e3], b_set3 HBr.out (w.heap.size + 1) (by omega) _ _ _⟩
            · have hl1 : N = 2 := HLen.out.1.trans (ar6 (by omega) (by omega))
              have hl2 : vs.length = 2 := HLen.out.2.trans hl1
              have HLen2 := Lib.hid hl2
              subst hl1
              have hvs1 : ∃ a b, vs = [a, b] := by
                match vs, hl2 with
                | [a, b], _ => exact ⟨a, b, rfl⟩
              obtain ⟨v1, v2, hv1⟩ := hvs1
              have HVs1 := Lib.hid hv1
              have hr1 := HRes.out
              rw [hv1] at hr1
              have HR1 := Lib.hid (show resV (compR op v1 v2) = ⟨rk, rn, rs⟩ from hr1)
              have HOk1 := Lib.hid (HOk.out v1 (by rw [hv1]; simp))
              have HOk2 := Lib.hid (HOk.out v2 (by rw [hv1]; simp))
              have HKn1 := Lib.hid (HKn.out v1 (by rw [hv1]; simp))
              have HKn2 := Lib.hid (HKn.out v2 (by rw [hv1]; simp))
              clear hv1 hr1 hl2 ar5 ar6
              by_cases pc : 11 ≤ op
              · -- comparisons
                have HVw := Lib.hid (HV.out.below HBX2.out)
                have hcl : ∀ V, Below wr.heap.size wr V → V.cell? ⟨g, 0, none⟩ = some (.int .i64 v1.k) ∧ V.cell? ⟨g, 1, none⟩ = some (.int .i64 v1.n) ∧ V.cell? ⟨g, 2, none⟩ = some (.string v1.s) ∧ V.cell? ⟨g, 3, none⟩ = some (.int .i64 v2.k) ∧ V.cell? ⟨g, 4, none⟩ = some (.int .i64 v2.n) ∧ V.cell? ⟨g, 5, none⟩ = some (.string v2.s) := fun V hV => by
                  have h1 := HVw.out.below hV
                  rw [HVs1.out] at h1
                  obtain ⟨a0, a1, a2⟩ := h1 0 (by simp)
                  obtain ⟨a3, a4, a5⟩ := h1 1 (by simp)
                  exact ⟨a0, a1, a2, a3, a4, a5⟩
                have HBr := Lib.hid (b_trans HBw.out HBX2.out)
                have HZr := Lib.hid xz
                have HXr := Lib.hid xx
                obtain ⟨ck, cn, cs⟩ := v1
                obtain ⟨bk, bn, bs⟩ := v2
                simp only at hcl
                obtain ⟨u0, u1, u2, u3, u4, u5⟩ := hcl wr (Below.refl _ _)
                have HCl := Lib.hid hcl
                have hbl := Below.refl wr.heap.size wr
                clear hcl xz xx
                have hop4 : op = 11 ∨ op = 12 ∨ op = 13 ∨ op = 14 := by omega
                by_cases hkk : ck = bk
                · subst hkk
                  have hord := fun W => order_good ck cn bn cs bs W HKn1.out HKn2.out
                  have hoc := ord_cases ⟨ck, cn, cs⟩ ⟨ck, bn, bs⟩
                  have hfin : (⟨rk, rn, rs⟩ : Vl) = tru (cmpB op (ordVl ⟨ck, cn, cs⟩ ⟨ck, bn, bs⟩)) := HR1.out.symm.trans (res_cmp op _ _ (by omega) rfl)
                  have hoe : ordV ck cn bn cs.data.toList bs.data.toList = ordVl ⟨ck, cn, cs⟩ ⟨ck, bn, bs⟩ := rfl
                  rw [hoe] at hord
                  generalize ordVl ⟨ck, cn, cs⟩ ⟨ck, bn, bs⟩ = o at hord hoc hfin
                  have hca := cmpB_all o hoc
                  have HOrd := Lib.hid hord
                  have HFin := Lib.hid hfin
                  have HCa := Lib.hid hca
                  clear hord hoc hfin hca hoe
                  rcases hop4 with rfl | rfl | rfl | rfl
                  · as_aux_lemma =>
                      go_upto_region 47 with fail
                      go_region_held3 (fun V => V.cell? ⟨g, 0, none⟩ = some (.int .i64 ck) ∧ V.cell? ⟨g, 1, none⟩ = some (.int .i64 cn) ∧ V.cell? ⟨g, 2, none⟩ = some (.string cs) ∧ V.cell? ⟨g, 3, none⟩ = some (.int .i64 ck) ∧ V.cell? ⟨g, 4, none⟩ = some (.int .i64 bn) ∧ V.cell? ⟨g, 5, none⟩ = some (.string bs)) (first | (with_reducible exact HCl.out _ hbl) | (with_reducible exact HCl.out _ (b_drew hbl)))
                        (first | (go_at_call 68; (with_reducible refine (HOrd.out _).mono ?_); rintro e wn ⟨rfl, hbn⟩; have hbl : Below wr.heap.size wr wn := (by first | exact b_step hbl hbn | exact b_step (b_drew hbl) hbn)))
                      have xz2 := HZr.out.below hbl
                      have xx2 := HXr.out.below hbl
                      have HBn := Lib.hid (b_trans HBr.out hbl)
                      clear z0 z1 z2 zf zl p0 p1 p2 p3 p4 p5 u0 u1 u2 u3 u4 u5 hbl hbn
                      obtain ⟨w1', w2', w3', w4', r1, r2, r3, r4, l1, l2, l3, l4, hb4⟩ := four_maps wn (o == -1) (o != 1) (o == 0) (o != 0)
                      have hmm := @run_makeMap Tryz.prog
                      have xz4 := xz2.below hb4
                      have g4 : ∀ W', Below wn.heap.size wn W' → W'.cell? ⟨w.heap.size, 0, none⟩ = some (.int .i64 11) := fun W' hW => (xx2.below hW).cells.1
                      have p0 := g4 w4' hb4
                      have HBn4 := Lib.hid (b_trans HBn.out hb4)
                      have HZ4 := Lib.hid xz4
                      clear g4 xz2 xx2 xz4 hb4
                      go_wp2_with fail
                      refine (yes_any _ _).mono ?_; rintro e w3 ⟨rfl, hb3⟩
                      have hz3 := HZ4.out.below hb3
                      obtain ⟨z0, z1, z2⟩ := hz3.cells
                      have zf := hz3.frozen
                      have zl := hz3.lt
                      have HB3 := Lib.hid (b_trans HBn4.out hb3)
                      clear hb3 hz3
                      go_wp2_with fail
                      refine bodyPost_ret (v := .agg #[.int .i64 2, .int .i64 (bitI (o == -1)), .string ⟨#[]⟩]) (by simp [results, Tryz.results43, go_sem, z0, z1, z2]) rfl ⟨by injection HFin.out with e1 e2 e3; rw [e1, e2, e3, HCa.out.1], b_set3 HB3.out (w.heap.size + 1) (by omega) _ _ _⟩
                  · as_aux_lemma =>
                      go_upto_region 47 with fail
                      go_region_held3 (fun V => V.cell? ⟨g, 0, none⟩ = some (.int .i64 ck) ∧ V.cell? ⟨g, 1, none⟩ = some (.int .i64 cn) ∧ V.cell? ⟨g, 2, none⟩ = some (.string cs) ∧ V.cell? ⟨g, 3, none⟩ = some (.int .i64 ck) ∧ V.cell? ⟨g, 4, none⟩ = some (.int .i64 bn) ∧ V.cell? ⟨g, 5, none⟩ = some (.string bs)) (first | (with_reducible exact HCl.out _ hbl) | (with_reducible exact HCl.out _ (b_drew hbl)))
                        (first | (go_at_call 68; (with_reducible refine (HOrd.out _).mono ?_); rintro e wn ⟨rfl, hbn⟩; have hbl : Below wr.heap.size wr wn := (by first | exact b_step hbl hbn | exact b_step (b_drew hbl) hbn)))
                      have xz2 := HZr.out.below hbl
                      have xx2 := HXr.out.below hbl
                      have HBn := Lib.hid (b_trans HBr.out hbl)
                      clear z0 z1 z2 zf zl p0 p1 p2 p3 p4 p5 u0 u1 u2 u3 u4 u5 hbl hbn
                      obtain ⟨w1', w2', w3', w4', r1, r2, r3, r4, l1, l2, l3, l4, hb4⟩ := four_maps wn (o == -1) (o != 1) (o == 0) (o != 0)
                      have hmm := @run_makeMap Tryz.prog
                      have xz4 := xz2.below hb4
                      have g4 : ∀ W', Below wn.heap.size wn W' → W'.cell? ⟨w.heap.size, 0, none⟩ = some (.int .i64 12) := fun W' hW => (xx2.below hW).cells.1
                      have p0 := g4 w4' hb4
                      have HBn4 := Lib.hid (b_trans HBn.out hb4)
                      have HZ4 := Lib.hid xz4
                      clear g4 xz2 xx2 xz4 hb4
                      go_wp2_with fail
                      refine (yes_any _ _).mono ?_; rintro e w3 ⟨rfl, hb3⟩
                      have hz3 := HZ4.out.below hb3
                      obtain ⟨z0, z1, z2⟩ := hz3.cells
                      have zf := hz3.frozen
                      have zl := hz3.lt
                      have HB3 := Lib.hid (b_trans HBn4.out hb3)
                      clear hb3 hz3
                      go_wp2_with fail
                      refine bodyPost_ret (v := .agg #[.int .i64 2, .int .i64 (bitI (o != 1)), .string ⟨#[]⟩]) (by simp [results, Tryz.results43, go_sem, z0, z1, z2]) rfl ⟨by injection HFin.out with e1 e2 e3; rw [e1, e2, e3, HCa.out.2.1], b_set3 HB3.out (w.heap.size + 1) (by omega) _ _ _⟩
                  · as_aux_lemma =>
                      go_upto_region 47 with fail
                      go_region_held3 (fun V => V.cell? ⟨g, 0, none⟩ = some (.int .i64 ck) ∧ V.cell? ⟨g, 1, none⟩ = some (.int .i64 cn) ∧ V.cell? ⟨g, 2, none⟩ = some (.string cs) ∧ V.cell? ⟨g, 3, none⟩ = some (.int .i64 ck) ∧ V.cell? ⟨g, 4, none⟩ = some (.int .i64 bn) ∧ V.cell? ⟨g, 5, none⟩ = some (.string bs)) (first | (with_reducible exact HCl.out _ hbl) | (with_reducible exact HCl.out _ (b_drew hbl)))
                        (first | (go_at_call 68; (with_reducible refine (HOrd.out _).mono ?_); rintro e wn ⟨rfl, hbn⟩; have hbl : Below wr.heap.size wr wn := (by first | exact b_step hbl hbn | exact b_step (b_drew hbl) hbn)))
                      have xz2 := HZr.out.below hbl
                      have xx2 := HXr.out.below hbl
                      have HBn := Lib.hid (b_trans HBr.out hbl)
                      clear z0 z1 z2 zf zl p0 p1 p2 p3 p4 p5 u0 u1 u2 u3 u4 u5 hbl hbn
                      obtain ⟨w1', w2', w3', w4', r1, r2, r3, r4, l1, l2, l3, l4, hb4⟩ := four_maps wn (o == -1) (o != 1) (o == 0) (o != 0)
                      have hmm := @run_makeMap Tryz.prog
                      have xz4 := xz2.below hb4
                      have g4 : ∀ W', Below wn.heap.size wn W' → W'.cell? ⟨w.heap.size, 0, none⟩ = some (.int .i64 13) := fun W' hW => (xx2.below hW).cells.1
                      have p0 := g4 w4' hb4
                      have HBn4 := Lib.hid (b_trans HBn.out hb4)
                      have HZ4 := Lib.hid xz4
                      clear g4 xz2 xx2 xz4 hb4
                      go_wp2_with fail
                      refine (yes_any _ _).mono ?_; rintro e w3 ⟨rfl, hb3⟩
                      have hz3 := HZ4.out.below hb3
                      obtain ⟨z0, z1, z2⟩ := hz3.cells
                      have zf := hz3.frozen
                      have zl := hz3.lt
                      have HB3 := Lib.hid (b_trans HBn4.out hb3)
                      clear hb3 hz3
                      go_wp2_with fail
                      refine bodyPost_ret (v := .agg #[.int .i64 2, .int .i64 (bitI (o == 0)), .string ⟨#[]⟩]) (by simp [results, Tryz.results43, go_sem, z0, z1, z2]) rfl ⟨by injection HFin.out with e1 e2 e3; rw [e1, e2, e3, HCa.out.2.2.1], b_set3 HB3.out (w.heap.size + 1) (by omega) _ _ _⟩
                  · as_aux_lemma =>
                      go_upto_region 47 with fail
                      go_region_held3 (fun V => V.cell? ⟨g, 0, none⟩ = some (.int .i64 ck) ∧ V.cell? ⟨g, 1, none⟩ = some (.int .i64 cn) ∧ V.cell? ⟨g, 2, none⟩ = some (.string cs) ∧ V.cell? ⟨g, 3, none⟩ = some (.int .i64 ck) ∧ V.cell? ⟨g, 4, none⟩ = some (.int .i64 bn) ∧ V.cell? ⟨g, 5, none⟩ = some (.string bs)) (first | (with_reducible exact HCl.out _ hbl) | (with_reducible exact HCl.out _ (b_drew hbl)))
                        (first | (go_at_call 68; (with_reducible refine (HOrd.out _).mono ?_); rintro e wn ⟨rfl, hbn⟩; have hbl : Below wr.heap.size wr wn := (by first | exact b_step hbl hbn | exact b_step (b_drew hbl) hbn)))
                      have xz2 := HZr.out.below hbl
                      have xx2 := HXr.out.below hbl
                      have HBn := Lib.hid (b_trans HBr.out hbl)
                      clear z0 z1 z2 zf zl p0 p1 p2 p3 p4 p5 u0 u1 u2 u3 u4 u5 hbl hbn
                      obtain ⟨w1', w2', w3', w4', r1, r2, r3, r4, l1, l2, l3, l4, hb4⟩ := four_maps wn (o == -1) (o != 1) (o == 0) (o != 0)
                      have hmm := @run_makeMap Tryz.prog
                      have xz4 := xz2.below hb4
                      have g4 : ∀ W', Below wn.heap.size wn W' → W'.cell? ⟨w.heap.size, 0, none⟩ = some (.int .i64 14) := fun W' hW => (xx2.below hW).cells.1
                      have p0 := g4 w4' hb4
                      have HBn4 := Lib.hid (b_trans HBn.out hb4)
                      have HZ4 := Lib.hid xz4
                      clear g4 xz2 xx2 xz4 hb4
                      go_wp2_with fail
                      refine (yes_any _ _).mono ?_; rintro e w3 ⟨rfl, hb3⟩
                      have hz3 := HZ4.out.below hb3
                      obtain ⟨z0, z1, z2⟩ := hz3.cells
                      have zf := hz3.frozen
                      have zl := hz3.lt
                      have HB3 := Lib.hid (b_trans HBn4.out hb3)
                      clear hb3 hz3
                      go_wp2_with fail
                      refine bodyPost_ret (v := .agg #[.int .i64 2, .int .i64 (bitI (o != 0)), .string ⟨#[]⟩]) (by simp [results, Tryz.results43, go_sem, z0, z1, z2]) rfl ⟨by injection HFin.out with e1 e2 e3; rw [e1, e2, e3, HCa.out.2.2.2], b_set3 HB3.out (w.heap.size + 1) (by omega) _ _ _⟩
                · have hord := fun W => order_bad ck cn bk bn cs bs W (fun h => hkk h.2.2)
                  have hfin : (⟨rk, rn, rs⟩ : Vl) = flt 9 := HR1.out.symm.trans (bad_cmp op _ _ (by omega) hkk)
                  have HOrd := Lib.hid hord
                  have HFin := Lib.hid hfin
                  clear hord hfin hkk
                  rcases hop4 with rfl | rfl | rfl | rfl
                  all_goals as_aux_lemma =>
                    go_upto_region 47 with fail
                    go_region_held3 (fun V => V.cell? ⟨g, 0, none⟩ = some (.int .i64 ck) ∧ V.cell? ⟨g, 1, none⟩ = some (.int .i64 cn) ∧ V.cell? ⟨g, 2, none⟩ = some (.string cs) ∧ V.cell? ⟨g, 3, none⟩ = some (.int .i64 bk) ∧ V.cell? ⟨g, 4, none⟩ = some (.int .i64 bn) ∧ V.cell? ⟨g, 5, none⟩ = some (.string bs)) (first | (with_reducible exact HCl.out _ hbl) | (with_reducible exact HCl.out _ (b_drew hbl))) (first | (go_at_call 68; (with_reducible refine (HOrd.out _).mono ?_); rintro e wn ⟨rfl, hbn⟩; have hbl : Below wr.heap.size wr wn := (by first | exact b_step hbl hbn | exact b_step (b_drew hbl) hbn)))
                    have xz2 := HZr.out.below hbl
                    have HZ4 := Lib.hid xz2
                    have HBn4 := Lib.hid (b_trans HBr.out hbl)
                    clear z0 z1 z2 zf zl p0 p1 p2 p3 p4 p5 u0 u1 u2 u3 u4 u5 hbl hbn xz2
                    go_wp2_with fail
                    refine (no_any 9 _).mono ?_; rintro e w3 ⟨rfl, hb3⟩
                    have hz3 := HZ4.out.below hb3
                    obtain ⟨z0, z1, z2⟩ := hz3.cells
                    have zf := hz3.frozen
                    have zl := hz3.lt
                    have HB3 := Lib.hid (b_trans HBn4.out hb3)
                    clear hb3 hz3
                    go_wp2_with fail
                    refine bodyPost_ret (v := .agg #[.int .i64 5, .int .i64 9, .string ⟨#[]⟩]) (by simp [results, Tryz.results43, go_sem, z0, z1, z2]) rfl ⟨by injection HFin.out with e1 e2 e3; rw [e1, e2, e3], b_set3 HB3.out (w.heap.size + 1) (by omega) _ _ _⟩
              · by_cases pj : op = 10
                · subst pj
                  as_aux_lemma =>
                    go_wp2_with fail
                    obtain ⟨wo, rfl⟩ : ∃ wo : World, wo = wr := ⟨_, rfl⟩
                    clear z0 z1 z2 zf zl p0 p1 p2 p3 p4 p5 xz xx hlk hk
                    go_loopw [17, 223] (fun _ i wx => ∃ k : Nat, i = .int .i64 k ∧ k ≤ 2 ∧ Below wc.heap.size wc wx ∧ (∀ i (hi : i < vs.length), i < k → vs[i].k = 3)) (fun _ i _ => 2 - (intOf i).toNat)
                    case atStart => exact ⟨0, rfl, by omega, HBX2.out, fun i hi h => by omega⟩
                    case round =>
                      obtain ⟨k, rfl, hk, hbx, hne⟩ := hrel
                      have HNE4 := Lib.hid hne
                      have HBX4 := Lib.hid hbx
                      have xz := HZc.out.below hbx
                      have xx := HXc.out.below hbx
                      obtain ⟨z0, z1, z2⟩ := xz.cells
                      have zf := xz.frozen
                      have zl := xz.lt
                      obtain ⟨p0, p1, p2, p3, p4, p5⟩ := xx.cells
                      simp only at p0
                      clear hne
                      by_cases hlk : k < 2
                      · have hlv : k < vs.length := by rw [HLen2.out]; exact hlk
                        obtain ⟨d0, d1, d2⟩ := (HV.out k hlv).below hbx
                        obtain ⟨v, hv⟩ : ∃ v, vs[k] = v := ⟨_, rfl⟩
                        have HVk := Lib.hid hv
                        rw [hv] at d0 d1 d2
                        obtain ⟨vk, vn, vt⟩ := v
                        simp only at d0 d1 d2
                        have hmem : (⟨vk, vn, vt⟩ : Vl) ∈ vs := by rw [← hv]; exact List.getElem_mem hlv
                        have HMem := Lib.hid hmem
                        clear hv hbx xx hmem
                        by_cases hkk : vk = 3
                        · have t0 : (vk != 3) = false := by rw [hkk]; rfl
                          clear xz
                          go_wp2_with fail
                          go_roundw
                          case rel => exact ⟨k + 1, by go_num, by omega, b_more HBX4.out _, fun i hi h => by
                            by_cases e : i = k
                            · subst e; rw [HVk.out]; exact hkk
                            · exact HNE4.out i hi (by omega)⟩
                          case measure => simp [intOf]; omega
                        · have t0 : (vk != 3) = true := bne_iff_ne.2 hkk
                          have hbad : (⟨rk, rn, rs⟩ : Vl) = flt 9 := HR1.out.symm.trans (bad_join _ _ (by
              have h1 := HMem.out
              rw [HVs1.out] at h1
              simp only [List.mem_cons, List.not_mem_nil, or_false] at h1
              rcases h1 with h1 | h1
              · left; rw [← h1]; exact hkk
              · right; rw [← h1]; exact hkk))
                          have HBad := Lib.hid hbad
                          have hzr := xz.below (b_new wr (.cells #[.int .i64 vk, .int .i64 vn, .string vt] 23))
                          have HZr := Lib.hid hzr
                          have HBr := Lib.hid (b_more (b_trans HBw.out HBX4.out) (.cells #[.int .i64 vk, .int .i64 vn, .string vt] 23))
                          clear hbad hzr xz hkk
                          go_wp2_with fail
                          refine (no_any 9 _).mono ?_; rintro e w3 ⟨rfl, hb3⟩
                          have hz3 := HZr.out.below hb3
                          obtain ⟨z0, z1, z2⟩ := hz3.cells
                          have zf := hz3.frozen
                          have zl := hz3.lt
                          have HB3 := Lib.hid (b_trans HBr.out hb3)
                          clear hb3 hz3
                          go_wp2_with fail
                          refine bodyPost_ret (v := .agg #[.int .i64 5, .int .i64 9, .string ⟨#[]⟩]) (by simp [results, Tryz.results43, go_sem, z0, z1, z2]) rfl ⟨by injection HBad.out with e1 e2 e3; rw [e1, e2, e3], b_set3 HB3.out (w.heap.size + 1) (by omega) _ _ _⟩
                      · have hall : ∀ v ∈ vs, v.k = 3 := fun v hv => by
                          obtain ⟨i, hi, rfl⟩ := List.getElem_of_mem hv
                          exact HNE4.out i hi (by have := HLen2.out; omega)
                        have HAll := Lib.hid hall
                        have hvw := HV.out.below hbx
                        have HVw := Lib.hid hvw
                        have HBr := Lib.hid (b_trans HBw.out HBX4.out)
                        have HZr := Lib.hid xz
                        clear hall hvw hk
                        obtain ⟨wq, hwq⟩ : ∃ wq : World, wq = wr := ⟨_, rfl⟩
                        clear wq hwq
                        have hcl : ∀ V, Below wr.heap.size wr V → V.cell? ⟨g, 0, none⟩ = some (.int .i64 v1.k) ∧ V.cell? ⟨g, 1, none⟩ = some (.int .i64 v1.n) ∧ V.cell? ⟨g, 2, none⟩ = some (.string v1.s) ∧ V.cell? ⟨g, 3, none⟩ = some (.int .i64 v2.k) ∧ V.cell? ⟨g, 4, none⟩ = some (.int .i64 v2.n) ∧ V.cell? ⟨g, 5, none⟩ = some (.string v2.s) := fun V hV => by
                          have h1 := HVw.out.below hV
                          rw [HVs1.out] at h1
                          obtain ⟨a0, a1, a2⟩ := h1 0 (by simp)
                          obtain ⟨a3, a4, a5⟩ := h1 1 (by simp)
                          exact ⟨a0, a1, a2, a3, a4, a5⟩
                        have hk1 : v1.k = 3 := HAll.out v1 (by rw [HVs1.out]; simp)
                        have hk2 : v2.k = 3 := HAll.out v2 (by rw [HVs1.out]; simp)
                        obtain ⟨ck, cn, cs⟩ := v1
                        obtain ⟨bk, bn, bs⟩ := v2
                        simp only at hcl hk1 hk2
                        subst hk1 hk2
                        obtain ⟨u0, u1, u2, u3, u4, u5⟩ := hcl wr (Below.refl _ _)
                        have HXr := Lib.hid xx
                        have s1 := ok_short HOk1.out
                        have s2 := ok_short HOk2.out
                        simp only at s1 s2
                        have hadd : ∀ W : World, (Op.stringOp .add cs bs).run Tryz.prog W = .ok (.string (cs ++ bs)) W := fun W => run_string_add_sum W cs bs (by omega)
                        have hsz : (cs ++ bs).size = cs.size + bs.size := ByteArray.size_append
                        have hfin : (⟨rk, rn, rs⟩ : Vl) = if 40 < cs.size + bs.size then flt 1 else ⟨3, 0, cs ++ bs⟩ := HR1.out.symm.trans (res_join cn bn cs bs)
                        have HFin := Lib.hid hfin
                        have HSz := Lib.hid hsz
                        clear hfin hcl xz xx hsz
                        go_upto_region 68 with fail
                        go_region
                        all_goals (
                          have hzd : BV wr.drew (w.heap.size + 1) 0 0 ⟨#[]⟩ := HZr.out
                          have hbd := b_drew HBr.out
                          clear z0 z1 z2 zf zl p0 p1 p2 p3 p4 p5 u0 u1 u2 u3 u4 u5
                          generalize wr.drew = V at hzd hbd ⊢
                          obtain ⟨z0, z1, z2⟩ := hzd.cells
                          have zf := hzd.frozen
                          have zl := hzd.lt
                          have HZd := Lib.hid hzd
                          have HBd := Lib.hid hbd
                          clear hzd hbd
                          by_cases hl : 40 < cs.size + bs.size
                          · have t1 : ¬ ((cs ++ bs).size : Int) ≤ 40 := by rw [HSz.out]; omega
                            have t2 : ¬ ((cs.size : Int) + (bs.size : Int) ≤ 40) := by omega
                            have hf := HFin.out
                            rw [if_pos hl] at hf
                            have HF := Lib.hid hf
                            clear hf
                            go_wp2_with fail
                            refine (no_any 1 _).mono ?_; rintro e w3 ⟨rfl, hb3⟩
                            have hz3 := HZd.out.below hb3
                            obtain ⟨z0, z1, z2⟩ := hz3.cells
                            have zf := hz3.frozen
                            have zl := hz3.lt
                            have HB3 := Lib.hid (b_trans HBd.out hb3)
                            clear hb3 hz3
                            go_wp2_with fail
                            refine bodyPost_ret (v := .agg #[.int .i64 5, .int .i64 1, .string ⟨#[]⟩]) (by simp [results, Tryz.results43, go_sem, z0, z1, z2]) rfl ⟨by injection HF.out with e1 e2 e3; rw [e1, e2, e3], b_set3 HB3.out (w.heap.size + 1) (by omega) _ _ _⟩
                          · have t1 : ((cs ++ bs).size : Int) ≤ 40 := by rw [HSz.out]; omega
                            have t2 : (cs.size : Int) + (bs.size : Int) ≤ 40 := by omega
                            have hf := HFin.out
                            rw [if_neg hl] at hf
                            have HF := Lib.hid hf
                            clear hf
                            go_wp2_with fail
                            refine bodyPost_ret (v := .agg #[.int .i64 3, .int .i64 0, .string (cs ++ bs)]) (by simp [results, Tryz.results43, go_sem, z0, z1, z2]) rfl ⟨by injection HF.out with e1 e2 e3; rw [e1, e2, e3], b_set3 HBd.out (w.heap.size + 1) (by omega) _ _ _⟩)
                · have o11 : (op == 11) = false := beq_eq_false_iff_ne.2 (by omega)
                  have o12 : (op == 12) = false := beq_eq_false_iff_ne.2 (by omega)
                  have o13 : (op == 13) = false := beq_eq_false_iff_ne.2 (by omega)
                  have o14 : (op == 14) = false := beq_eq_false_iff_ne.2 (by omega)
                  have o10 : (op == 10) = false := beq_eq_false_iff_ne.2 (by omega)
                  have o18 : (op == 18) = false := beq_eq_false_iff_ne.2 (by omega)
                  have o4 : (op == 4) = false := beq_eq_false_iff_ne.2 (by omega)
                  have o3 : (op == 3) = false := beq_eq_false_iff_ne.2 (by omega)
                  have op5 : 5 ≤ op ∧ op ≤ 9 := by omega
                  as_aux_lemma =>
                    go_wp2_with fail
                    obtain ⟨wo, rfl⟩ : ∃ wo : World, wo = wr := ⟨_, rfl⟩
                    clear z0 z1 z2 zf zl p0 p1 p2 p3 p4 p5 xz xx hlk hk
                    go_loopw [17, 223] (fun _ i wx => ∃ k : Nat, i = .int .i64 k ∧ k ≤ 2 ∧ Below wc.heap.size wc wx ∧ (∀ i (hi : i < vs.length), i < k → vs[i].k = 1)) (fun _ i _ => 2 - (intOf i).toNat)
                    case atStart => exact ⟨0, rfl, by omega, HBX2.out, fun i hi h => by omega⟩
                    case round =>
                      obtain ⟨k, rfl, hk, hbx, hne⟩ := hrel
                      have HNE4 := Lib.hid hne
                      have HBX4 := Lib.hid hbx
                      have xz := HZc.out.below hbx
                      have xx := HXc.out.below hbx
                      obtain ⟨z0, z1, z2⟩ := xz.cells
                      have zf := xz.frozen
                      have zl := xz.lt
                      obtain ⟨p0, p1, p2, p3, p4, p5⟩ := xx.cells
                      simp only at p0
                      clear hne
                      by_cases hlk : k < 2
                      · have hlv : k < vs.length := by rw [HLen2.out]; exact hlk
                        obtain ⟨d0, d1, d2⟩ := (HV.out k hlv).below hbx
                        obtain ⟨v, hv⟩ : ∃ v, vs[k] = v := ⟨_, rfl⟩
                        have HVk := Lib.hid hv
                        rw [hv] at d0 d1 d2
                        obtain ⟨vk, vn, vt⟩ := v
                        simp only at d0 d1 d2
                        have hmem : (⟨vk, vn, vt⟩ : Vl) ∈ vs := by rw [← hv]; exact List.getElem_mem hlv
                        have HMem := Lib.hid hmem
                        clear hv hbx xx hmem
                        by_cases hkk : vk = 1
                        · have t0 : (vk != 1) = false := by rw [hkk]; rfl
                          clear xz
                          go_wp2_with fail
                          go_roundw
                          case rel => exact ⟨k + 1, by go_num, by omega, b_more HBX4.out _, fun i hi h => by
                            by_cases e : i = k
                            · subst e; rw [HVk.out]; exact hkk
                            · exact HNE4.out i hi (by omega)⟩
                          case measure => simp [intOf]; omega
                        · have t0 : (vk != 1) = true := bne_iff_ne.2 hkk
                          have hbad : (⟨rk, rn, rs⟩ : Vl) = flt 9 := HR1.out.symm.trans (bad_num op op5 _ _ (by
              have h1 := HMem.out
              rw [HVs1.out] at h1
              simp only [List.mem_cons, List.not_mem_nil, or_false] at h1
              rcases h1 with h1 | h1
              · left; rw [← h1]; exact hkk
              · right; rw [← h1]; exact hkk))
                          have HBad := Lib.hid hbad
                          have hzr := xz.below (b_new wr (.cells #[.int .i64 vk, .int .i64 vn, .string vt] 23))
                          have HZr := Lib.hid hzr
                          have HBr := Lib.hid (b_more (b_trans HBw.out HBX4.out) (.cells #[.int .i64 vk, .int .i64 vn, .string vt] 23))
                          clear hbad hzr xz hkk
                          go_wp2_with fail
                          refine (no_any 9 _).mono ?_; rintro e w3 ⟨rfl, hb3⟩
                          have hz3 := HZr.out.below hb3
                          obtain ⟨z0, z1, z2⟩ := hz3.cells
                          have zf := hz3.frozen
                          have zl := hz3.lt
                          have HB3 := Lib.hid (b_trans HBr.out hb3)
                          clear hb3 hz3
                          go_wp2_with fail
                          refine bodyPost_ret (v := .agg #[.int .i64 5, .int .i64 9, .string ⟨#[]⟩]) (by simp [results, Tryz.results43, go_sem, z0, z1, z2]) rfl ⟨by injection HBad.out with e1 e2 e3; rw [e1, e2, e3], b_set3 HB3.out (w.heap.size + 1) (by omega) _ _ _⟩
                      · have hall : ∀ v ∈ vs, v.k = 1 := fun v hv => by
                          obtain ⟨i, hi, rfl⟩ := List.getElem_of_mem hv
                          exact HNE4.out i hi (by have := HLen2.out; omega)
                        have HAll := Lib.hid hall
                        have hvw := HV.out.below hbx
                        have HVw := Lib.hid hvw
                        have HBr := Lib.hid (b_trans HBw.out HBX4.out)
                        have HZr := Lib.hid xz
                        clear hall hvw hk
                        obtain ⟨wq, hwq⟩ : ∃ wq : World, wq = wr := ⟨_, rfl⟩
                        clear wq hwq
                        have hcl : ∀ V, Below wr.heap.size wr V → V.cell? ⟨g, 0, none⟩ = some (.int .i64 v1.k) ∧ V.cell? ⟨g, 1, none⟩ = some (.int .i64 v1.n) ∧ V.cell? ⟨g, 2, none⟩ = some (.string v1.s) ∧ V.cell? ⟨g, 3, none⟩ = some (.int .i64 v2.k) ∧ V.cell? ⟨g, 4, none⟩ = some (.int .i64 v2.n) ∧ V.cell? ⟨g, 5, none⟩ = some (.string v2.s) := fun V hV => by
                          have h1 := HVw.out.below hV
                          rw [HVs1.out] at h1
                          obtain ⟨a0, a1, a2⟩ := h1 0 (by simp)
                          obtain ⟨a3, a4, a5⟩ := h1 1 (by simp)
                          exact ⟨a0, a1, a2, a3, a4, a5⟩
                        have hk1 : v1.k = 1 := HAll.out v1 (by rw [HVs1.out]; simp)
                        have hk2 : v2.k = 1 := HAll.out v2 (by rw [HVs1.out]; simp)
                        obtain ⟨ck, cn, cs⟩ := v1
                        obtain ⟨bk, bn, bs⟩ := v2
                        simp only at hcl hk1 hk2
                        subst hk1 hk2
                        obtain ⟨u0, u1, u2, u3, u4, u5⟩ := hcl wr (Below.refl _ _)
                        have HXr := Lib.hid xx
                        have hnum : ∀ W : World, Calls Tryz.prog 70 #[.int .i64 op, .int .i64 cn, .int .i64 bn] W fun e w' => e = .returned (.tuple #[.int .i64 (arN op cn bn).1, .int .i64 (arN op cn bn).2]) ∧ Below W.heap.size W w' := fun W => (numof_any op cn bn op5 W).mono fun e w' h => ⟨h.1, by rw [← h.2]; exact Below.refl _ _⟩
                        have hfin : (⟨rk, rn, rs⟩ : Vl) = if (arN op cn bn).2 = 0 then ⟨1, (arN op cn bn).1, e0⟩ else flt (arN op cn bn).2 := HR1.out.symm.trans (res_num op cn bn cs bs op5)
                        generalize (arN op cn bn).1 = rn1 at hnum hfin
                        generalize (arN op cn bn).2 = re1 at hnum hfin
                        have HNum := Lib.hid hnum
                        have HFin := Lib.hid hfin
                        have hcl2 : ∀ V, Below wr.heap.size wr V → V.cell? ⟨w.heap.size, 0, none⟩ = some (.int .i64 op) ∧ V.cell? ⟨g, 1, none⟩ = some (.int .i64 cn) ∧ V.cell? ⟨g, 4, none⟩ = some (.int .i64 bn) := fun V hV => ⟨(HXr.out.below hV).cells.1, (hcl V hV).2.1, (hcl V hV).2.2.2.2.1⟩
                        have HCl2 := Lib.hid hcl2
                        have hbl := Below.refl wr.heap.size wr
                        clear hfin hnum hcl xz xx hcl2 u0 u2 u3 u5
                        go_upto_region 74 with fail
                        go_region_held3 (fun V => V.cell? ⟨w.heap.size, 0, none⟩ = some (.int .i64 op) ∧ V.cell? ⟨g, 1, none⟩ = some (.int .i64 cn) ∧ V.cell? ⟨g, 4, none⟩ = some (.int .i64 bn)) (first | (with_reducible exact HCl2.out _ hbl) | (with_reducible exact HCl2.out _ (b_drew hbl)))
                          (first | (go_at_call 70; (with_reducible refine (HNum.out _).mono ?_); rintro e wn ⟨rfl, hbn⟩; have hbl : Below wr.heap.size wr wn := (by first | exact b_step hbl hbn | exact b_step (b_drew hbl) hbn)))
                        have xz2 := HZr.out.below hbl
                        have HZ4 := Lib.hid xz2
                        have HBn4 := Lib.hid (b_trans HBr.out hbl)
                        clear z0 z1 z2 zf zl p0 p1 p2 p3 p4 p5 u1 u4 hbl hbn xz2
                        obtain ⟨z0, z1, z2⟩ := HZ4.out.cells
                        have zf := HZ4.out.frozen
                        have zl := HZ4.out.lt
                        by_cases hr0 : re1 = 0
                        · have t1 : (re1 != 0) = false := by rw [hr0]; rfl
                          have hf := HFin.out
                          rw [if_pos hr0] at hf
                          have HF := Lib.hid hf
                          clear hf hr0
                          go_wp2_with fail
                          refine bodyPost_ret (v := .agg #[.int .i64 1, .int .i64 rn1, .string ⟨#[]⟩]) (by simp [results, Tryz.results43, go_sem, z0, z1, z2]) rfl ⟨by injection HF.out with e1 e2 e3; rw [e1, e2, e3], b_set3 HBn4.out (w.heap.size + 1) (by omega) _ _ _⟩
                        · have t1 : (re1 != 0) = true := bne_iff_ne.2 hr0
                          have hf := HFin.out
                          rw [if_neg hr0] at hf
                          have HF := Lib.hid hf
                          clear hf hr0
                          go_wp2_with fail
                          refine (no_any re1 _).mono ?_; rintro e w3 ⟨rfl, hb3⟩
                          have hz3 := HZ4.out.below hb3
                          obtain ⟨z0, z1, z2⟩ := hz3.cells
                          have zf := hz3.frozen
                          have zl := hz3.lt
                          have HB3 := Lib.hid (b_trans HBn4.out hb3)
                          clear hb3 hz3
                          go_wp2_with fail
                          refine bodyPost_ret (v := .agg #[.int .i64 5, .int .i64 re1, .string ⟨#[]⟩]) (by simp [results, Tryz.results43, go_sem, z0, z1, z2]) rfl ⟨by injection HF.out with e1 e2 e3; rw [e1, e2, e3], b_set3 HB3.out (w.heap.size + 1) (by omega) _ _ _⟩
end Go.Proofs.YtehkebncdahmcaaGreatDoor.VdO
namespace Go.Proofs.YtehkebncdahmcaaGreatDoor.VdA
open Go.RowKit
open NumM ValM StrM ExM NmM TyM EvM Kit ExL ExV Ev EvC EvO EvF Vd VdT VdC VdO
set_option linter.unusedVariables false

theorem vd_all (l : List Fc) (FA : Option Addr) (fc : Nat) (hl : l.length ≤ 1000000000000) (hok : ∀ f ∈ fcs l, f.2.ok) : ∀ x : Ex, x.okN → VdAt l FA fc x := by
  refine Ex.ind fun d xs ih => ?_
  intro h d' A n c w his hf
  obtain ⟨o1, o2, o3⟩ := okN_op h
  have hx := ((okN_mk d xs).1 h).2
  rw [is_mk] at his
  obtain ⟨rfl, rfl, _, his⟩ := his
  obtain ⟨a17, a15, _⟩ := arity_cases d'.op
  have hA : ∀ x ∈ xs, VdAt l FA fc x := fun x hm => ih x hm (hx x hm)
  have hoks : ∀ v ∈ evL (fcs l) xs, v.ok := fun v hv => by
    rw [evL_map] at hv
    obtain ⟨x, hm, rfl⟩ := List.mem_map.1 hv
    exact ev_ok hok x (hx x hm)
  rw [ev_mk]
  by_cases g1 : d'.op = 1
  · have := vd_const d'.op d'.k d'.n d'.s d'.nm A xs.length c (.slice FA l.length fc) w g1
    unfold evN; rw [if_pos g1]; exact this
  by_cases g2 : d'.op = 2
  · have := vd_ref d'.op d'.k d'.n d'.s d'.nm A xs.length c l FA fc w g2 hl hf
    unfold evN; rw [if_neg g1, if_pos g2]; exact this
  by_cases g17 : d'.op = 17
  · have h3 := o3.trans (a17 g17)
    unfold evN; rw [if_neg g1, if_neg g2, if_pos g17]
    match xs, h3, his, hA, hoks with
    | [xa, xb, xc], _, his, hA, hoks =>
      have := vd_if d'.k d'.n d'.s d'.nm xa xb xc A c l FA fc w (hoks _ (by rw [evL_cons]; simp)) (hA xa (by simp)) (hA xb (by simp)) (hA xc (by simp)) his hf
      rw [g17, evL_cons, evL_cons, evL_cons, evL_nil]; exact this
  by_cases g15 : d'.op = 15
  · have h3 := o3.trans (a15 (.inl g15))
    unfold evN; rw [if_neg g1, if_neg g2, if_neg g17, if_pos g15]
    match xs, h3, his, hA, hoks with
    | [xa, xb], _, his, hA, hoks =>
      have := vd_con_15 d'.k d'.n d'.s d'.nm xa xb A c l FA fc w (hoks _ (by rw [evL_cons]; simp)) (hA xa (by simp)) (hA xb (by simp)) his hf
      rw [g15, evL_cons, evL_cons, evL_nil]; exact this
  by_cases g16 : d'.op = 16
  · have h3 := o3.trans (a15 (.inr g16))
    unfold evN; rw [if_neg g1, if_neg g2, if_neg g17, if_neg g15, if_pos g16]
    match xs, h3, his, hA, hoks with
    | [xa, xb], _, his, hA, hoks =>
      have := vd_con_16 d'.k d'.n d'.s d'.nm xa xb A c l FA fc w (hoks _ (by rw [evL_cons]; simp)) (hA xa (by simp)) (hA xb (by simp)) his hf
      rw [g16, evL_cons, evL_cons, evL_nil]; exact this
  · unfold evN; rw [if_neg g1, if_neg g2, if_neg g17, if_neg g15, if_neg g16]
    exact vd_op d'.op d'.k d'.n d'.s d'.nm xs A c l FA fc w (by omega) o2 ⟨g15, g16, g17⟩ o3 hoks hA his hf
end Go.Proofs.YtehkebncdahmcaaGreatDoor.VdA
