/- The reference's valued: what it calls, and its map of four comparisons. -/
import Derived.Maps.Own
import Derived.Maps.OwnSet
import Derived.Maps.AppendAt
import Derived.Maps.Range
import Derived.Maps.RangeWalk
import Derived.Test.YtehkebncdahmcaaDoorEvEval
import Derived.Test.YtehkebncdahmcaaDoorNumRef
import Derived.Test.YtehkebncdahmcaaDoorNumQuo
import Derived.Test.YtehkebncdahmcaaDoorValueCmp
namespace Go.Proofs.YtehkebncdahmcaaDoor.Vd
open Go.RowKit Go.Maps
open NumM ValM StrM ExM NmM TyM EvM Kit ExL ExV Ev EvC EvO EvF
set_option linter.unusedVariables false

theorem eqs_of (s t : ByteArray) : (s.toList == t.toList) = decide (s = t) := by
  rw [ByteArray.toList_eq, ByteArray.toList_eq]
  by_cases h : s = t
  · subst h; simp
  · rw [decide_eq_false h, beq_eq_false_iff_ne]
    intro e
    apply h
    cases s with | mk a => cases t with | mk b => exact congrArg _ (Array.toList_inj.1 e)
def ValOut (v : Vl) (w : World) (e : Ending) (w' : World) : Prop := e = .returned (.agg #[.int .i64 v.k, .int .i64 v.n, .string v.s]) ∧ Below w.heap.size w w'
set_option maxHeartbeats 1000000 in
theorem no_any (n : Int) (w : World) : Calls Tryd.prog 34 #[.int .i64 n] w fun e w' => e = .returned (.agg #[.int .i64 5, .int .i64 n, .string ⟨#[]⟩]) ∧ Below w.heap.size w w' := by
  go_enter Tryd.func34, Tryd.ntmps34
  go_wp2_with fail
  refine bodyPost_ret (v := .agg #[.int .i64 5, .int .i64 n, .string ⟨#[]⟩]) (by simp [results, Tryd.results34, go_sem]) rfl ⟨rfl, b_new _ _⟩
set_option maxHeartbeats 1000000 in
theorem yes_any (b : Bool) (w : World) : Calls Tryd.prog 36 #[.bool b] w fun e w' => e = .returned (.agg #[.int .i64 2, .int .i64 (bitI b), .string ⟨#[]⟩]) ∧ Below w.heap.size w w' := by
  cases b
  · show Calls _ _ _ w fun e w' => e = .returned (.agg #[.int .i64 2, .int .i64 0, .string ⟨#[]⟩]) ∧ Below w.heap.size w w'
    go_enter Tryd.func36, Tryd.ntmps36
    go_wp2_with fail
    refine bodyPost_ret (v := .agg #[.int .i64 2, .int .i64 0, .string ⟨#[]⟩]) (by simp [results, Tryd.results36, go_sem]) rfl ⟨rfl, b_new _ _⟩
  · show Calls _ _ _ w fun e w' => e = .returned (.agg #[.int .i64 2, .int .i64 1, .string ⟨#[]⟩]) ∧ Below w.heap.size w w'
    go_enter Tryd.func36, Tryd.ntmps36
    go_wp2_with fail
    refine bodyPost_ret (v := .agg #[.int .i64 2, .int .i64 1, .string ⟨#[]⟩]) (by simp [results, Tryd.results36, go_sem]) rfl ⟨rfl, b_new _ _⟩
theorem numof_any (op a b : Int) (h : 5 ≤ op ∧ op ≤ 9) (w : World) : Calls Tryd.prog 37 #[.int .i64 op, .int .i64 a, .int .i64 b] w fun e w' => e = .returned (.tuple #[.int .i64 (arN op a b).1, .int .i64 (arN op a b).2]) ∧ w = w' := by
  have : op = 5 ∨ op = 6 ∨ op = 7 ∨ op = 8 ∨ op = 9 := by omega
  rcases this with rfl | rfl | rfl | rfl | rfl
  · exact NumRef.mul_any a b w
  · exact NumRef.div_any a b w
  · exact NumRef.mod_any a b w
  · exact NumRef.add_any a b w
  · exact NumRef.sub_any a b w

/-! ### The map of comparisons -/
/-- An element is read as the value that it is. -/
def hv (v : Value) : Option (DataW Value × List MemPlace) := some (.held v, [])
theorem intKeyed : Keyed Tryd.prog 3 := int_keyed Tryd.underlying3
theorem keyI {a : Int} (h : (Lit.int .i64 a).wf = true) : keyOf Tryd.prog 3 (.int .i64 a) = some (.int .i64 a) := keyOf_int_mk Tryd.underlying3 h
structure BP (W0 W : World) (m n : Nat) (kv : List (Int × Bool)) : Prop where
  grown : W0.grownBy W (some m)
  own : ∃ D, W.ownsMap Tryd.prog 3 hv m n D ∧ ∀ p ∈ kv, D.atKey (.int .i64 p.1) .nil = .held (.bool p.2)
theorem BP.made (w : World) : BP (w.alloc (.map #[] 0)) (w.alloc (.map #[] 0)) w.heap.size 0 [] :=
  ⟨World.grownBy.refl _ _, _, World.ownsMap_made w _ _ _, fun p h => absurd h (by simp)⟩
theorem BP.put {W0 W : World} {m n : Nat} {kv : List (Int × Bool)} (h : BP W0 W m n kv) (hn : n < maxLen) (op : Int) (b : Bool) (hw : (Lit.int .i64 op).wf = true) (hnew : ∀ p ∈ kv, p.1 ≠ op) :
    ∃ w', (Instr.mapUpdate 77 (.map (some m)) (.int .i64 op) (.bool b)).run Tryd.prog W = .ok () w' ∧ BP W0 w' m (n + 1) ((op, b) :: kv) := by
  obtain ⟨D, hD, hall⟩ := h.own
  obtain ⟨w', hrun, r1, r2⟩ := hD.update intKeyed Tryd.underlying77 hn (keyI hw) (val := .bool b) (d := .held (.bool b)) (ps := []) rfl
  refine ⟨w', hrun, h.grown.trans r2, _, r1, fun p hp => ?_⟩
  rcases List.mem_cons.1 hp with e | hp
  · subst e; exact atKey_put_same hD.isMap (by trivial) _ _
  · rw [atKey_put_other (fun e => hnew p hp (by injection e))]; exact hall p hp
set_option maxRecDepth 100000 in
theorem BP.look {W0 W : World} {m n : Nat} {kv : List (Int × Bool)} (h : BP W0 W m n kv) {op : Int} {b : Bool} (hp : (op, b) ∈ kv) (hw : (Lit.int .i64 op).wf = true) : (Instr.lookup 77 (.map (some m)) (.int .i64 op) false).run Tryd.prog W = .ok (.bool b) W := by
  obtain ⟨D, hD, hall⟩ := h.own
  have h3 := hall _ hp
  simp only at h3
  obtain ⟨es, clock, hb, F, _, rfl⟩ := hD
  rcases Maps.fit_look false intKeyed Tryd.underlying77 (z := .bool false) (by kernel_rfl) hb F (keyI hw) with ⟨hrun, _, hat⟩ | ⟨e0, y, _, _, hrun, hRv, hat, _⟩
  · have := hat .nil
    rw [h3] at this; cases this
  · have := hat .nil
    rw [h3] at this
    have hy : y = (.held (e0.val), []) := by
      have : hv e0.val = some y := hRv
      unfold hv at this; injection this with this; exact this.symm
    subst hy
    have h6 : DataW.held (.bool b) = DataW.held e0.val := this
    injection h6 with h5
    rw [hrun, ← h5]; rfl
/-- All four, laid one behind the other. -/
theorem four_maps (w : World) (b1 b2 b3 b4 : Bool) : ∃ w1 w2 w3 w4 : World,
    (Instr.mapUpdate 77 (.map (some w.heap.size)) (.int .i64 11) (.bool b1)).run Tryd.prog (w.alloc (.map #[] 0)) = .ok () w1 ∧
    (Instr.mapUpdate 77 (.map (some w.heap.size)) (.int .i64 12) (.bool b2)).run Tryd.prog w1 = .ok () w2 ∧
    (Instr.mapUpdate 77 (.map (some w.heap.size)) (.int .i64 13) (.bool b3)).run Tryd.prog w2 = .ok () w3 ∧
    (Instr.mapUpdate 77 (.map (some w.heap.size)) (.int .i64 14) (.bool b4)).run Tryd.prog w3 = .ok () w4 ∧
    (Instr.lookup 77 (.map (some w.heap.size)) (.int .i64 11) false).run Tryd.prog w4 = .ok (.bool b1) w4 ∧
    (Instr.lookup 77 (.map (some w.heap.size)) (.int .i64 12) false).run Tryd.prog w4 = .ok (.bool b2) w4 ∧
    (Instr.lookup 77 (.map (some w.heap.size)) (.int .i64 13) false).run Tryd.prog w4 = .ok (.bool b3) w4 ∧
    (Instr.lookup 77 (.map (some w.heap.size)) (.int .i64 14) false).run Tryd.prog w4 = .ok (.bool b4) w4 ∧ Below w.heap.size w w4 := by
  have h0 := BP.made w
  obtain ⟨w1, r1, h1⟩ := h0.put (by unfold maxLen; omega) 11 b1 rfl (fun p hp => absurd hp (by simp))
  obtain ⟨w2, r2, h2⟩ := h1.put (by unfold maxLen; omega) 12 b2 rfl (fun p hp => by simp at hp; subst hp; simp)
  obtain ⟨w3, r3, h3⟩ := h2.put (by unfold maxLen; omega) 13 b3 rfl (fun p hp => by simp at hp; rcases hp with e | e <;> subst e <;> simp)
  obtain ⟨w4, r4, h4⟩ := h3.put (by unfold maxLen; omega) 14 b4 rfl (fun p hp => by simp at hp; rcases hp with e | e | e <;> subst e <;> simp)
  refine ⟨w1, w2, w3, w4, r1, r2, r3, r4, h4.look (by simp) rfl, h4.look (by simp) rfl, h4.look (by simp) rfl, h4.look (by simp) rfl, ?_⟩
  exact (b_new w (.map #[] 0)).grown h4.grown (by simp) (fun k e => by injection e; omega)
theorem ord_cases (a b : Vl) : ordVl a b = -1 ∨ ordVl a b = 0 ∨ ordVl a b = 1 := by
  unfold ordVl
  split
  · exact cmp_cases _ _
  · rcases int_cases a.n b.n with h | h | h <;> omega
theorem cmpB_all (o : Int) (h : o = -1 ∨ o = 0 ∨ o = 1) : cmpB 11 o = (o == -1) ∧ cmpB 12 o = (o != 1) ∧ cmpB 13 o = (o == 0) ∧ cmpB 14 o = (o != 0) := by
  rcases h with rfl | rfl | rfl <;> decide
theorem resV_bad (e : Int) (v : Vl) (h : e ≠ 0) : resV (v, e) = flt e := by unfold resV; rw [if_neg h]
end Go.Proofs.YtehkebncdahmcaaDoor.Vd
