/- The table of rules: the map that typing.rules makes. -/
import Derived.Test.YthgcmficmodhiaaDoorTy
import Derived.Maps.Own
import Derived.Maps.OwnSet
import Derived.Maps.AppendAt
import Derived.Maps.Range
import Derived.Maps.RangeWalk
namespace Go.Proofs.YthgcmficmodhiaaDoor.TyT
open Go.RowKit Go.Maps
open ExM Kit ExL GenL TyM Ty
set_option linter.unusedVariables false

/-- An element is read as the value that it is. -/
def hv (v : Value) : Option (DataW Value × List MemPlace) := some (.held v, [])
theorem intKeyed : Keyed Tryd.prog 3 := int_keyed Tryd.underlying3
theorem keyI {a : Int} (h : (Lit.int .i64 a).wf = true) : keyOf Tryd.prog 3 (.int .i64 a) = some (.int .i64 a) := keyOf_int_mk Tryd.underlying3 h
def ruleV (b c : Nat) (op : Int) : Value := .agg #[.slice (some ⟨b, 0, none⟩) (ruleReq op).length c, .int .i64 (ruleRes op)]
theorem ints_grown {W W' : World} {m b : Nat} {l : List Int} (h : IntsAt W b l) (hg : W.grownBy W' (some m)) (hne : b ≠ m) : IntsAt W' b l := fun i hi =>
  hg.cell (h i hi) (fun e => hne (by injection e))
theorem ints_new (w : World) (l : List Int) (t : TypeId) : IntsAt (w.alloc (.cells (l.map (Value.int .i64)).toArray t)) w.heap.size l := fun i hi => by
  have h := World.alloc_heap_new w (.cells (l.map (Value.int .i64)).toArray t)
  unfold World.cell?
  rw [h]
  simp [hi]
theorem grown_alloc {W0 W : World} {m : Nat} (h : W0.grownBy W (some m)) (o : Obj) : W0.grownBy (W.alloc o) (some m) := h.trans ((World.grownBy_alloc W o none).but (some m))
/-- The rules of these operators stand in the map. -/
structure Part (W0 W : World) (m n : Nat) (ops : List Int) : Prop where
  grown : W0.grownBy W (some m)
  own : ∃ D, W.ownsMap Tryd.prog 3 hv m n D ∧ ∀ op ∈ ops, ∃ b c, b ≠ m ∧ D.atKey (.int .i64 op) .nil = .held (ruleV b c op) ∧ IntsAt W b (ruleReq op)
theorem Part.made (w : World) : Part (w.alloc (.map #[] 0)) (w.alloc (.map #[] 0)) w.heap.size 0 [] :=
  ⟨World.grownBy.refl _ _, _, World.ownsMap_made w _ _ _, fun op h => absurd h (by simp)⟩
theorem Part.alloc {W0 W : World} {m n : Nat} {ops : List Int} (h : Part W0 W m n ops) (o : Obj) : Part W0 (W.alloc o) m n ops := by
  obtain ⟨hg, D, hD, hall⟩ := h
  refine ⟨grown_alloc hg o, D, hD.alloc o, fun op hop => ?_⟩
  obtain ⟨b, c, h1, h2, h3⟩ := hall op hop
  exact ⟨b, c, h1, h2, h3.below (b_new _ _)⟩
/-- One more rule. -/
theorem Part.put {W0 W W' : World} {m n : Nat} {ops : List Int} {D : DataW Value} {op : Int} {b c : Nat} (h : Part W0 W m n ops) (hD : W.ownsMap Tryd.prog 3 hv m n D) (hall : ∀ op ∈ ops, ∃ b c, b ≠ m ∧ D.atKey (.int .i64 op) .nil = .held (ruleV b c op) ∧ IntsAt W b (ruleReq op))
    (hown : W'.ownsMap Tryd.prog 3 hv m (n + 1) (D.put (.int .i64 op) (.held (ruleV b c op)))) (hg : W.grownBy W' (some m)) (hw : (Lit.int .i64 op).wf = true) (hnew : op ∉ ops) (hb : b ≠ m) (hI : IntsAt W b (ruleReq op)) : Part W0 W' m (n + 1) (op :: ops) := by
  refine ⟨h.grown.trans hg, _, hown, fun op' hop => ?_⟩
  by_cases he : op' = op
  · subst he
    exact ⟨b, c, hb, atKey_put_same hD.isMap (by trivial) _ _, ints_grown hI hg hb⟩
  · obtain ⟨b', c', h1, h2, h3⟩ := hall op' ((List.mem_cons.1 hop).resolve_left he)
    exact ⟨b', c', h1, by rw [atKey_put_other (fun e => he (by injection e))]; exact h2, ints_grown h3 hg h1⟩

/-- A rule into the map: the operation's run. -/
theorem run_rule {W0 W : World} {m n : Nat} {os : List Int} (h : Part W0 W m n os) (hn : n < maxLen) (op : Int) (b c len : Nat) (res : Int) (req : List Int) (hreq : ruleReq op = req) (hlen : req.length = len) (hres : ruleRes op = res)
    (hw : (Lit.int .i64 op).wf = true) (hnew : op ∉ os) (hb : b ≠ m) (hI : IntsAt W b req) :
    ∃ w', (Instr.mapUpdate 82 (.map (some m)) (.int .i64 op) (.agg #[.slice (some ⟨b, 0, none⟩) len c, .int .i64 res])).run Tryd.prog W = .ok () w' ∧ Part W0 w' m (n + 1) (op :: os) := by
  obtain ⟨D, hD, hall⟩ := h.own
  subst hreq hlen hres
  obtain ⟨w', hrun, r1, r2⟩ := hD.update intKeyed Tryd.underlying82 hn (keyI hw) (val := ruleV b c op) (d := .held (ruleV b c op)) (ps := []) rfl
  exact ⟨w', hrun, h.put hD hall r1 r2 hw hnew hb hI⟩

/-- All rules. -/
def Rules (W : World) (m : Nat) : Prop := ∃ n D, W.ownsMap Tryd.prog 3 hv m n D ∧ ∀ op : Int, 3 ≤ op → op ≤ 18 → ∃ b c, D.atKey (.int .i64 op) .nil = .held (ruleV b c op) ∧ IntsAt W b (ruleReq op)
theorem Rules.below {W W' : World} {m : Nat} (h : Rules W m) (hb : Below W.heap.size W W') : Rules W' m := by
  obtain ⟨n, D, hD, hall⟩ := h
  have hg : W.grownBy W' none := ⟨hb.os, hb.tape, hb.output, hb.size, fun k hk _ => hb.block k hk⟩
  refine ⟨n, D, hD.kept hg (by simp), fun op h1 h2 => ?_⟩
  obtain ⟨b, c, h3, h4⟩ := hall op h1 h2
  exact ⟨b, c, h3, h4.below hb⟩
set_option maxRecDepth 100000 in
/-- A rule looked up. -/
theorem Rules.look {W : World} {m : Nat} (h : Rules W m) {op : Int} (h1 : 3 ≤ op) (h2 : op ≤ 18) : ∃ b c, (Instr.lookup 82 (.map (some m)) (.int .i64 op) false).run Tryd.prog W = .ok (.agg #[.slice (some ⟨b, 0, none⟩) (ruleReq op).length c, .int .i64 (ruleRes op)]) W ∧ IntsAt W b (ruleReq op) := by
  obtain ⟨n, D, hD, hall⟩ := h
  obtain ⟨b, c, h3, h4⟩ := hall op h1 h2
  have hw : (Lit.int .i64 op).wf = true := WalkArith.wf_i64 (by omega)
  obtain ⟨es, clock, hb, F, _, rfl⟩ := hD
  rcases Maps.fit_look false intKeyed Tryd.underlying82 (z := .agg #[.slice none 0 0, .int .i64 0]) (by kernel_rfl) hb F (keyI hw) with ⟨hrun, _, hat⟩ | ⟨e0, y, _, _, hrun, hRv, hat, _⟩
  · have := hat .nil
    rw [h3] at this; cases this
  · have := hat .nil
    rw [h3] at this
    have hy : y = (.held (e0.val), []) := by
      have : hv e0.val = some y := hRv
      unfold hv at this; injection this with this; exact this.symm
    subst hy
    have h6 : DataW.held (ruleV b c op) = DataW.held e0.val := this
    injection h6 with h5
    exact ⟨b, c, by rw [hrun, ← h5]; rfl, h4⟩

set_option maxRecDepth 100000 in
set_option maxHeartbeats 4000000 in
theorem rules_any (w : World) : Calls Tryd.prog 50 #[] w fun e w' => (∃ m, e = .returned (.map (some m)) ∧ Rules w' m) ∧ Below w.heap.size w w' := by
  obtain ⟨V6, hV6⟩ : ∃ V, ((((((w.alloc (.cells #[.int .i64 1, .int .i64 1] 3)).alloc (.cells #[.slice (some ⟨w.heap.size, 0, none⟩) 2 2, .int .i64 1] 92)).alloc (.cells #[.int .i64 2, .int .i64 2] 3)).alloc (.cells #[.slice (some ⟨w.heap.size + 1 + 1, 0, none⟩) 2 2, .int .i64 2] 92)).alloc (.cells #[.int .i64 0, .int .i64 0] 3)).alloc (.cells #[.slice (some ⟨w.heap.size + 1 + 1 + 1 + 1, 0, none⟩) 2 2, .int .i64 2] 92)) = V := ⟨_, rfl⟩
  have hB6 : Below w.heap.size w V6 := by rw [← hV6]; exact b_more (b_more (b_more (b_more (b_more (b_new _ _) _) _) _) _) _
  have hs6 : V6.heap.size = w.heap.size + 1 + 1 + 1 + 1 + 1 + 1 := by rw [← hV6]; simp
  have i1 : IntsAt V6 (w.heap.size) [1, 1] := by
    rw [← hV6]; exact (((((ints_new w [1, 1] 3).below (b_new _ _)).below (b_new _ _)).below (b_new _ _)).below (b_new _ _)).below (b_new _ _)
  have i2 : IntsAt V6 (w.heap.size + 1 + 1) [2, 2] := by
    rw [← hV6]
    have := ints_new ((w.alloc (.cells #[.int .i64 1, .int .i64 1] 3)).alloc (.cells #[.slice (some ⟨w.heap.size, 0, none⟩) 2 2, .int .i64 1] 92)) [2, 2] 3
    simp only [World.size_alloc] at this
    exact ((this.below (b_new _ _)).below (b_new _ _)).below (b_new _ _)
  have i3 : IntsAt V6 (w.heap.size + 1 + 1 + 1 + 1) [0, 0] := by
    rw [← hV6]
    have := ints_new ((((w.alloc (.cells #[.int .i64 1, .int .i64 1] 3)).alloc (.cells #[.slice (some ⟨w.heap.size, 0, none⟩) 2 2, .int .i64 1] 92)).alloc (.cells #[.int .i64 2, .int .i64 2] 3)).alloc (.cells #[.slice (some ⟨w.heap.size + 1 + 1, 0, none⟩) 2 2, .int .i64 2] 92)) [0, 0] 3
    simp only [World.size_alloc] at this
    exact this.below (b_new _ _)
  have bx : V6.cell? ⟨w.heap.size + 1, 0, none⟩ = some (.slice (some ⟨w.heap.size, 0, none⟩) 2 2) ∧ V6.cell? ⟨w.heap.size + 1, 1, none⟩ = some (.int .i64 1) ∧ V6.cell? ⟨w.heap.size + 1 + 1 + 1, 0, none⟩ = some (.slice (some ⟨w.heap.size + 1 + 1, 0, none⟩) 2 2) ∧ V6.cell? ⟨w.heap.size + 1 + 1 + 1, 1, none⟩ = some (.int .i64 2) ∧ V6.cell? ⟨w.heap.size + 1 + 1 + 1 + 1 + 1, 0, none⟩ = some (.slice (some ⟨w.heap.size + 1 + 1 + 1 + 1, 0, none⟩) 2 2) ∧ V6.cell? ⟨w.heap.size + 1 + 1 + 1 + 1 + 1, 1, none⟩ = some (.int .i64 2) := by
    rw [← hV6]; simp [go_sem]
  have hP0 := Part.made V6
  have hb7 := b_new V6 (.map #[] 0)
  have hgb : ∀ (W : World) (n : Nat) (os : List Int), Part (V6.alloc (.map #[] 0)) W V6.heap.size n os → (W.cell? ⟨w.heap.size + 1, 0, none⟩ = some (.slice (some ⟨w.heap.size, 0, none⟩) 2 2) ∧ W.cell? ⟨w.heap.size + 1, 1, none⟩ = some (.int .i64 1) ∧ W.cell? ⟨w.heap.size + 1 + 1 + 1, 0, none⟩ = some (.slice (some ⟨w.heap.size + 1 + 1, 0, none⟩) 2 2) ∧ W.cell? ⟨w.heap.size + 1 + 1 + 1, 1, none⟩ = some (.int .i64 2) ∧ W.cell? ⟨w.heap.size + 1 + 1 + 1 + 1 + 1, 0, none⟩ = some (.slice (some ⟨w.heap.size + 1 + 1 + 1 + 1, 0, none⟩) 2 2) ∧ W.cell? ⟨w.heap.size + 1 + 1 + 1 + 1 + 1, 1, none⟩ = some (.int .i64 2)) ∧ (IntsAt W (w.heap.size) [1, 1] ∧ IntsAt W (w.heap.size + 1 + 1) [2, 2] ∧ IntsAt W (w.heap.size + 1 + 1 + 1 + 1) [0, 0]) ∧ V6.heap.size < W.heap.size := fun W n os h => by
    obtain ⟨x0, x1, x2, x3, x4, x5⟩ := bx
    have k : ∀ {p : Addr} {v : Value}, V6.cell? p = some v → W.cell? p = some v := fun {p v} hp => by
      have hl := cell_lt' hp
      exact h.grown.cell ((hb7.cell (p := p) hl).trans hp) (fun e => by injection e; omega)
    have ki : ∀ {b : Nat} {l : List Int}, IntsAt V6 b l → IntsAt W b l := fun {b l} hi i hl => k (hi i hl)
    exact ⟨⟨k x0, k x1, k x2, k x3, k x4, k x5⟩, ⟨ki i1, ki i2, ki i3⟩, Nat.lt_of_lt_of_le (by simp [hs6]) h.grown.size⟩
  have HGB := Lib.hid hgb
  have HB6 := Lib.hid hB6
  have HP0 := Lib.hid hP0
  have hend : ∀ W n, Part (V6.alloc (.map #[] 0)) W V6.heap.size n [18, 17, 16, 15, 14, 13, 12, 11, 10, 9, 8, 7, 6, 5, 4, 3] → (∃ m, Ending.returned (.map (some V6.heap.size)) = .returned (.map (some m)) ∧ Rules W m) ∧ Below w.heap.size w W := fun W n h => by
    refine ⟨⟨_, rfl, ?_⟩, ?_⟩
    · obtain ⟨D, hD, hall⟩ := h.own
      refine ⟨n, D, hD, fun op h1 h2 => ?_⟩
      obtain ⟨b, c, _, h3, h4⟩ := hall op (by simp only [List.mem_cons, List.not_mem_nil, or_false]; omega)
      exact ⟨b, c, h3, h4⟩
    · exact ((hB6.trans (hb7.mono hB6.size))).grown h.grown (by simp; omega) (fun k e => by injection e; omega)
  have HE := Lib.hid hend
  have hmm := @run_makeMap Tryd.prog
  clear hgb hB6 hP0 hend hb7 bx i1 i2 i3
  obtain ⟨w1, hr1, hP1⟩ := run_rule (HP0.out.alloc (.cells #[.int .i64 1] 3)) (by unfold maxLen; omega) 3 (V6.heap.size + 1) 1 1 1 [1] rfl rfl rfl rfl (by decide) (by have := (HGB.out _ _ _ HP0.out).2.2; omega) ((by have := ints_new (V6.alloc (.map #[] 0)) [1] 3; rw [World.size_alloc] at this; exact this))
  obtain ⟨w2, hr2, hP2⟩ := run_rule (hP1.alloc (.cells #[.int .i64 2] 3)) (by unfold maxLen; omega) 4 w1.heap.size 1 1 2 [2] rfl rfl rfl rfl (by decide) (by have := (HGB.out _ _ _ hP1).2.2; omega) (ints_new w1 [2] 3)
  obtain ⟨y2, z2, _, _, _, _⟩ := (HGB.out _ _ _ hP2).1
  obtain ⟨w3, hr3, hP3⟩ := run_rule hP2 (by unfold maxLen; omega) 5 (w.heap.size) 2 2 1 [1, 1] rfl rfl rfl rfl (by decide) (by omega) (HGB.out _ _ _ hP2).2.1.1
  obtain ⟨y3, z3, _, _, _, _⟩ := (HGB.out _ _ _ hP3).1
  obtain ⟨w4, hr4, hP4⟩ := run_rule hP3 (by unfold maxLen; omega) 6 (w.heap.size) 2 2 1 [1, 1] rfl rfl rfl rfl (by decide) (by omega) (HGB.out _ _ _ hP3).2.1.1
  obtain ⟨y4, z4, _, _, _, _⟩ := (HGB.out _ _ _ hP4).1
  obtain ⟨w5, hr5, hP5⟩ := run_rule hP4 (by unfold maxLen; omega) 7 (w.heap.size) 2 2 1 [1, 1] rfl rfl rfl rfl (by decide) (by omega) (HGB.out _ _ _ hP4).2.1.1
  obtain ⟨y5, z5, _, _, _, _⟩ := (HGB.out _ _ _ hP5).1
  obtain ⟨w6, hr6, hP6⟩ := run_rule hP5 (by unfold maxLen; omega) 8 (w.heap.size) 2 2 1 [1, 1] rfl rfl rfl rfl (by decide) (by omega) (HGB.out _ _ _ hP5).2.1.1
  obtain ⟨y6, z6, _, _, _, _⟩ := (HGB.out _ _ _ hP6).1
  obtain ⟨w7, hr7, hP7⟩ := run_rule hP6 (by unfold maxLen; omega) 9 (w.heap.size) 2 2 1 [1, 1] rfl rfl rfl rfl (by decide) (by omega) (HGB.out _ _ _ hP6).2.1.1
  obtain ⟨w8, hr8, hP8⟩ := run_rule (hP7.alloc (.cells #[.int .i64 3, .int .i64 3] 3)) (by unfold maxLen; omega) 10 w7.heap.size 2 2 3 [3, 3] rfl rfl rfl rfl (by decide) (by have := (HGB.out _ _ _ hP7).2.2; omega) (ints_new w7 [3, 3] 3)
  obtain ⟨_, _, _, _, y8, z8⟩ := (HGB.out _ _ _ hP8).1
  obtain ⟨w9, hr9, hP9⟩ := run_rule hP8 (by unfold maxLen; omega) 11 (w.heap.size + 1 + 1 + 1 + 1) 2 2 2 [0, 0] rfl rfl rfl rfl (by decide) (by omega) (HGB.out _ _ _ hP8).2.1.2.2
  obtain ⟨_, _, _, _, y9, z9⟩ := (HGB.out _ _ _ hP9).1
  obtain ⟨w10, hr10, hP10⟩ := run_rule hP9 (by unfold maxLen; omega) 12 (w.heap.size + 1 + 1 + 1 + 1) 2 2 2 [0, 0] rfl rfl rfl rfl (by decide) (by omega) (HGB.out _ _ _ hP9).2.1.2.2
  obtain ⟨_, _, _, _, y100, y10⟩ := (HGB.out _ _ _ hP10).1
  obtain ⟨w11, hr11, hP11⟩ := run_rule hP10 (by unfold maxLen; omega) 13 (w.heap.size + 1 + 1 + 1 + 1) 2 2 2 [0, 0] rfl rfl rfl rfl (by decide) (by omega) (HGB.out _ _ _ hP10).2.1.2.2
  obtain ⟨_, _, _, _, y111, y11⟩ := (HGB.out _ _ _ hP11).1
  obtain ⟨w12, hr12, hP12⟩ := run_rule hP11 (by unfold maxLen; omega) 14 (w.heap.size + 1 + 1 + 1 + 1) 2 2 2 [0, 0] rfl rfl rfl rfl (by decide) (by omega) (HGB.out _ _ _ hP11).2.1.2.2
  obtain ⟨_, _, y122, y12, _, _⟩ := (HGB.out _ _ _ hP12).1
  obtain ⟨w13, hr13, hP13⟩ := run_rule hP12 (by unfold maxLen; omega) 15 (w.heap.size + 1 + 1) 2 2 2 [2, 2] rfl rfl rfl rfl (by decide) (by omega) (HGB.out _ _ _ hP12).2.1.2.1
  obtain ⟨_, _, y133, y13, _, _⟩ := (HGB.out _ _ _ hP13).1
  obtain ⟨w14, hr14, hP14⟩ := run_rule hP13 (by unfold maxLen; omega) 16 (w.heap.size + 1 + 1) 2 2 2 [2, 2] rfl rfl rfl rfl (by decide) (by omega) (HGB.out _ _ _ hP13).2.1.2.1
  obtain ⟨w15, hr15, hP15⟩ := run_rule (hP14.alloc (.cells #[.int .i64 2, .int .i64 0, .int .i64 0] 3)) (by unfold maxLen; omega) 17 w14.heap.size 3 3 0 [2, 0, 0] rfl rfl rfl rfl (by decide) (by have := (HGB.out _ _ _ hP14).2.2; omega) (ints_new w14 [2, 0, 0] 3)
  obtain ⟨w16, hr16, hP16⟩ := run_rule (hP15.alloc (.cells #[.int .i64 3] 3)) (by unfold maxLen; omega) 18 w15.heap.size 1 1 1 [3] rfl rfl rfl rfl (by decide) (by have := (HGB.out _ _ _ hP15).2.2; omega) (ints_new w15 [3] 3)
  have HZ := HE.out _ _ hP16
  have HZ2 := Lib.hid HZ
  clear HZ hs6 hP1 hP2 hP3 hP4 hP5 hP6 hP7 hP8 hP9 hP10 hP11 hP12 hP13 hP14 hP15 hP16
  go_enter Tryd.func50, Tryd.ntmps50
  go_wp2_with fail
  go_ret
  exact HZ2.out
end Go.Proofs.YthgcmficmodhiaaDoor.TyT
