/- The table of rules: the map that typing.rules makes. -/
import Derived.Test.YtdlfhldboagbeaaTy
import Derived.Maps.Own
import Derived.Maps.OwnSet
import Derived.Maps.AppendAt
import Derived.Maps.Range
import Derived.Maps.RangeWalk
namespace Go.Proofs.Ytdlfhldboagbeaa.TyT
open Go.RowKit Go.Maps
open ExM Kit ExL GenL TyM Ty
set_option linter.unusedVariables false

/-- An element is read as the value that it is. -/
def hv (v : Value) : Option (DataW Value × List MemPlace) := some (.held v, [])
theorem intKeyed : Keyed Try.prog 3 := int_keyed Try.underlying3
theorem keyI {a : Int} (h : (Lit.int .i64 a).wf = true) : keyOf Try.prog 3 (.int .i64 a) = some (.int .i64 a) := keyOf_int_mk Try.underlying3 h
def ruleV (b c : Nat) (op : Int) : Value := .agg #[.slice (some ⟨b, 0, none⟩) (ruleReq op).length c, .int .i64 (ruleRes op)]
theorem ints_grown {W W' : World} {m b : Nat} {l : List Int} (h : IntsAt W b l) (hg : W.grownBy W' (some m)) (hne : b ≠ m) : IntsAt W' b l := fun i hi =>
  hg.cell (h i hi) (fun e => hne (by injection e))
theorem ints_new (w : World) (l : List Int) (t : TypeId) : IntsAt (w.alloc (.cells (l.map (Value.int .i64)).toArray t)) w.heap.size l := fun i hi => by
  have h := World.alloc_heap_new w (.cells (l.map (Value.int .i64)).toArray t)
  unfold World.cell?
  rw [h]
  simp [hi]
theorem grown_alloc {W0 W : World} {m : Nat} (h : W0.grownBy W (some m)) (o : Obj) : W0.grownBy (W.alloc o) (some m) := h.trans ((World.grownBy_alloc W o none).but (some m))
/-- The rules of these operators stand in the map. -/
structure Part (W0 W : World) (m n : Nat) (ops : List Int) : Prop where
  grown : W0.grownBy W (some m)
  own : ∃ D, W.ownsMap Try.prog 3 hv m n D ∧ ∀ op ∈ ops, ∃ b c, b ≠ m ∧ D.atKey (.int .i64 op) .nil = .held (ruleV b c op) ∧ IntsAt W b (ruleReq op)
theorem Part.made (w : World) : Part (w.alloc (.map #[] 0)) (w.alloc (.map #[] 0)) w.heap.size 0 [] :=
  ⟨World.grownBy.refl _ _, _, World.ownsMap_made w _ _ _, fun op h => absurd h (by simp)⟩
theorem Part.alloc {W0 W : World} {m n : Nat} {ops : List Int} (h : Part W0 W m n ops) (o : Obj) : Part W0 (W.alloc o) m n ops := by
  obtain ⟨hg, D, hD, hall⟩ := h
  refine ⟨grown_alloc hg o, D, hD.alloc o, fun op hop => ?_⟩
  obtain ⟨b, c, h1, h2, h3⟩ := hall op hop
  exact ⟨b, c, h1, h2, h3.below (b_new _ _)⟩
/-- One more rule. -/
theorem Part.put {W0 W W' : World} {m n : Nat} {ops : List Int} {D : DataW Value} {op : Int} {b c : Nat} (h : Part W0 W m n ops) (hD : W.ownsMap Try.prog 3 hv m n D) (hall : ∀ op ∈ ops, ∃ b c, b ≠ m ∧ D.atKey (.int .i64 op) .nil = .held (ruleV b c op) ∧ IntsAt W b (ruleReq op))
    (hown : W'.ownsMap Try.prog 3 hv m (n + 1) (D.put (.int .i64 op) (.held (ruleV b c op)))) (hg : W.grownBy W' (some m)) (hw : (Lit.int .i64 op).wf = true) (hnew : op ∉ ops) (hb : b ≠ m) (hI : IntsAt W b (ruleReq op)) : Part W0 W' m (n + 1) (op :: ops) := by
  refine ⟨h.grown.trans hg, _, hown, fun op' hop => ?_⟩
  by_cases he : op' = op
  · subst he
    exact ⟨b, c, hb, atKey_put_same hD.isMap (by trivial) _ _, ints_grown hI hg hb⟩
  · obtain ⟨b', c', h1, h2, h3⟩ := hall op' ((List.mem_cons.1 hop).resolve_left he)
    exact ⟨b', c', h1, by rw [atKey_put_other (fun e => he (by injection e))]; exact h2, ints_grown h3 hg h1⟩

/-- All rules. -/
def Rules (W : World) (m : Nat) : Prop := ∃ n D, W.ownsMap Try.prog 3 hv m n D ∧ ∀ op : Int, 3 ≤ op → op ≤ 18 → ∃ b c, D.atKey (.int .i64 op) .nil = .held (ruleV b c op) ∧ IntsAt W b (ruleReq op)
theorem Rules.below {W W' : World} {m : Nat} (h : Rules W m) (hb : Below W.heap.size W W') : Rules W' m := by
  obtain ⟨n, D, hD, hall⟩ := h
  have hg : W.grownBy W' none := ⟨hb.os, hb.tape, hb.output, hb.size, fun k hk _ => hb.block k hk⟩
  refine ⟨n, D, hD.kept hg (by simp), fun op h1 h2 => ?_⟩
  obtain ⟨b, c, h3, h4⟩ := hall op h1 h2
  exact ⟨b, c, h3, h4.below hb⟩
end Go.Proofs.Ytdlfhldboagbeaa.TyT
