/- Facts in memory, and the map that eval.stated makes. -/
import Derived.Test.YtehkebncdahmcaaDoorEvOper
import Derived.Test.YtehkebncdahmcaaDoorValue
import Derived.Maps.Own
import Derived.Maps.OwnSet
import Derived.Maps.AppendAt
import Derived.Maps.Range
import Derived.Maps.RangeWalk
import Derived.StringKeys
namespace Go.Proofs.YtehkebncdahmcaaDoor.EvF
open Go.RowKit Go.Maps
open NumM ValM StrM ExM TyM EvM Kit Ev EvC EvO ExL
set_option linter.unusedVariables false

/-! ### Facts in memory -/
structure Fc where
  nm : ByteArray
  kk : Int
  kn : Int
  ks : ByteArray
  v : Vl
def fcs (l : List Fc) : List (ByteArray × Vl) := l.map fun f => (f.nm, f.v)
def FcAt (w : World) (p : Addr) (f : Fc) : Prop :=
  w.cell? p = some (.string f.nm) ∧ w.cell? ⟨p.block, p.off + 1, none⟩ = some (.int .i64 f.kk) ∧ w.cell? ⟨p.block, p.off + 2, none⟩ = some (.int .i64 f.kn) ∧ w.cell? ⟨p.block, p.off + 3, none⟩ = some (.string f.ks) ∧
  w.cell? ⟨p.block, p.off + 4, none⟩ = some (.int .i64 f.v.k) ∧ w.cell? ⟨p.block, p.off + 5, none⟩ = some (.int .i64 f.v.n) ∧ w.cell? ⟨p.block, p.off + 6, none⟩ = some (.string f.v.s)
theorem FcAt.below {w w' : World} {p : Addr} {f : Fc} (h : FcAt w p f) (hb : Below w.heap.size w w') : FcAt w' p f := by
  have hl := cell_lt' h.1
  have k : ∀ o v, w.cell? ⟨p.block, o, none⟩ = some v → w'.cell? ⟨p.block, o, none⟩ = some v := fun o v hv => (hb.cell (p := ⟨p.block, o, none⟩) hl).trans hv
  exact ⟨(hb.cell (p := p) hl).trans h.1, k _ _ h.2.1, k _ _ h.2.2.1, k _ _ h.2.2.2.1, k _ _ h.2.2.2.2.1, k _ _ h.2.2.2.2.2.1, k _ _ h.2.2.2.2.2.2⟩
def Fcs (w : World) (A : Option Addr) (l : List Fc) : Prop := ∀ (i : Nat) (h : i < l.length), ∃ a, A = some a ∧ FcAt w (a.add (i * 7)) l[i]
theorem Fcs.below {w w' : World} {A : Option Addr} {l : List Fc} (h : Fcs w A l) (hb : Below w.heap.size w w') : Fcs w' A l := fun i hi => by
  obtain ⟨a, ha, hf⟩ := h i hi
  exact ⟨a, ha, hf.below hb⟩
theorem fcs_len (l : List Fc) : (fcs l).length = l.length := by unfold fcs; rw [List.length_map]
theorem fcs_at (l : List Fc) (k : Nat) (h : k < l.length) (g : k < (fcs l).length) : (fcs l)[k] = (l[k].nm, l[k].v) := by simp only [fcs, List.getElem_map]

/-! ### The map -/
def vA (v : Vl) : Value := .agg #[.int .i64 v.k, .int .i64 v.n, .string v.s]
/-- The value of the first fact with a name, if there is one. -/
def firstF : List (ByteArray × Vl) → ByteArray → Option Vl
  | [], _ => none
  | f :: l, s => if f.1 = s then some f.2 else firstF l s
theorem firstF_fact (fs : List (ByteArray × Vl)) (s : ByteArray) : factV fs s = (firstF fs s).getD (flt 5) := by
  induction fs with
  | nil => rfl
  | cons f l ih =>
    rw [factV, firstF]
    by_cases h : f.1 = s
    · rw [if_pos h, if_pos h]; rfl
    · rw [if_neg h, if_neg h]; exact ih
theorem firstF_app (fs gs : List (ByteArray × Vl)) (s : ByteArray) : firstF (fs ++ gs) s = match firstF fs s with | some v => some v | none => firstF gs s := by
  induction fs with
  | nil => rfl
  | cons f l ih =>
    rw [List.cons_append, firstF, firstF]
    by_cases h : f.1 = s
    · rw [if_pos h, if_pos h]
    · rw [if_neg h, if_neg h]; exact ih
def hv (v : Value) : Option (DataW Value × List MemPlace) := some (.held v, [])
theorem strKeyed : Keyed Tryd.prog 9 := string_keyed Tryd.underlying9
theorem keyS {s : ByteArray} (h : s.size ≤ maxLen) : keyOf Tryd.prog 9 (.string s) = some (.string s.data.toList) := WideMaps.keyOf_string_mk Tryd.underlying9 h
def datF (fs : List (ByteArray × Vl)) (s : ByteArray) : DataW Value := match firstF fs s with | some v => .held (vA v) | none => .nil
/-- The map holds the first values. -/
structure FM (W : World) (m : Nat) (fs : List (ByteArray × Vl)) : Prop where
  own : ∃ D, W.ownsMap Tryd.prog 9 hv m fs.length D ∧ ∀ s : ByteArray, D.atKey (.string s.data.toList) .nil = datF fs s
theorem bytes_inj {s t : ByteArray} (h : s.data.toList = t.data.toList) : s = t := by
  cases s; cases t; congr; exact Array.toList_inj.1 h
theorem FM.made (w : World) : FM (w.alloc (.map #[] 0)) w.heap.size [] := ⟨_, World.ownsMap_made w _ _ _, fun s => rfl⟩
theorem FM.lt {W : World} {m : Nat} {fs : List (ByteArray × Vl)} (h : FM W m fs) : m < W.heap.size := by
  obtain ⟨D, ⟨es, ck, hb, _⟩, _⟩ := h.own
  exact (Array.getElem?_eq_some_iff.1 hb).1
theorem FM.below {W W' : World} {m : Nat} {fs : List (ByteArray × Vl)} (h : FM W m fs) (hb : Below W.heap.size W W') : FM W' m fs := by
  obtain ⟨D, hD, hall⟩ := h.own
  have hg : W.grownBy W' none := ⟨hb.os, hb.tape, hb.output, hb.size, fun k hk _ => hb.block k hk⟩
  exact ⟨D, hD.kept hg (by simp), hall⟩
set_option maxRecDepth 100000 in
theorem FM.look {W : World} {m : Nat} {fs : List (ByteArray × Vl)} (h : FM W m fs) (s : ByteArray) (hs : s.size ≤ maxLen) :
    (Instr.lookup 45 (.map (some m)) (.string s) true).run Tryd.prog W = .ok (.tuple #[.agg #[.int .i64 ((firstF fs s).getD zeroV).k, .int .i64 ((firstF fs s).getD zeroV).n, .string ((firstF fs s).getD zeroV).s], .bool (firstF fs s).isSome]) W := by
  obtain ⟨D, hD, hall⟩ := h.own
  have hx := hall s
  obtain ⟨es, clock, hb, F, _, rfl⟩ := hD
  rcases Maps.fit_look true strKeyed Tryd.underlying45 (z := .agg #[.int .i64 0, .int .i64 0, .string ⟨#[]⟩]) (by kernel_rfl) hb F (keyS hs) with ⟨hrun, _, hat⟩ | ⟨q, y, _, _, hrun, hRv, hat, _⟩
  · rw [hat .nil] at hx
    unfold datF at hx
    rcases hf : firstF fs s with _ | v
    · rw [hrun]; rfl
    · rw [hf] at hx; cases hx
  · rw [hat .nil] at hx
    have hy : y = (.held q.val, []) := by
      have : hv q.val = some y := hRv
      unfold hv at this; injection this with this; exact this.symm
    subst hy
    unfold datF at hx
    rcases hf : firstF fs s with _ | v
    · rw [hf] at hx; cases hx
    · rw [hf] at hx
      have h5 : q.val = vA v := by injection hx
      rw [hrun, h5]; rfl
/-- One more fact, whose name is new. -/
theorem FM.put {W : World} {m : Nat} {fs : List (ByteArray × Vl)} (h : FM W m fs) (s : ByteArray) (hs : s.size ≤ maxLen) (v : Vl) (hn : fs.length < maxLen) (hnew : firstF fs s = none) :
    ∃ w', (Instr.mapUpdate 45 (.map (some m)) (.string s) (.agg #[.int .i64 v.k, .int .i64 v.n, .string v.s])).run Tryd.prog W = .ok () w' ∧ FM w' m (fs ++ [(s, v)]) ∧ W.grownBy w' (some m) := by
  obtain ⟨D, hD, hall⟩ := h.own
  obtain ⟨w', hrun, r1, r2⟩ := hD.update strKeyed Tryd.underlying45 hn (keyS hs) (val := vA v) (d := .held (vA v)) (ps := []) rfl
  refine ⟨w', hrun, ⟨_, by rw [List.length_append]; exact r1, fun t => ?_⟩, r2⟩
  unfold datF
  rw [firstF_app]
  by_cases he : t = s
  · subst he
    rw [atKey_put_same hD.isMap (by trivial), hnew]
    simp [firstF]
  · rw [atKey_put_other (fun e => he (bytes_inj (by injection e))), hall t]
    unfold datF
    rcases hf : firstF fs t with _ | u
    · simp [firstF, Ne.symm he]
    · rfl
/-- One more fact, whose name is there. -/
theorem FM.skip {W : World} {m : Nat} {fs : List (ByteArray × Vl)} (h : FM W m fs) (s : ByteArray) (v : Vl) (hold : (firstF fs s).isSome = true) : FM W m (fs ++ [(s, v)]) := by
  obtain ⟨D, ⟨es, clock, hb, F, hs, e⟩, hall⟩ := h.own
  refine ⟨D, ⟨es, clock, hb, F, by rw [List.length_append]; exact Nat.le_succ_of_le hs, e⟩, fun t => ?_⟩
  rw [hall t]
  unfold datF
  rw [firstF_app]
  rcases hf : firstF fs t with _ | u
  · have he : s ≠ t := fun e => by subst e; rw [hf] at hold; cases hold
    simp [firstF, he]
  · rfl
end Go.Proofs.YtehkebncdahmcaaDoor.EvF
