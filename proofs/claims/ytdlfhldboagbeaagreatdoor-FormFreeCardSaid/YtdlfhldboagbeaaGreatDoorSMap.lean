/- Maps from strings that a call makes: what stands at each name. -/
import Derived.Test.YtdlfhldboagbeaaGreatDoorProg
import Derived.Test.YtdlfhldboagbeaaGreatDoorKit
import Derived.Maps.Own
import Derived.Maps.OwnSet
import Derived.Maps.RangeWalk
import Derived.StringKeys
namespace Go.Proofs.YtdlfhldboagbeaaGreatDoor.SMp
open Go.RowKit Go.Maps Kit
set_option linter.unusedVariables false

def hv (v : Value) : Option (DataW Value × List MemPlace) := some (.held v, [])
theorem strKeyed : Keyed Tryz.prog 9 := string_keyed Tryz.underlying9
theorem keyS {s : ByteArray} (h : s.size ≤ maxLen) : keyOf Tryz.prog 9 (.string s) = some (.string s.data.toList) := WideMaps.keyOf_string_mk Tryz.underlying9 h
theorem bytes_inj {s t : ByteArray} (h : s.data.toList = t.data.toList) : s = t := by
  cases s; cases t; congr; exact Array.toList_inj.1 h
/-- What a datum says of a name. -/
def Reads (D : DataW Value) (M : ByteArray → Option Value) : Prop := ∀ s : ByteArray, has D (.string s.data.toList) = (M s).isSome ∧ ∀ v, M s = some v → ∀ z, D.atKey (.string s.data.toList) z = .held v
/-- The map at block m, of at most n names. -/
structure SM (W : World) (m n : Nat) (M : ByteArray → Option Value) : Prop where
  own : ∃ D, W.ownsMap Tryz.prog 9 hv m n D ∧ Reads D M
theorem SM.made (w : World) : SM (w.alloc (.map #[] 0)) w.heap.size 0 (fun _ => none) := ⟨_, World.ownsMap_made w _ _ _, fun s => ⟨rfl, fun v h => by cases h⟩⟩
theorem SM.lt {W : World} {m n : Nat} {M : ByteArray → Option Value} (h : SM W m n M) : m < W.heap.size := by
  obtain ⟨D, hD, _⟩ := h.own
  exact hD.lt
theorem SM.kept {W W' : World} {m n : Nat} {M : ByteArray → Option Value} {row : Option Nat} (h : SM W m n M) (hg : W.grownBy W' row) (hne : some m ≠ row) : SM W' m n M := by
  obtain ⟨D, hD, hall⟩ := h.own
  exact ⟨D, hD.kept hg hne, hall⟩
theorem grown_of_below {W W' : World} (hb : Below W.heap.size W W') : W.grownBy W' none := ⟨hb.os, hb.tape, hb.output, hb.size, fun k hk _ => hb.block k hk⟩
theorem SM.below {W W' : World} {m n : Nat} {M : ByteArray → Option Value} (h : SM W m n M) (hb : Below W.heap.size W W') : SM W' m n M := h.kept (grown_of_below hb) (by simp)
theorem SM.alloc {W : World} {m n : Nat} {M : ByteArray → Option Value} (h : SM W m n M) (o : Obj) : SM (W.alloc o) m n M := h.kept (World.grownBy_alloc W o none) (by simp)
theorem SM.mono {W : World} {m n n' : Nat} {M : ByteArray → Option Value} (h : SM W m n M) (hn : n ≤ n') : SM W m n' M := by
  obtain ⟨D, hD, hall⟩ := h.own
  exact ⟨D, hD.mono hn, hall⟩
theorem SM.to {W : World} {m n : Nat} {M M' : ByteArray → Option Value} (h : SM W m n M) (e : ∀ s, M s = M' s) : SM W m n M' := by
  obtain rfl : M = M' := funext e
  exact h
theorem Reads.not {D : DataW Value} {M : ByteArray → Option Value} (h : Reads D M) {s : ByteArray} (hn : M s = none) : has D (.string s.data.toList) = false := by rw [(h s).1, hn]; rfl
set_option maxRecDepth 100000 in
theorem look_gen {W : World} {m n : Nat} {M : ByteArray → Option Value} (c : Bool) (h : SM W m n M) {T te : TypeId} (ht : Tryz.prog.underlying T = some (.map 9 te)) {z : Value} (hz : (zeroValue te).run Tryz.prog W = .ok z W) (s : ByteArray) (hs : s.size ≤ maxLen) :
    (Instr.lookup T (.map (some m)) (.string s) c).run Tryz.prog W = .ok (if c then .tuple #[(M s).getD z, .bool (M s).isSome] else (M s).getD z) W := by
  obtain ⟨D, hD, hall⟩ := h.own
  obtain ⟨hh, hat⟩ := hall s
  obtain ⟨es, clock, hb, F, _, rfl⟩ := hD
  rcases Maps.fit_look c strKeyed ht hz hb F (keyS hs) with ⟨hrun, _, h1⟩ | ⟨q, y, _, _, hrun, hRv, h1, _⟩
  · rw [has_false_of_atKey h1] at hh
    rcases hf : M s with _ | v
    · rw [hrun]; cases c <;> rfl
    · rw [hf] at hh; cases hh
  · rw [has_true_of_atKey h1] at hh
    rcases hf : M s with _ | v
    · rw [hf] at hh; cases hh
    · have e1 := (hat v hf .nil).symm.trans (h1 .nil)
      have hy : hv q.val = some y := hRv
      unfold hv at hy
      injection hy with hy
      subst hy
      injection e1 with e1
      subst e1
      rw [hrun]; cases c <;> rfl
theorem SM.look {W : World} {m n : Nat} {M : ByteArray → Option Value} (h : SM W m n M) {T te : TypeId} (ht : Tryz.prog.underlying T = some (.map 9 te)) {z : Value} (hz : (zeroValue te).run Tryz.prog W = .ok z W) (s : ByteArray) (hs : s.size ≤ maxLen) :
    (Instr.lookup T (.map (some m)) (.string s) true).run Tryz.prog W = .ok (.tuple #[(M s).getD z, .bool (M s).isSome]) W := look_gen true h ht hz s hs
theorem SM.look1 {W : World} {m n : Nat} {M : ByteArray → Option Value} (h : SM W m n M) {T te : TypeId} (ht : Tryz.prog.underlying T = some (.map 9 te)) {z : Value} (hz : (zeroValue te).run Tryz.prog W = .ok z W) (s : ByteArray) (hs : s.size ≤ maxLen) :
    (Instr.lookup T (.map (some m)) (.string s) false).run Tryz.prog W = .ok ((M s).getD z) W := look_gen false h ht hz s hs
theorem Reads.put {D : DataW Value} {M : ByteArray → Option Value} (h : Reads D M) (hm : IsMap D) (s : ByteArray) (v : Value) : Reads (D.put (.string s.data.toList) (.held v)) (fun t => if t = s then some v else M t) := fun t => by
  by_cases he : t = s
  · subst he
    simp only [if_pos trivial]
    exact ⟨has_put_same (k := .string t.data.toList) hm (by trivial) _, fun u hu z => by injection hu with hu; subst hu; exact atKey_put_same (k := .string t.data.toList) hm (by trivial) _ _⟩
  · simp only [if_neg he]
    have hne : Lit.string t.data.toList ≠ Lit.string s.data.toList := fun e => he (bytes_inj (by injection e))
    exact ⟨(has_put_other hne _).trans (h t).1, fun u hu z => (atKey_put_other hne _ _).trans ((h t).2 u hu z)⟩
theorem SM.put {W : World} {m n : Nat} {M : ByteArray → Option Value} (h : SM W m n M) {T te : TypeId} (ht : Tryz.prog.underlying T = some (.map 9 te)) (s : ByteArray) (hs : s.size ≤ maxLen) (v : Value) (hn : n < maxLen) :
    ∃ w', (Instr.mapUpdate T (.map (some m)) (.string s) v).run Tryz.prog W = .ok () w' ∧ SM w' m (n + 1) (fun t => if t = s then some v else M t) ∧ W.grownBy w' (some m) := by
  obtain ⟨D, hD, hall⟩ := h.own
  obtain ⟨w', hrun, r1, r2⟩ := hD.update strKeyed ht hn (keyS hs) (val := v) (d := .held v) (ps := []) rfl
  exact ⟨w', hrun, ⟨_, r1, hall.put hD.isMap s v⟩, r2⟩
/-! ### ranging -/
/-- Ranging over the map at block m: which names are still to come. -/
structure SR (W : World) (m r n : Nat) (M : ByteArray → Option Value) (left : ByteArray → Bool) (cnt : Nat) : Prop where
  rng : ∃ D lf, W.ranges Tryz.prog 9 hv m r n D lf cnt ∧ Reads D M ∧ (∀ s : ByteArray, lf (.string s.data.toList) = left s)
theorem SR.kept {W W' : World} {m r n : Nat} {M : ByteArray → Option Value} {left : ByteArray → Bool} {cnt : Nat} {row : Option Nat} (h : SR W m r n M left cnt) (hg : W.grownBy W' row) (h1 : some m ≠ row) (h2 : some r ≠ row) : SR W' m r n M left cnt := by
  obtain ⟨D, lf, hD, hall, hl⟩ := h.rng
  exact ⟨D, lf, hD.kept hg h1 h2, hall, hl⟩
theorem SR.left_eq {W : World} {m r n : Nat} {M : ByteArray → Option Value} {left : ByteArray → Bool} {cnt : Nat} (h : SR W m r n M left cnt) : W.rangeLeft m r = cnt := by
  obtain ⟨D, lf, hD, _, _⟩ := h.rng
  exact hD.left_eq
section
variable (w : World) {ops : Array Oper} {rest : List Oper} {o : Oper} {a : Act} {Q : Exit → Act → World → Prop}
theorem wpList_range_sm (hg : o.guard = none) (m : Operand) (t : TypeId) (hop : o.op = Op.range t m) (te : TypeId) (ht : Tryz.prog.underlying t = some (.map 9 te)) (b n : Nat) (M : ByteArray → Option Value)
    (hm : a.eval m = .map (some b)) (h : SM w b n M)
    (hK : ∀ w' cnt, cnt ≤ n → SR w' b w.heap.size n M (fun s => (M s).isSome) cnt → w.grownBy w' none → w'.heap.size = w.heap.size + 1 → wpList Tryz.prog ops Q rest (a.put o.dst (.pointer (some ⟨w.heap.size, 0, none⟩))) w') :
    wpList Tryz.prog ops Q (o :: rest) a w := by
  obtain ⟨D, hD, hall⟩ := h.own
  refine wpList_range_own w hg m t hop 9 te strKeyed ht hv b n D hm hD fun w' h1 h2 h3 => ?_
  exact hK w' _ hD.size_le ⟨D, _, h1, hall, fun s => (hall s).1⟩ h2 h3
set_option maxRecDepth 100000 in
theorem wpList_next_sm (hg : o.guard = none) (it : Operand) (hop : o.op = Op.next it false) (b r n : Nat) (M : ByteArray → Option Value) (left : ByteArray → Bool) (cnt : Nat)
    (hit : a.eval it = .pointer (some ⟨r, 0, none⟩)) (h : SR w b r n M left cnt) (hsub : ∀ s, left s = true → (M s).isSome = true)
    (hDone : cnt = 0 → (∀ s, left s = false) → wpList Tryz.prog ops Q rest (a.put o.dst (.tuple #[.bool false])) w)
    (hMore : ∀ (s : ByteArray) (v : Value) (w' : World) (cnt' : Nat), s.size ≤ maxLen → left s = true → M s = some v → SR w' b r n M (fun t => left t && !decide (t = s)) cnt' → cnt' < cnt →
      w.grownBy w' (some r) → w'.heap.size = w.heap.size → (Instr.entry (.pointer (some ⟨r, 0, none⟩))).run Tryz.prog w' = .ok (.tuple #[.string s, v]) w' → wpList Tryz.prog ops Q rest (a.put o.dst (.tuple #[.bool true, .string s, v])) w') :
    wpList Tryz.prog ops Q (o :: rest) a w := by
  obtain ⟨D, lf, hD, hall, hl⟩ := h.rng
  refine wpList_next_ranges (α := ByteArray) (β := Value) w hg it hop 9 strKeyed hv Value.string id (fun key kl hk => by obtain ⟨s, rfl, _⟩ := WideMaps.string_of_keyOf Tryz.underlying9 hk; exact ⟨s, rfl⟩) (fun v y _ => ⟨v, rfl⟩) b r n D lf cnt hit hD (fun h0 hf => hDone h0 fun s => by rw [← hl s]; exact hf _) ?_
  intro s v kl y w' cnt' hkey hlk hRv hat hrg hlt hgr hsz hen
  obtain ⟨s', e, rfl, hs⟩ := WideMaps.string_of_keyOf Tryz.underlying9 hkey
  injection e with e
  subst e
  have hls : left s = true := by rw [← hl s]; exact hlk
  have hsome := hsub s hls
  rcases hf : M s with _ | u
  · rw [hf] at hsome; cases hsome
  · have e1 := ((hall s).2 u hf .nil).symm.trans (hat .nil)
    have hy : hv v = some y := hRv
    unfold hv at hy
    injection hy with hy
    subst hy
    injection e1 with e1
    subst e1
    refine hMore s u w' cnt' hs hls hf ⟨D, _, hrg, hall, fun t => ?_⟩ hlt hgr hsz hen
    show (lf _ && !Lit.sameKey _ _) = _
    rw [hl t]
    congr 2
    rw [Bool.eq_iff_iff, decide_eq_true_eq]
    constructor
    · intro h
      refine bytes_inj ?_
      simpa [Lit.sameKey] using h
    · intro h; subst h; simp [Lit.sameKey]
end
end Go.Proofs.YtdlfhldboagbeaaGreatDoor.SMp
