/- What the whole proof names besides: the tables as they are laid. -/
import Derived.LaidLaws
import Derived.ChangeArms
import Derived.Lib.LaidTab
import Derived.ChangeOld
import Derived.WideShapes
import Derived.Handed
import Derived.HandedShaped
import Derived.Shelf.Vars
import Derived.Test.YtdefaeieiaegaaaGreatDoorKtE01
import Derived.Test.YtdefaeieiaegaaaGreatDoorKtE21
import Derived.Test.YtdefaeieiaegaaaGreatDoorKtE22
namespace Go.Proofs.YtdefaeieiaegaaaGreatDoor.StrTab
open Go.ChangeShapes Go.WideShapes

def strData {H : Type} (zs : List (List UInt8)) : DataW H := .agg (zs.map fun l => .lit (.string l))
theorem cells_of {H : Type} {enc : TypeId × Value → H} {P : Program} {w : World} {base : Nat} {sp : Nat → Bool} {held : Bool} {fuel : Nat} {t e : TypeId} {n : Nat} {cs : List Value} {zs : List (List UInt8)} {p : List MemPlace}
    (ht : P.underlying t = some (.array n e)) (he : P.underlying e = some .string) (hce : P.cellsOf e = 1) (hct : P.cellsOf t = n)
    (h : DataW.trod enc P w base sp held fuel t cs = some (strData zs, p)) : cs = zs.map fun l => Value.string ⟨l.toArray⟩ := by
  cases fuel with
  | zero => simp [DataW.trod] at h
  | succ fuel =>
    simp only [DataW.trod, ht, hce, hct, Nat.mul_one] at h
    split at h
    · rename_i hl
      obtain ⟨xs, hm, hx⟩ := Option.map_eq_some_iff.1 h
      have hxs : xs.map (·.1) = zs.map fun l => (DataW.lit (.string l) : DataW H) := by
        have := congrArg Prod.fst hx
        simpa [strData] using this
      have hxl : xs.length = n := by simpa using Lib.mapM_length hm
      have hzl : zs.length = n := by
        have := congrArg List.length hxs
        simp at this
        omega
      apply List.ext_getElem?
      intro i
      by_cases hi : i < n
      · obtain ⟨b, hb, hf⟩ := Lib.mapM_at hm i i (by simp [hi])
        obtain ⟨z, hc, rfl, _⟩ := DataW.trod_string he hf
        have h1 : cs[i]? = some (.string z) := by
          have := congrArg (·[0]?) hc
          simpa [List.getElem?_take, List.getElem?_drop] using this
        have h2 : (xs.map (·.1))[i]? = some (DataW.lit (.string z.data.toList) : DataW H) := by simp [hb]
        rw [hxs] at h2
        simp only [List.getElem?_map, Option.map_eq_some_iff, DataW.lit.injEq, Lit.string.injEq] at h2
        obtain ⟨z', hz', hz2⟩ := h2
        simp [h1, hz', hz2]
      · rw [List.getElem?_eq_none (by omega), List.getElem?_eq_none (by simp; omega)]
    · cases h

theorem is_of_head {P : Program} {W : World} {name : String} {zs : List (List UInt8)} {rest : List (String × DataW Unit)} {g : Nat} {t e : TypeId} {n : Nat}
    (hg : P.globalNamed name = some g) (hty : (P.globals[g]?).map (·.type) = some t) (ht : P.underlying t = some (.array n e)) (he : P.underlying e = some .string) (hce : P.cellsOf e = 1) (hct : P.cellsOf t = n)
    (h : laidMet P ((name, strData zs) :: rest) W) : Is P W name zs := by
  obtain ⟨ps, ⟨g', t', cs, fuel, p, q, hg', ht', hvar, hd, _, _⟩, _⟩ := h
  obtain rfl := Option.some.inj (hg.symm.trans hg')
  obtain rfl := Option.some.inj (hty.symm.trans ht')
  unfold Is
  rw [hvar, ← cells_of ht he hce hct hd]

end Go.Proofs.YtdefaeieiaegaaaGreatDoor.StrTab

namespace Go.Proofs.YtdefaeieiaegaaaGreatDoor.NotTab
open Go.ChangeShapes Go.WideShapes

def rowD {H : Type} (z : Rw) : DataW H := .agg [.lit (.string z.1), .lit (.int .i64 z.2.1), .lit (.int .i64 z.2.2)]
def datum {H : Type} (zs : List Rw) : DataW H := .agg (zs.map rowD)
theorem len3 {α : Type} {l : List α} (h : l.length = 3) : ∃ a b c, l = [a, b, c] := by
  match l, h with
  | [a, b, c], _ => exact ⟨a, b, c, rfl⟩
theorem row_of {H : Type} {enc : TypeId × Value → H} {P : Program} {w : World} {base : Nat} {sp : Nat → Bool} {held : Bool} {fuel : Nat} {e : TypeId} {f0 f1 f2 : Field} {cs : List Value} {z : Rw} {p : List MemPlace}
    (he : P.underlying e = some (.struct #[f0, f1, f2])) (hce : P.cellsOf e = 3) (o0 : f0.offset = 0) (o1 : f1.offset = 1) (o2 : f2.offset = 2) (u0 : P.underlying f0.type = some .string) (u1 : P.underlying f1.type = some (.int .i64)) (u2 : P.underlying f2.type = some (.int .i64))
    (c0 : P.cellsOf f0.type = 1) (c1 : P.cellsOf f1.type = 1) (c2 : P.cellsOf f2.type = 1)
    (h : DataW.trod enc P w base sp held fuel e cs = some (rowD z, p)) : cs = rowC z := by
  obtain ⟨xs, n, _, hx, hl, hxl, hf⟩ := DataW.trod_struct he h
  rw [hce] at hl
  obtain ⟨a, b, c, rfl⟩ := len3 hl
  obtain ⟨y0, y1, y2, rfl⟩ := len3 (show xs.length = 3 from hxl)
  have g0 := hf 0 f0 rfl
  have g1 := hf 1 f1 rfl
  have g2 := hf 2 f2 rfl
  rw [o0, c0] at g0
  rw [o1, c1] at g1
  rw [o2, c2] at g2
  obtain ⟨s, e0, d0, _⟩ := DataW.trod_string u0 g0
  obtain ⟨i, e1, d1, _⟩ := DataW.trod_int u1 g1
  obtain ⟨j, e2, d2, _⟩ := DataW.trod_int u2 g2
  have hx1 := congrArg Prod.fst hx
  simp only [rowD, List.map_cons, List.map_nil, d0, d1, d2, DataW.agg.injEq, List.cons.injEq, DataW.lit.injEq, Lit.string.injEq, Lit.int.injEq, true_and, and_true] at hx1
  obtain ⟨h1, h2, h3⟩ := hx1
  simp at e0 e1 e2
  subst e0 e1 e2
  simp [rowC, h1, h2, h3]
theorem flat_len (zs : List Rw) : (zs.flatMap rowC).length = zs.length * 3 := by
  induction zs with
  | nil => rfl
  | cons y zs ih => rw [List.flatMap_cons, List.length_append, ih, List.length_cons]; show 3 + _ = _; omega
theorem cells_of {H : Type} {enc : TypeId × Value → H} {P : Program} {w : World} {base : Nat} {sp : Nat → Bool} {held : Bool} {fuel : Nat} {t e : TypeId} {f0 f1 f2 : Field} {n : Nat} {cs : List Value} {zs : List Rw} {p : List MemPlace}
    (ht : P.underlying t = some (.array n e)) (hct : P.cellsOf t = n * 3)
    (he : P.underlying e = some (.struct #[f0, f1, f2])) (hce : P.cellsOf e = 3) (o0 : f0.offset = 0) (o1 : f1.offset = 1) (o2 : f2.offset = 2) (u0 : P.underlying f0.type = some .string) (u1 : P.underlying f1.type = some (.int .i64)) (u2 : P.underlying f2.type = some (.int .i64))
    (c0 : P.cellsOf f0.type = 1) (c1 : P.cellsOf f1.type = 1) (c2 : P.cellsOf f2.type = 1)
    (h : DataW.trod enc P w base sp held fuel t cs = some (datum zs, p)) : cs = zs.flatMap rowC := by
  cases fuel with
  | zero => simp [DataW.trod] at h
  | succ fuel =>
    simp only [DataW.trod, ht, hce, hct] at h
    split at h
    · rename_i hl
      obtain ⟨xs, hm, hx⟩ := Option.map_eq_some_iff.1 h
      have hxs : xs.map (·.1) = zs.map (rowD (H := H)) := by
        have := congrArg Prod.fst hx
        simpa [datum] using this
      have hxl : xs.length = n := by simpa using Lib.mapM_length hm
      have hzl : zs.length = n := by
        have := congrArg List.length hxs
        simp at this
        omega
      apply List.ext_getElem?
      intro q
      by_cases hq : q < n * 3
      · obtain ⟨i, j, hj, rfl⟩ : ∃ i j, j < 3 ∧ q = i * 3 + j := ⟨q / 3, q % 3, Nat.mod_lt _ (by omega), by omega⟩
        have hi : i < n := by omega
        obtain ⟨b, hb, hf⟩ := Lib.mapM_at hm i i (by simp [hi])
        have hz : zs[i]? = some zs[i] := List.getElem?_eq_getElem (by omega)
        have h2 : (xs.map (·.1))[i]? = some b.1 := by simp [hb]
        rw [hxs, List.getElem?_map, hz] at h2
        simp only [Option.map_some, Option.some.injEq] at h2
        obtain ⟨b1, b2⟩ := b
        simp only at h2
        subst h2
        have hr := row_of he hce o0 o1 o2 u0 u1 u2 c0 c1 c2 hf
        rw [flat_at zs i _ hz j hj, ← hr, List.getElem?_take, if_pos hj, List.getElem?_drop]
      · rw [List.getElem?_eq_none (by omega), List.getElem?_eq_none (by rw [flat_len]; omega)]
    · cases h
theorem is_of_head {P : Program} {W : World} {name : String} {zs : List Rw} {rest : List (String × DataW Unit)} {g : Nat} {t e : TypeId} {f0 f1 f2 : Field} {n : Nat}
    (hg : P.globalNamed name = some g) (hty : (P.globals[g]?).map (·.type) = some t) (ht : P.underlying t = some (.array n e)) (hct : P.cellsOf t = n * 3)
    (he : P.underlying e = some (.struct #[f0, f1, f2])) (hce : P.cellsOf e = 3) (o0 : f0.offset = 0) (o1 : f1.offset = 1) (o2 : f2.offset = 2) (u0 : P.underlying f0.type = some .string) (u1 : P.underlying f1.type = some (.int .i64)) (u2 : P.underlying f2.type = some (.int .i64))
    (c0 : P.cellsOf f0.type = 1) (c1 : P.cellsOf f1.type = 1) (c2 : P.cellsOf f2.type = 1)
    (h : laidMet P ((name, datum zs) :: rest) W) : Is P W name zs := by
  obtain ⟨ps, ⟨g', t', cs, fuel, p, q, hg', ht', hvar, hd, _, _⟩, _⟩ := h
  obtain rfl := Option.some.inj (hg.symm.trans hg')
  obtain rfl := Option.some.inj (hty.symm.trans ht')
  unfold Is
  rw [hvar, ← cells_of ht hct he hce o0 o1 o2 u0 u1 u2 c0 c1 c2 hd]
end Go.Proofs.YtdefaeieiaegaaaGreatDoor.NotTab

namespace Go.Proofs.YtdefaeieiaegaaaGreatDoor.ShA
open Go
variable {H : Type} {enc : TypeId × Value → H}

theorem and_shaped {a : Assume} {C : Checked} {os : Os} {f : FuncId} {fn : Func} {s : ChangeSpec} {conds : List PathCond} {apart fresh handsOn again : Bool} {X : World → Array Value → Prop} (hX : ∀ (v v' : World) (xs : Array Value), v.heap = v'.heap → X v xs → X v' xs)
    (own : ownKnob C.prog.godebug = none) (started : os.Started) (noInit : C.prog.inits.idxOf? f = none) (hfn : C.prog.funcs[f]? = some fn)
    (wit : ∃ (v : World) (t : Tape) (i : Input), v.os = os ∧ (v.forCall t i).Shaped C.prog ∧ i.vars = [] ∧ Input.okWide C.prog (v.forCall t i) .any v.heap.size f i ∧
      ((s.pre enc C.prog fn conds apart (v.forCall t i).memory i.args ∧ X (v.forCall t i).memory i.args) ∧ sizedMet enc C.prog fn (OpenSpec.ofChange s) apart (v.forCall t i).memory i.args) ∧ a.holds C.prog (lone (Frame.enter C.prog f i.args .normal) [] (v.forCall t i)))
    (body : ∀ (V : World) (b : Nat) (xs : Array Value) (ds gs : List (DataW H)) (bef : List MemPlace), (∀ (j : Nat) t v, fn.params[j]? = some t → xs[j]? = some v → Value.okWide C.prog V .any b t v) → DataW.Whole enc C.prog fn.params.toList s.vars apart V xs.toList ds gs bef →
      conds.all (PathCond.test C.prog ⟨fn.params.toList, ds, s.plain.varTypes C.prog, gs⟩) = true → (DataW.weightsEach C.prog (fn.params.toList ++ s.plain.varTypes C.prog) (ds ++ gs)).all (· ≤ reachBytes) = true → X V xs → V.ShapedOpen C.prog →
      a.holds C.prog (lone (Frame.enter C.prog f xs .normal) [] V) → Calls C.prog f xs V fun e V' => ∃ v, e = .returned v ∧ s.post enc C.prog fn apart fresh handsOn again V xs v V') :
    ReturnsInHanded a C os f .any (fun v xs => (s.pre enc C.prog fn conds apart v xs ∧ X v xs) ∧ sizedMet enc C.prog fn (OpenSpec.ofChange s) apart v xs) (s.post enc C.prog fn apart fresh handsOn again) := by
  refine returnsInHanded_of_calls own started noInit wit fun v t i _ hsh _ hok hpre hh => ?_
  obtain ⟨_, _, _, fn', hfn', _, _, _, _, hval⟩ := hok
  obtain rfl : fn' = fn := Option.some.inj (hfn'.symm.trans hfn)
  obtain ⟨⟨⟨ds, gs, bef, hw, hc⟩, hx⟩, hz⟩ := hpre
  refine (body (v.forCall t i) v.heap.size i.args ds gs bef hval (DataW.Whole.of_heap (w' := v.forCall t i) (by rfl) hw) hc (hz.weights hw) (hX _ _ _ (by rfl) hx) hsh hh).mono fun e V' h => ?_
  obtain ⟨r, rfl, hp⟩ := h
  exact ChangeSpec.post_blind hp
end Go.Proofs.YtdefaeieiaegaaaGreatDoor.ShA

