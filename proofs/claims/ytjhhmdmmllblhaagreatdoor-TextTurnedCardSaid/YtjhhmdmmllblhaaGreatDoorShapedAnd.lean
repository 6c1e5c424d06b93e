/- The step of a row that lists variables, the world's shape handed on: a variable of the library's own holds some integer. -/
import Derived.Handed
import Derived.HandedShaped
import Derived.Shelf.Vars
namespace Go.Proofs.YtjhhmdmmllblhaaGreatDoor.ShA
open Go
variable {H : Type} {enc : TypeId × Value → H}

theorem and_shaped {a : Assume} {C : Checked} {os : Os} {f : FuncId} {fn : Func} {s : ChangeSpec} {conds : List PathCond} {apart fresh handsOn again : Bool} {X : World → Array Value → Prop} (hX : ∀ (v v' : World) (xs : Array Value), v.heap = v'.heap → X v xs → X v' xs)
    (own : ownKnob C.prog.godebug = none) (started : os.Started) (noInit : C.prog.inits.idxOf? f = none) (hfn : C.prog.funcs[f]? = some fn)
    (wit : ∃ (v : World) (t : Tape) (i : Input), v.os = os ∧ (v.forCall t i).Shaped C.prog ∧ i.vars = [] ∧ Input.okWide C.prog (v.forCall t i) .any v.heap.size f i ∧
      ((s.pre enc C.prog fn conds apart (v.forCall t i).memory i.args ∧ X (v.forCall t i).memory i.args) ∧ sizedMet enc C.prog fn (OpenSpec.ofChange s) apart (v.forCall t i).memory i.args) ∧ a.holds C.prog (lone (Frame.enter C.prog f i.args .normal) [] (v.forCall t i)))
    (body : ∀ (V : World) (b : Nat) (xs : Array Value) (ds gs : List (DataW H)) (bef : List MemPlace), (∀ (j : Nat) t v, fn.params[j]? = some t → xs[j]? = some v → Value.okWide C.prog V .any b t v) → DataW.Whole enc C.prog fn.params.toList s.vars apart V xs.toList ds gs bef →
      conds.all (PathCond.test C.prog ⟨fn.params.toList, ds, s.plain.varTypes C.prog, gs⟩) = true → (DataW.weightsEach C.prog (fn.params.toList ++ s.plain.varTypes C.prog) (ds ++ gs)).all (· ≤ reachBytes) = true → X V xs → V.ShapedOpen C.prog →
      a.holds C.prog (lone (Frame.enter C.prog f xs .normal) [] V) → Calls C.prog f xs V fun e V' => ∃ v, e = .returned v ∧ s.post enc C.prog fn apart fresh handsOn again V xs v V') :
    ReturnsInHanded a C os f .any (fun v xs => (s.pre enc C.prog fn conds apart v xs ∧ X v xs) ∧ sizedMet enc C.prog fn (OpenSpec.ofChange s) apart v xs) (s.post enc C.prog fn apart fresh handsOn again) := by
  refine returnsInHanded_of_calls own started noInit wit fun v t i _ hsh _ hok hpre hh => ?_
  obtain ⟨_, _, _, fn', hfn', _, _, _, _, hval⟩ := hok
  obtain rfl : fn' = fn := Option.some.inj (hfn'.symm.trans hfn)
  obtain ⟨⟨⟨ds, gs, bef, hw, hc⟩, hx⟩, hz⟩ := hpre
  refine (body (v.forCall t i) v.heap.size i.args ds gs bef hval (DataW.Whole.of_heap (w' := v.forCall t i) (by rfl) hw) hc (hz.weights hw) (hX _ _ _ (by rfl) hx) hsh hh).mono fun e V' h => ?_
  obtain ⟨r, rfl, hp⟩ := h
  exact ChangeSpec.post_blind hp
end Go.Proofs.YtjhhmdmmllblhaaGreatDoor.ShA
