/- A region that draws its order: results that are known ahead (T), and one operation (E) that changes the world from A to B. -/
import Derived.Test.YthgcmficmodhiaaGreatDoorRegJ
namespace Go.Proofs.YthgcmficmodhiaaGreatDoor.RegI
open Go.RowKit
set_option linter.unusedVariables false

theorem op_assign {P : Program} {w : World} {o : Oper} {ρ : Operand → Value} {x : Operand} {v : Value} (ho : o.op = .assign x) (hx : ρ x = v) : (execOp ρ o).run P w = .ok (.value v) w := by
  unfold execOp; rw [ho]; subst hx; rfl
theorem op_slice {P : Program} {w : World} {o : Oper} {ρ : Operand → Value} {t : TypeId} {x : Operand} {a b c : Option Operand} {p v : Value} {a' b' c' : Option Value} (ho : o.op = .slice t x a b c) (hx : ρ x = p) (ha : a.map ρ = a') (hb : b.map ρ = b') (hc : c.map ρ = c') (h : (Instr.sliceAt t p a' b' c').run P w = .ok v w) : (execOp ρ o).run P w = .ok (.value v) w := by
  unfold execOp; rw [ho]; subst hx; subst ha; subst hb; subst hc; simp only [Sem.run_bind, h]; rfl
theorem op_fieldv {P : Program} {w : World} {o : Oper} {ρ : Operand → Value} {t : TypeId} {x : Operand} {i : Nat} {p v : Value} (ho : o.op = .field t x i) (hx : ρ x = p) (h : (Instr.field t p i).run P w = .ok v w) : (execOp ρ o).run P w = .ok (.value v) w := by
  unfold execOp; rw [ho]; subst hx; simp only [Sem.run_bind, h]; rfl

def JP (T : Nat → Value) (E : Nat) (A B : World → Prop) (D : Nat → Bool) (f : Nat → Value) (w : World) : Prop :=
  (∀ i, D i = true → f i = T i) ∧ (D E = false → A w) ∧ (D E = true → B w)
theorem jp_start {T : Nat → Value} {E : Nat} {A B : World → Prop} {w : World} (h : A w) (f : Nat → Value) : JP T E A B (fun _ => false) f w :=
  ⟨fun i h => by simp at h, fun _ => h, fun h => by simp at h⟩
theorem jp_pure {T : Nat → Value} {E : Nat} {A B : World → Prop} {D : Nat → Bool} {f : Nat → Value} {w : World} (h : JP T E A B D f w) {i : Nat} {v : Value} (hi : i ≠ E) (hv : v = T i) : JP T E A B (upd D i) (updf f i v) w := by
  refine ⟨fun j hj => ?_, fun hE => h.2.1 (by rw [upd_ne _ _ _ (fun e => hi e.symm)] at hE; exact hE), fun hE => h.2.2 (by rw [upd_ne _ _ _ (fun e => hi e.symm)] at hE; exact hE)⟩
  by_cases e : j = i
  · subst e; rw [updf_at]; exact hv
  · rw [updf_ne _ _ _ _ e]; rw [upd_ne _ _ _ e] at hj; exact h.1 j hj
theorem jp_eff {T : Nat → Value} {E : Nat} {A B : World → Prop} {D : Nat → Bool} {f : Nat → Value} {w w' : World} (h : JP T E A B D f w) {v : Value} (hv : v = T E) (hB : B w') : JP T E A B (upd D E) (updf f E v) w' := by
  refine ⟨fun j hj => ?_, fun (hE : upd D E E = false) => absurd hE (by rw [upd_at]; decide), fun _ => hB⟩
  by_cases e : j = E
  · subst e; rw [updf_at]; exact hv
  · rw [updf_ne _ _ _ _ e]; rw [upd_ne _ _ _ e] at hj; exact h.1 j hj

/-- region_fill, of the frame that stands there at the start alone. -/
theorem region_fill0 {P : Program} {ops : Array Oper} {Q : Exit → Act → World → Prop} {id : Nat} {a : Act} {w : World} (l : List (Nat × Tmp)) (J : (Nat → Bool) → (Nat → Value) → World → Prop) {F : (Nat → Value) → Act} (hF : ∀ f, fill a f l = F f) (hm : P.follows .mixedOrders = true) (hac : edges ops = true)
    (hf : F (fun i => (a.tmps[(l.lookup i).getD 0]?).getD undef) = a) (h0 : J (fun _ => false) (fun i => (a.tmps[(l.lookup i).getD 0]?).getD undef) w.drew) (hs : ∀ F', (∀ f, F' f = F f) → AllFrom (StepF P ops Q F' J) 0 ops.toList)
    (he : ∀ D f w, J D f w → (∀ i, i < ops.size → D i = true) → Q .normal (F f) w) : (Code.region id ops true).wp P Q a w := by
  refine region_inv (fun D a' w' => ∃ f, a' = F f ∧ J D f w') hm hac ⟨_, hf.symm, h0⟩ (AllFrom.mono (fun i o h D a' w' hI hD hdep K hK => ?_) (hs F fun _ => rfl)) (fun D a' w' hI hall => ?_)
  · obtain ⟨f, rfl, hJ⟩ := hI
    exact h D f w' hJ hD hdep K (fun f' w'' hJ' => hK _ _ ⟨f', rfl, hJ'⟩)
  · obtain ⟨f, rfl, hJ⟩ := hI
    exact he D f w' hJ hall
/-- JP, where the last operation S writes a slot that is read ahead of it: it holds v0 till then. -/
def JPW (T : Nat → Value) (E S : Nat) (v0 : Value) (A B : World → Prop) (D : Nat → Bool) (f : Nat → Value) (w : World) : Prop :=
  JP T E A B D f w ∧ (D S = false → f S = v0) ∧ (D S = true → ∀ i, i < S → D i = true)
theorem jpw_start {T : Nat → Value} {E S : Nat} {v0 : Value} {A B : World → Prop} {w : World} (h : A w) {f : Nat → Value} (hv : f S = v0) : JPW T E S v0 A B (fun _ => false) f w := ⟨jp_start h f, fun _ => hv, fun h => by simp at h⟩
theorem jpw_pure {T : Nat → Value} {E S : Nat} {v0 : Value} {A B : World → Prop} {D : Nat → Bool} {f : Nat → Value} {w : World} (h : JPW T E S v0 A B D f w) {i : Nat} {v : Value} (hi : i ≠ E) (hs : i ≠ S) (hv : v = T i) : JPW T E S v0 A B (upd D i) (updf f i v) w := by
  refine ⟨jp_pure h.1 hi hv, fun hS => ?_, fun hS j hj => ?_⟩
  · rw [upd_ne _ _ _ (fun e => hs e.symm)] at hS; rw [updf_ne _ _ _ _ (fun e => hs e.symm)]; exact h.2.1 hS
  · rw [upd_ne _ _ _ (fun e => hs e.symm)] at hS
    by_cases e : j = i
    · subst e; exact upd_at _ _
    · rw [upd_ne _ _ _ e]; exact h.2.2 hS j hj
theorem jpw_eff {T : Nat → Value} {E S : Nat} {v0 : Value} {A B : World → Prop} {D : Nat → Bool} {f : Nat → Value} {w w' : World} (h : JPW T E S v0 A B D f w) (hES : S ≠ E) {v : Value} (hv : v = T E) (hB : B w') : JPW T E S v0 A B (upd D E) (updf f E v) w' := by
  refine ⟨jp_eff h.1 hv hB, fun hS => ?_, fun hS j hj => ?_⟩
  · rw [upd_ne _ _ _ hES] at hS; rw [updf_ne _ _ _ _ hES]; exact h.2.1 hS
  · rw [upd_ne _ _ _ hES] at hS
    by_cases e : j = E
    · subst e; exact upd_at _ _
    · rw [upd_ne _ _ _ e]; exact h.2.2 hS j hj
theorem jpw_last {T : Nat → Value} {E S : Nat} {v0 : Value} {A B : World → Prop} {D : Nat → Bool} {f : Nat → Value} {w : World} (h : JPW T E S v0 A B D f w) {v : Value} (hi : S ≠ E) (hv : v = T S) (hall : ∀ i, i < S → D i = true) : JPW T E S v0 A B (upd D S) (updf f S v) w := by
  refine ⟨jp_pure h.1 hi hv, fun (hS : upd D S S = false) => absurd hS (by rw [upd_at]; decide), fun _ j hj => ?_⟩
  rw [upd_ne _ _ _ (by omega)]; exact hall j hj
theorem jpw_v0 {T : Nat → Value} {E S : Nat} {v0 : Value} {A B : World → Prop} {D : Nat → Bool} {f : Nat → Value} {w : World} (h : JPW T E S v0 A B D f w) {i : Nat} (hi : i < S) (hD : D i = false) : f S = v0 := by
  refine h.2.1 ?_
  cases hS : D S with
  | false => rfl
  | true => rw [h.2.2 hS i hi] at hD; cases hD
/-! Guards; a region whose last operation is its one effect. -/
theorem wanted_on {o : Oper} {ys : Nat → Option Bool} {k : Nat} {b : Bool} (hg : o.guard = some (k, b)) (hy : ys k = some b) : Region.wanted o ys = true := by simp [Region.wanted, hg, hy]
theorem wanted_off {o : Oper} {ys : Nat → Option Bool} {k : Nat} {b c : Bool} (hg : o.guard = some (k, b)) (hy : ys k = some c) (h : c ≠ b) : Region.wanted o ys = false := by simp [Region.wanted, hg, hy, h]
theorem yields_of {ops : Array Oper} {tmps : Array Value} {j : Nat} {v : Value} {b : Bool} (h : ((ops[j]?).bind (·.dst)).bind (tmps[·]?) = some v) (hv : v = .bool b) : yielded ops tmps j = some b := by
  unfold yielded; rw [h, hv]
theorem stepF_off {P : Program} {w : World} {o : Oper} {K : Act → World → Prop} {Q : Exit → Act → World → Prop} {ys : Nat → Option Bool} {F : (Nat → Value) → Act} {f f' : Nat → Value} (hw : Region.wanted o ys = false)
    (hf : (F f).put o.dst undef = F f') (hK : K (F f') w) : if Region.wanted o ys = true then Oper.wp P o (F f) w K Q else K ((F f).put o.dst undef) w := by
  rw [if_neg (by rw [hw]; decide), hf]; exact hK
theorem stepF_valW {P : Program} {w w' : World} {o : Oper} {K : Act → World → Prop} {Q : Exit → Act → World → Prop} {E : Prop} {ys : Nat → Option Bool} {F : (Nat → Value) → Act} {f f' : Nat → Value} {v : Value} (hw : Region.wanted o ys = true)
    (h : (execOp (F f).eval o).run P w = .ok (.value v) w') (hf : (F f).put o.dst v = F f') (hK : K (F f') w') : if Region.wanted o ys = true then Oper.wp P o (F f) w K Q else E := by
  rw [if_pos hw]
  unfold Oper.wp; rw [h, Oper.upon_value, hf]; exact hK
theorem stepF_callW {P : Program} {w : World} {o : Oper} {K : Act → World → Prop} {Q : Exit → Act → World → Prop} {E : Prop} {ys : Nat → Option Bool} {F : (Nat → Value) → Act} {f : Nat → Value} {g : FuncId} {args : Array Value} {R : Ending → World → Prop} (hw : Region.wanted o ys = true)
    (h : (execOp (F f).eval o).run P w = .ok (.enter g args) w) (hc : Calls P g args w R) (hK : ∀ e w', R e w' → ∃ v, e = .returned v ∧ K ((F f).put o.dst v) w') : if Region.wanted o ys = true then Oper.wp P o (F f) w K Q else E := by
  rw [if_pos hw]
  unfold Oper.wp; rw [h, Oper.upon_enter]
  refine hc.mono ?_
  intro e w' hR
  obtain ⟨v, rfl, hk⟩ := hK e w' hR
  exact hk
theorem op_pick {P : Program} {w : World} {o : Oper} {ρ : Operand → Value} {c x y : Operand} {b : Bool} {v : Value} (ho : o.op = .pick c x y) (hc : ρ c = .bool b) (hv : (if b then ρ x else ρ y) = v) : (execOp ρ o).run P w = .ok (.value v) w := by
  unfold execOp; rw [ho]; subst hv; simp only [hc]; cases b <;> rfl
theorem op_makeFunc {P : Program} {w : World} {o : Oper} {ρ : Operand → Value} {fn : Fn} {fs cs : Array Operand} {fs' cs' : Array Value} {v : Value} (ho : o.op = .makeFunc fn fs cs) (hfs : fs.map ρ = fs') (hcs : cs.map ρ = cs') (h : (Instr.makeFunc fn fs' cs').run P w = .ok v w) : (execOp ρ o).run P w = .ok (.value v) w := by
  unfold execOp; rw [ho]; subst hfs; subst hcs; simp only [Sem.run_bind, h]; rfl
theorem op_unop {P : Program} {w : World} {o : Oper} {ρ : Operand → Value} {u : UnOp} {t : TypeId} {x : Operand} {p v : Value} (ho : o.op = .unOp u t x) (hx : ρ x = p) (h : (Op.unary u p).run P w = .ok v w) : (execOp ρ o).run P w = .ok (.value v) w := by
  unfold execOp; rw [ho]; subst hx; simp only [Sem.run_bind, h]; rfl
/-- Results known ahead (T); the last operation E takes the world from A to B. -/
def JL (T : Nat → Value) (E : Nat) (A B : World → Prop) (D : Nat → Bool) (f : Nat → Value) (w : World) : Prop :=
  (∀ i, i ≠ E → D i = true → f i = T i) ∧ (D E = false → A w) ∧ (D E = true → (∀ i, i < E → D i = true) ∧ B w)
theorem jl_start {T : Nat → Value} {E : Nat} {A B : World → Prop} {w : World} (h : A w) (f : Nat → Value) : JL T E A B (fun _ => false) f w :=
  ⟨fun i _ h => by simp at h, fun _ => h, fun h => by simp at h⟩
theorem jl_live {T : Nat → Value} {E : Nat} {A B : World → Prop} {D : Nat → Bool} {f : Nat → Value} {w : World} (h : JL T E A B D f w) {i : Nat} (hi : i < E) (hD : D i = false) : D E = false ∧ A w := by
  cases hE : D E with
  | false => exact ⟨rfl, h.2.1 hE⟩
  | true => rw [(h.2.2 hE).1 i hi] at hD; cases hD
theorem jl_step {T : Nat → Value} {E : Nat} {A B : World → Prop} {D : Nat → Bool} {f : Nat → Value} {w w' : World} (h : JL T E A B D f w) {i : Nat} (hi : i < E) (hD : D i = false) {v : Value} (hv : v = T i) (hA : A w') : JL T E A B (upd D i) (updf f i v) w' := by
  obtain ⟨h1, _⟩ := jl_live h hi hD
  refine ⟨fun j hj hDj => ?_, fun _ => hA, fun hE => ?_⟩
  · by_cases e : j = i
    · subst e; rw [updf_at]; exact hv
    · rw [updf_ne _ _ _ _ e]; rw [upd_ne _ _ _ e] at hDj; exact h.1 j hj hDj
  · rw [upd_ne _ _ _ (by omega), h1] at hE; cases hE
theorem jl_pure {T : Nat → Value} {E : Nat} {A B : World → Prop} {D : Nat → Bool} {f : Nat → Value} {w : World} (h : JL T E A B D f w) {i : Nat} (hi : i < E) (hD : D i = false) {v : Value} (hv : v = T i) : JL T E A B (upd D i) (updf f i v) w := jl_step h hi hD hv (jl_live h hi hD).2
theorem jl_last {T : Nat → Value} {E : Nat} {A B : World → Prop} {D : Nat → Bool} {f : Nat → Value} {w w' : World} (h : JL T E A B D f w) (hall : ∀ i, i < E → D i = true) (hB : B w') : JL T E A B (upd D E) f w' := by
  refine ⟨fun j hj hDj => by rw [upd_ne _ _ _ hj] at hDj; exact h.1 j hj hDj, fun (hE : upd D E E = false) => absurd hE (by rw [upd_at]; decide), fun _ => ⟨fun i hi => by rw [upd_ne _ _ _ (by omega)]; exact hall i hi, hB⟩⟩
end Go.Proofs.YthgcmficmodhiaaGreatDoor.RegI
