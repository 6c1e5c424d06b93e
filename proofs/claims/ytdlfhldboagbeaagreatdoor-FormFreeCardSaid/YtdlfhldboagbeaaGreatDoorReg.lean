/- A region that draws its order, by an invariant: whatever has been carried out so far (D), the frame and the world are as the invariant says; one step an operation, not one way an order. A region that draws its order and only adds to memory until its last operation: each result has a property of its own, that more memory does not take away. A region that draws its order: results that are known ahead (T), and one operation (E) that changes the world from A to B. -/
import Derived.Calls
import Derived.Orders
import Derived.RegionTactic
import Derived.OrdersHeld
import Derived.WalkKit
import Derived.Below
namespace Go.Proofs.YtdlfhldboagbeaaGreatDoor.RegI
set_option linter.unusedVariables false

/-- D, and i besides. -/
def upd (D : Nat → Bool) (i : Nat) : Nat → Bool := fun j => j == i || D j
theorem upd_at (D : Nat → Bool) (i : Nat) : upd D i i = true := by simp [upd]
theorem upd_ne (D : Nat → Bool) (i j : Nat) (h : j ≠ i) : upd D i j = D j := by simp [upd, h]
theorem upd_lit (D : Nat → Bool) (i j : Nat) : upd D i j = (j == i || D j) := rfl

/-- The results so far (f i: of operation i), laid into the frame; l: which slot is whose. -/
def fill (a : Act) (f : Nat → Value) : List (Nat × Tmp) → Act
  | [] => a
  | (i, s) :: l => (fill a f l).put (some s) (f i)
def updf (f : Nat → Value) (i : Nat) (v : Value) : Nat → Value := fun j => bif j == i then v else f j
theorem updf_at (f : Nat → Value) (i : Nat) (v : Value) : updf f i v i = v := by simp [updf]
theorem updf_ne (f : Nat → Value) (i j : Nat) (v : Value) (h : j ≠ i) : updf f i v j = f j := by
  have : (j == i) = false := by simp [h]
  simp only [updf, this, cond_false]

def AllFrom (p : Nat → Oper → Prop) : Nat → List Oper → Prop
  | _, [] => True
  | n, o :: r => p n o ∧ AllFrom p (n + 1) r
theorem AllFrom.at {p : Nat → Oper → Prop} : ∀ {l : List Oper} {n : Nat}, AllFrom p n l → ∀ i o, l[i]? = some o → p (n + i) o
  | [], _, _, i, o, h => by simp at h
  | x :: l, n, ⟨h1, h2⟩, i, o, h => by
    cases i with
    | zero => simp at h; subst h; exact h1
    | succ i => simp at h; have := AllFrom.at h2 i o h; rw [show n + (i + 1) = n + 1 + i by omega]; exact this

def edges (ops : Array Oper) : Bool := (List.range ops.size).all fun i => ((ops[i]?).map fun o => o.after.all fun e => decide (e.on < i) || !Region.binds .any e).getD true

variable {P : Program} {ops : Array Oper} {Q : Exit → Act → World → Prop}

def cnt (L : Array Bool) : Nat := L.toList.countP (fun b => !b)
theorem cnt_set (L : Array Bool) (i : Nat) (h : L.getD i true = false) : cnt (L.setIfInBounds i true) + 1 = cnt L := by
  unfold cnt
  obtain ⟨l⟩ := L
  simp only [List.setIfInBounds_toArray]
  have h' : l[i]? = some false := by
    have : (l.toArray)[i]?.getD true = false := by rw [← Array.getD_eq_getD_getElem?]; exact h
    simp at this
    cases e : l[i]? with
    | none => rw [e] at this; simp at this
    | some b => rw [e] at this; simp at this; rw [this]
  clear h
  induction l generalizing i with
  | nil => simp at h'
  | cons b l ih =>
    cases i with
    | zero => simp at h'; subst h'; simp
    | succ i =>
      simp at h'
      have := ih i h'
      simp only [List.set_cons_succ, List.countP_cons]
      omega

theorem ready_mem {i : Nat} {L : Array Bool} (h : i ∈ Region.ready .any ops L) : i < ops.size ∧ L.getD i true = false ∧ ∀ o, ops[i]? = some o → ∀ e ∈ o.after, Region.binds .any e = true → L.getD e.on false = true := by
  unfold Region.ready at h
  simp only [List.mem_filter, List.mem_range, Bool.and_eq_true, Bool.not_eq_true'] at h
  refine ⟨h.1, h.2.1, fun o ho e he hb => ?_⟩
  have h2 := h.2.2
  rw [ho] at h2
  simp only [Option.map_some, Option.getD_some, Array.all_eq_true_iff_forall_mem] at h2
  have := h2 e he
  rw [hb] at this
  simpa using this

theorem ready_nil (hac : edges ops = true) {L : Array Bool} (hz : L.size = ops.size) (h : Region.ready .any ops L = []) : ∀ i, i < ops.size → L.getD i true = true := by
  intro i
  induction i using Nat.strongRecOn with
  | _ i ih =>
    intro hi
    cases hL : L.getD i true with
    | true => rfl
    | false =>
      exfalso
      have hm : i ∈ Region.ready .any ops L := by
        unfold Region.ready
        simp only [List.mem_filter, List.mem_range, Bool.and_eq_true, Bool.not_eq_true']
        refine ⟨hi, hL, ?_⟩
        have ho : ops[i]? = some ops[i] := by simp [hi]
        rw [ho]
        simp only [Option.map_some, Option.getD_some, Array.all_eq_true_iff_forall_mem]
        intro e he
        cases hb : Region.binds .any e with
        | false => simp
        | true =>
          unfold edges at hac
          simp only [List.all_eq_true, List.mem_range] at hac
          have h1 := hac i hi
          rw [ho] at h1
          simp only [Option.map_some, Option.getD_some, Array.all_eq_true_iff_forall_mem] at h1
          have h2 := h1 e he
          rw [hb] at h2
          simp only [Bool.not_true, Bool.or_false, decide_eq_true_eq] at h2
          have h3 := ih e.on h2 (by omega)
          have h4 : L.getD e.on false = true := by
            have hl : e.on < L.size := by omega
            simp only [Array.getD, hl, dif_pos] at h3 ⊢
            exact h3
          rw [h4]; simp
      rw [h] at hm
      cases hm


/-- What one step is asked: run operation i under any post that the invariant behind it pays. -/
def Step (P : Program) (ops : Array Oper) (Q : Exit → Act → World → Prop) (I : (Nat → Bool) → Act → World → Prop) (i : Nat) (o : Oper) : Prop :=
  ∀ (D : Nat → Bool) (a : Act) (w : World), I D a w → D i = false → (∀ e ∈ o.after, Region.binds .any e = true → D e.on = true) →
    ∀ K : Act → World → Prop, (∀ a' w', I (upd D i) a' w' → K a' w') → if Region.wanted o (yielded ops a.tmps) = true then Oper.wp P o a w K Q else K (a.put o.dst undef) w

theorem any_inv (hac : edges ops = true) (I : (Nat → Bool) → Act → World → Prop) (hs : AllFrom (Step P ops Q I) 0 ops.toList)
    (he : ∀ D a w, I D a w → (∀ i, i < ops.size → D i = true) → Q .normal a w) : ∀ (n : Nat) (L : Array Bool) (a : Act) (w : World), L.size = ops.size → cnt L ≤ n → I (fun i => L.getD i false) a w → wpAny P .any ops Q n L a w := by
  have hend : ∀ (L : Array Bool) (a : Act) (w : World), L.size = ops.size → I (fun i => L.getD i false) a w → Region.ready .any ops L = [] → Q .normal a w := fun L a w hz hI hr =>
    he _ a w hI fun i hi => by
      have := ready_nil hac hz hr i hi
      have hl : i < L.size := by omega
      simp only [Array.getD, hl, dif_pos] at this ⊢
      exact this
  intro n
  induction n with
  | zero =>
    intro L a w hz hc hI
    have hr : Region.ready .any ops L = [] := by
      cases h : Region.ready .any ops L with
      | nil => rfl
      | cons i r =>
        have := cnt_set L i (ready_mem (h ▸ List.mem_cons_self)).2.1
        omega
    exact ⟨hr, hend L a w hz hI hr⟩
  | succ n ih =>
    intro L a w hz hc hI
    refine ⟨hend L a w hz hI, fun i hi => ?_⟩
    obtain ⟨h1, h2, h3⟩ := ready_mem hi
    have ho : ops[i]? = some ops[i] := by simp [h1]
    have hst := AllFrom.at hs i ops[i] (by rw [← ho, Array.getElem?_toList])
    rw [Nat.zero_add] at hst
    have hl : i < L.size := by omega
    exact wpOp_step ho (fun K' hK' => by
      have hq := hst _ a w hI (by simp only [Array.getD, hl, dif_pos] at h2 ⊢; exact h2) (fun e he hb => h3 _ ho e he hb) K' (fun a' w' h' => hK' _ _ (by
      have hc' := cnt_set L i h2
      refine ih _ a' w' (by simp [hz]) (by omega) ?_
      have : (fun j => (L.setIfInBounds i true).getD j false) = upd (fun j => L.getD j false) i := by
        funext j
        simp only [upd, Array.getD_eq_getD_getElem?, Array.getElem?_setIfInBounds]
        by_cases e : i = j
        · subst e; simp [hl]
        · have : (j == i) = false := by simp; omega
          simp [e, this]
      rw [this]; exact h'))
      exact hq)

/-- One step, the frame given (F) by what has been carried out. -/
def StepF (P : Program) (ops : Array Oper) (Q : Exit → Act → World → Prop) (F : (Nat → Value) → Act) (J : (Nat → Bool) → (Nat → Value) → World → Prop) (i : Nat) (o : Oper) : Prop :=
  ∀ (D : Nat → Bool) (f : Nat → Value) (w : World), J D f w → D i = false → (∀ e ∈ o.after, Region.binds .any e = true → D e.on = true) →
    ∀ K : Act → World → Prop, (∀ f' w', J (upd D i) f' w' → K (F f') w') → if Region.wanted o (yielded ops (F f).tmps) = true then Oper.wp P o (F f) w K Q else K ((F f).put o.dst undef) w
theorem AllFrom.mono {p q : Nat → Oper → Prop} (h : ∀ i o, p i o → q i o) : ∀ {l : List Oper} {n : Nat}, AllFrom p n l → AllFrom q n l
  | [], _, _ => trivial
  | _ :: _, _, ⟨h1, h2⟩ => ⟨h _ _ h1, AllFrom.mono h h2⟩

/-- A region that draws its order, by an invariant I over what has been carried out. -/
theorem region_inv {id : Nat} {a : Act} {w : World} (I : (Nat → Bool) → Act → World → Prop) (hm : P.follows .mixedOrders = true) (hac : edges ops = true)
    (h0 : I (fun _ => false) a w.drew) (hs : AllFrom (Step P ops Q I) 0 ops.toList) (he : ∀ D a w, I D a w → (∀ i, i < ops.size → D i = true) → Q .normal a w) : (Code.region id ops true).wp P Q a w := by
  refine wp_region_any hm (any_inv hac I hs he ops.size _ a _ (by simp) ?_ ?_)
  · unfold cnt; have := List.countP_le_length (p := fun b => !b) (l := (Array.replicate ops.size false).toList); simpa using this
  · have : (fun i => (Array.replicate ops.size false).getD i false) = fun _ => false := by
      funext i
      simp only [Array.getD_eq_getD_getElem?, Array.getElem?_replicate]
      split <;> rfl
    rw [this]; exact h0
/-- The same; the frame is F of the results so far: the first one with these laid in (l: operation and slot). -/
theorem region_fill {id : Nat} {a : Act} {w : World} (l : List (Nat × Tmp)) (J : (Nat → Bool) → (Nat → Value) → World → Prop) {F : (Nat → Value) → Act} (hF : ∀ f, fill a f l = F f) (hm : P.follows .mixedOrders = true) (hac : edges ops = true)
    (hf : F (fun i => (a.tmps[(l.lookup i).getD 0]?).getD undef) = a) (h0 : ∀ f, J (fun _ => false) f w.drew) (hs : ∀ F', (∀ f, F' f = F f) → AllFrom (StepF P ops Q F' J) 0 ops.toList)
    (he : ∀ D f w, J D f w → (∀ i, i < ops.size → D i = true) → Q .normal (F f) w) : (Code.region id ops true).wp P Q a w := by
  refine region_inv (fun D a' w' => ∃ f, a' = F f ∧ J D f w') hm hac ⟨_, hf.symm, h0 _⟩ (AllFrom.mono (fun i o h D a' w' hI hD hdep K hK => ?_) (hs F fun _ => rfl)) (fun D a' w' hI hall => ?_)
  · obtain ⟨f, rfl, hJ⟩ := hI
    exact h D f w' hJ hD hdep K (fun f' w'' hJ' => hK _ _ ⟨f', rfl, hJ'⟩)
  · obtain ⟨f, rfl, hJ⟩ := hI
    exact he D f w' hJ hall
/-! The steps, an operation each. -/
theorem op_move {P : Program} {w : World} {o : Oper} {ρ : Operand → Value} {x : Operand} {v : Value} (ho : o.op = .move x) (hx : ρ x = v) : (execOp ρ o).run P w = .ok (.value v) w := by
  unfold execOp; rw [ho]; subst hx; rfl
theorem op_load {P : Program} {w : World} {o : Oper} {ρ : Operand → Value} {t : TypeId} {x : Operand} {p v : Value} (ho : o.op = .load t x) (hx : ρ x = p) (h : (Instr.loadAt t p).run P w = .ok v w) : (execOp ρ o).run P w = .ok (.value v) w := by
  unfold execOp; rw [ho]; subst hx; simp only [Sem.run_bind, h]; rfl
theorem op_store {P : Program} {w w' : World} {o : Oper} {ρ : Operand → Value} {t : TypeId} {x y : Operand} {p v : Value} (ho : o.op = .store t x y) (hx : ρ x = p) (hy : ρ y = v) (h : (Instr.storeAt t p v).run P w = .ok () w') : (execOp ρ o).run P w = .ok .skip w' := by
  unfold execOp; rw [ho]; subst hx; subst hy; simp only [Sem.run_bind, h]; rfl
theorem op_alloc {P : Program} {w w' : World} {o : Oper} {ρ : Operand → Value} {t : TypeId} {v : Value} (ho : o.op = .alloc t) (h : (Instr.alloc t true (.tuple #[])).run P w = .ok v w') : (execOp ρ o).run P w = .ok (.value v) w' := by
  unfold execOp; rw [ho]; simp only [Sem.run_bind, h]; rfl
theorem op_field {P : Program} {w : World} {o : Oper} {ρ : Operand → Value} {t : TypeId} {x : Operand} {i : Nat} {p v : Value} (ho : o.op = .fieldAddr t x i) (hx : ρ x = p) (h : (Instr.fieldAt t p i).run P w = .ok v w) : (execOp ρ o).run P w = .ok (.value v) w := by
  unfold execOp; rw [ho]; subst hx; simp only [Sem.run_bind, h]; rfl
theorem op_buildSlice {P : Program} {w w' : World} {o : Oper} {ρ : Operand → Value} {t : TypeId} {n : Nat} {ps : Array (Nat × Operand)} {qs : Array (Nat × Value)} {v : Value} (ho : o.op = .buildSlice t n ps) (hx : ps.map (fun (i, x) => (i, ρ x)) = qs) (h : (Instr.buildSlice t n qs).run P w = .ok v w') : (execOp ρ o).run P w = .ok (.value v) w' := by
  unfold execOp; rw [ho]; subst hx; simp only [Sem.run_bind, h]; rfl
theorem op_enter {P : Program} {w : World} {o : Oper} {a : Act} {c : Call} {g : FuncId} {xs : Array Value} (ho : o.op = .call c) (hc : c.callee = .value (.func g)) (hx : c.args.map a.eval = xs) (he : ∀ (args : Array Value) (w : World), (callFunc g args).run P w = .ok (.enter g args) w) : (execOp a.eval o).run P w = .ok (.enter g xs) w := by
  unfold execOp resolve; rw [ho]; simp only [hc, hx]; simp [go_sem, Act.eval, Deferred.ofValue, invoke, he]
theorem stepF_val {P : Program} {w w' : World} {o : Oper} {K : Act → World → Prop} {Q : Exit → Act → World → Prop} {E : Prop} {ys : Nat → Option Bool} {F : (Nat → Value) → Act} {f f' : Nat → Value} {v : Value} (hg : o.guard = none)
    (h : (execOp (F f).eval o).run P w = .ok (.value v) w') (hf : (F f).put o.dst v = F f') (hK : K (F f') w') : if Region.wanted o ys = true then Oper.wp P o (F f) w K Q else E := by
  rw [if_pos (by simp [Region.wanted, hg])]
  unfold Oper.wp; rw [h, Oper.upon_value, hf]; exact hK
theorem stepF_skip {P : Program} {w w' : World} {o : Oper} {K : Act → World → Prop} {Q : Exit → Act → World → Prop} {E : Prop} {ys : Nat → Option Bool} {F : (Nat → Value) → Act} {f : Nat → Value} (hg : o.guard = none) (hd : o.dst = none)
    (h : (execOp (F f).eval o).run P w = .ok .skip w') (hK : K (F f) w') : if Region.wanted o ys = true then Oper.wp P o (F f) w K Q else E := by
  rw [if_pos (by simp [Region.wanted, hg])]
  unfold Oper.wp; rw [h, Oper.upon_skip, hd]; exact hK
theorem stepF_call {P : Program} {w : World} {o : Oper} {K : Act → World → Prop} {Q : Exit → Act → World → Prop} {E : Prop} {ys : Nat → Option Bool} {F : (Nat → Value) → Act} {f f' : Nat → Value} {v : Value} {g : FuncId} {args : Array Value} {S : World → Prop} (hg : o.guard = none)
    (h : (execOp (F f).eval o).run P w = .ok (.enter g args) w) (hc : Calls P g args w fun e w' => e = .returned v ∧ S w') (hf : (F f).put o.dst v = F f') (hK : ∀ w', S w' → K (F f') w') : if Region.wanted o ys = true then Oper.wp P o (F f) w K Q else E := by
  rw [if_pos (by simp [Region.wanted, hg])]
  unfold Oper.wp; rw [h, Oper.upon_enter]
  refine hc.mono ?_
  rintro e w' ⟨rfl, hS⟩
  rw [← hf] at hK
  exact hK w' hS
theorem stepF_callR {P : Program} {w : World} {o : Oper} {K : Act → World → Prop} {Q : Exit → Act → World → Prop} {E : Prop} {ys : Nat → Option Bool} {F : (Nat → Value) → Act} {f : Nat → Value} {g : FuncId} {args : Array Value} {R : Ending → World → Prop} (hg : o.guard = none)
    (h : (execOp (F f).eval o).run P w = .ok (.enter g args) w) (hc : Calls P g args w R) (hK : ∀ e w', R e w' → ∃ v, e = .returned v ∧ K ((F f).put o.dst v) w') : if Region.wanted o ys = true then Oper.wp P o (F f) w K Q else E := by
  rw [if_pos (by simp [Region.wanted, hg])]
  unfold Oper.wp; rw [h, Oper.upon_enter]
  refine hc.mono ?_
  intro e w' hR
  obtain ⟨v, rfl, hk⟩ := hK e w' hR
  exact hk
/-- What an operation stands behind is done. -/
theorem done {D : Nat → Bool} {o : Oper} (h : ∀ e ∈ o.after, Region.binds .any e = true → D e.on = true) (j : Nat) (hj : (o.after.any fun e => e.on == j && Region.binds .any e) = true) : D j = true := by
  rw [Array.any_eq_true'] at hj
  obtain ⟨e, he, h2⟩ := hj
  rw [Bool.and_eq_true] at h2
  have := h e he h2.2
  rw [beq_iff_eq] at h2
  rw [← h2.1]; exact this
end Go.Proofs.YtdlfhldboagbeaaGreatDoor.RegI
namespace Go.Proofs.YtdlfhldboagbeaaGreatDoor.RegI
open Go.RowKit
set_option linter.unusedVariables false

theorem op_index {P : Program} {w : World} {o : Oper} {ρ : Operand → Value} {t : TypeId} {x y : Operand} {p q v : Value} (ho : o.op = .indexAddr t x y) (hx : ρ x = p) (hy : ρ y = q) (h : (Instr.indexAt t p q).run P w = .ok v w) : (execOp ρ o).run P w = .ok (.value v) w := by
  unfold execOp; rw [ho]; subst hx; subst hy; simp only [Sem.run_bind, h]; rfl
theorem op_bin {P : Program} {w : World} {o : Oper} {ρ : Operand → Value} {b : BinOp} {t u : TypeId} {x y : Operand} {p q v : Value} (ho : o.op = .binOp b t x y u) (hx : ρ x = p) (hy : ρ y = q) (h : (do eqGuard b t x y p q; binOp b t p q : Sem Value).run P w = .ok v w) : (execOp ρ o).run P w = .ok (.value v) w := by
  unfold execOp; rw [ho]; subst hx; subst hy; simp only [Sem.run_bind] at h ⊢; rw [h]; rfl
theorem op_build {P : Program} {w : World} {o : Oper} {ρ : Operand → Value} {t : TypeId} {ps : Array (Nat × Operand)} {qs : Array (Nat × Value)} {v : Value} (ho : o.op = .build t ps) (hx : ps.map (fun (i, x) => (i, ρ x)) = qs) (h : (Instr.build t qs).run P w = .ok v w) : (execOp ρ o).run P w = .ok (.value v) w := by
  unfold execOp; rw [ho]; subst hx; simp only [Sem.run_bind, h]; rfl

def JM (W0 : World) (last : Nat) (V : Nat → Value → World → Prop) (Fin : (Nat → Value) → World → Prop) (D : Nat → Bool) (f : Nat → Value) (w : World) : Prop :=
  (D last = false ∧ Below W0.heap.size W0 w ∧ ∀ i, i < last → D i = true → V i (f i) w) ∨ (D last = true ∧ (∀ i, i < last → D i = true) ∧ Fin f w)
theorem jm_start {W0 W : World} {last : Nat} {V : Nat → Value → World → Prop} {Fin : (Nat → Value) → World → Prop} (h : Below W0.heap.size W0 W) (f : Nat → Value) : JM W0 last V Fin (fun _ => false) f W.drew :=
  .inl ⟨rfl, ⟨h.os, h.tape, h.output, h.size, h.block⟩, fun i _ h => by simp at h⟩
theorem jm_live {W0 : World} {last : Nat} {V : Nat → Value → World → Prop} {Fin : (Nat → Value) → World → Prop} {D : Nat → Bool} {f : Nat → Value} {w : World} (h : JM W0 last V Fin D f w) {i : Nat} (hi : i ≤ last) (hD : D i = false) : D last = false ∧ Below W0.heap.size W0 w ∧ ∀ i, i < last → D i = true → V i (f i) w := by
  rcases h with h | ⟨h1, h2, h3⟩
  · exact h
  · rcases Nat.lt_or_eq_of_le hi with hi | rfl
    · rw [h2 i hi] at hD; cases hD
    · rw [h1] at hD; cases hD
theorem jm_step {W0 : World} {last : Nat} {V : Nat → Value → World → Prop} {Fin : (Nat → Value) → World → Prop} {D : Nat → Bool} {f : Nat → Value} {w w' : World} (hm : ∀ i v w w', Below w.heap.size w w' → V i v w → V i v w') (h : JM W0 last V Fin D f w) {i : Nat} (hi : i < last) (hD : D i = false) {v : Value} (hb : Below w.heap.size w w') (hV : V i v w') : JM W0 last V Fin (upd D i) (updf f i v) w' := by
  obtain ⟨h1, h2, h3⟩ := jm_live h (Nat.le_of_lt hi) hD
  refine .inl ⟨by rw [upd_ne _ _ _ (by omega)]; exact h1, h2.trans (hb.mono h2.size), fun j hj hDj => ?_⟩
  by_cases e : j = i
  · subst e; rw [updf_at]; exact hV
  · rw [updf_ne _ _ _ _ e]; rw [upd_ne _ _ _ e] at hDj; exact hm _ _ _ _ hb (h3 j hj hDj)
theorem jm_last {W0 : World} {last : Nat} {V : Nat → Value → World → Prop} {Fin : (Nat → Value) → World → Prop} {D : Nat → Bool} {f : Nat → Value} {w : World} (hall : ∀ i, i < last → D i = true) (hF : Fin f w) : JM W0 last V Fin (upd D last) f w :=
  .inr ⟨upd_at _ _, fun i hi => by rw [upd_ne _ _ _ (by omega)]; exact hall i hi, hF⟩
theorem jm_end {W0 : World} {last : Nat} {V : Nat → Value → World → Prop} {Fin : (Nat → Value) → World → Prop} {D : Nat → Bool} {f : Nat → Value} {w : World} (h : JM W0 last V Fin D f w) (hD : D last = true) : Fin f w := by
  rcases h with ⟨h1, _⟩ | ⟨_, _, h⟩
  · rw [h1] at hD; cases hD
  · exact h
theorem b_ref (w : World) : Below w.heap.size w w := Below.refl _ _
end Go.Proofs.YtdlfhldboagbeaaGreatDoor.RegI
namespace Go.Proofs.YtdlfhldboagbeaaGreatDoor.RegI
open Go.RowKit
set_option linter.unusedVariables false

theorem op_assign {P : Program} {w : World} {o : Oper} {ρ : Operand → Value} {x : Operand} {v : Value} (ho : o.op = .assign x) (hx : ρ x = v) : (execOp ρ o).run P w = .ok (.value v) w := by
  unfold execOp; rw [ho]; subst hx; rfl
theorem op_slice {P : Program} {w : World} {o : Oper} {ρ : Operand → Value} {t : TypeId} {x : Operand} {a b c : Option Operand} {p v : Value} {a' b' c' : Option Value} (ho : o.op = .slice t x a b c) (hx : ρ x = p) (ha : a.map ρ = a') (hb : b.map ρ = b') (hc : c.map ρ = c') (h : (Instr.sliceAt t p a' b' c').run P w = .ok v w) : (execOp ρ o).run P w = .ok (.value v) w := by
  unfold execOp; rw [ho]; subst hx; subst ha; subst hb; subst hc; simp only [Sem.run_bind, h]; rfl
theorem op_fieldv {P : Program} {w : World} {o : Oper} {ρ : Operand → Value} {t : TypeId} {x : Operand} {i : Nat} {p v : Value} (ho : o.op = .field t x i) (hx : ρ x = p) (h : (Instr.field t p i).run P w = .ok v w) : (execOp ρ o).run P w = .ok (.value v) w := by
  unfold execOp; rw [ho]; subst hx; simp only [Sem.run_bind, h]; rfl

def JP (T : Nat → Value) (E : Nat) (A B : World → Prop) (D : Nat → Bool) (f : Nat → Value) (w : World) : Prop :=
  (∀ i, D i = true → f i = T i) ∧ (D E = false → A w) ∧ (D E = true → B w)
theorem jp_start {T : Nat → Value} {E : Nat} {A B : World → Prop} {w : World} (h : A w) (f : Nat → Value) : JP T E A B (fun _ => false) f w :=
  ⟨fun i h => by simp at h, fun _ => h, fun h => by simp at h⟩
theorem jp_pure {T : Nat → Value} {E : Nat} {A B : World → Prop} {D : Nat → Bool} {f : Nat → Value} {w : World} (h : JP T E A B D f w) {i : Nat} {v : Value} (hi : i ≠ E) (hv : v = T i) : JP T E A B (upd D i) (updf f i v) w := by
  refine ⟨fun j hj => ?_, fun hE => h.2.1 (by rw [upd_ne _ _ _ (fun e => hi e.symm)] at hE; exact hE), fun hE => h.2.2 (by rw [upd_ne _ _ _ (fun e => hi e.symm)] at hE; exact hE)⟩
  by_cases e : j = i
  · subst e; rw [updf_at]; exact hv
  · rw [updf_ne _ _ _ _ e]; rw [upd_ne _ _ _ e] at hj; exact h.1 j hj
theorem jp_eff {T : Nat → Value} {E : Nat} {A B : World → Prop} {D : Nat → Bool} {f : Nat → Value} {w w' : World} (h : JP T E A B D f w) {v : Value} (hv : v = T E) (hB : B w') : JP T E A B (upd D E) (updf f E v) w' := by
  refine ⟨fun j hj => ?_, fun (hE : upd D E E = false) => absurd hE (by rw [upd_at]; decide), fun _ => hB⟩
  by_cases e : j = E
  · subst e; rw [updf_at]; exact hv
  · rw [updf_ne _ _ _ _ e]; rw [upd_ne _ _ _ e] at hj; exact h.1 j hj

/-- region_fill, of the frame that stands there at the start alone. -/
theorem region_fill0 {P : Program} {ops : Array Oper} {Q : Exit → Act → World → Prop} {id : Nat} {a : Act} {w : World} (l : List (Nat × Tmp)) (J : (Nat → Bool) → (Nat → Value) → World → Prop) {F : (Nat → Value) → Act} (hF : ∀ f, fill a f l = F f) (hm : P.follows .mixedOrders = true) (hac : edges ops = true)
    (hf : F (fun i => (a.tmps[(l.lookup i).getD 0]?).getD undef) = a) (h0 : J (fun _ => false) (fun i => (a.tmps[(l.lookup i).getD 0]?).getD undef) w.drew) (hs : ∀ F', (∀ f, F' f = F f) → AllFrom (StepF P ops Q F' J) 0 ops.toList)
    (he : ∀ D f w, J D f w → (∀ i, i < ops.size → D i = true) → Q .normal (F f) w) : (Code.region id ops true).wp P Q a w := by
  refine region_inv (fun D a' w' => ∃ f, a' = F f ∧ J D f w') hm hac ⟨_, hf.symm, h0⟩ (AllFrom.mono (fun i o h D a' w' hI hD hdep K hK => ?_) (hs F fun _ => rfl)) (fun D a' w' hI hall => ?_)
  · obtain ⟨f, rfl, hJ⟩ := hI
    exact h D f w' hJ hD hdep K (fun f' w'' hJ' => hK _ _ ⟨f', rfl, hJ'⟩)
  · obtain ⟨f, rfl, hJ⟩ := hI
    exact he D f w' hJ hall
/-- JP, where the last operation S writes a slot that is read ahead of it: it holds v0 till then. -/
def JPW (T : Nat → Value) (E S : Nat) (v0 : Value) (A B : World → Prop) (D : Nat → Bool) (f : Nat → Value) (w : World) : Prop :=
  JP T E A B D f w ∧ (D S = false → f S = v0) ∧ (D S = true → ∀ i, i < S → D i = true)
theorem jpw_start {T : Nat → Value} {E S : Nat} {v0 : Value} {A B : World → Prop} {w : World} (h : A w) {f : Nat → Value} (hv : f S = v0) : JPW T E S v0 A B (fun _ => false) f w := ⟨jp_start h f, fun _ => hv, fun h => by simp at h⟩
theorem jpw_pure {T : Nat → Value} {E S : Nat} {v0 : Value} {A B : World → Prop} {D : Nat → Bool} {f : Nat → Value} {w : World} (h : JPW T E S v0 A B D f w) {i : Nat} {v : Value} (hi : i ≠ E) (hs : i ≠ S) (hv : v = T i) : JPW T E S v0 A B (upd D i) (updf f i v) w := by
  refine ⟨jp_pure h.1 hi hv, fun hS => ?_, fun hS j hj => ?_⟩
  · rw [upd_ne _ _ _ (fun e => hs e.symm)] at hS; rw [updf_ne _ _ _ _ (fun e => hs e.symm)]; exact h.2.1 hS
  · rw [upd_ne _ _ _ (fun e => hs e.symm)] at hS
    by_cases e : j = i
    · subst e; exact upd_at _ _
    · rw [upd_ne _ _ _ e]; exact h.2.2 hS j hj
theorem jpw_eff {T : Nat → Value} {E S : Nat} {v0 : Value} {A B : World → Prop} {D : Nat → Bool} {f : Nat → Value} {w w' : World} (h : JPW T E S v0 A B D f w) (hES : S ≠ E) {v : Value} (hv : v = T E) (hB : B w') : JPW T E S v0 A B (upd D E) (updf f E v) w' := by
  refine ⟨jp_eff h.1 hv hB, fun hS => ?_, fun hS j hj => ?_⟩
  · rw [upd_ne _ _ _ hES] at hS; rw [updf_ne _ _ _ _ hES]; exact h.2.1 hS
  · rw [upd_ne _ _ _ hES] at hS
    by_cases e : j = E
    · subst e; exact upd_at _ _
    · rw [upd_ne _ _ _ e]; exact h.2.2 hS j hj
theorem jpw_last {T : Nat → Value} {E S : Nat} {v0 : Value} {A B : World → Prop} {D : Nat → Bool} {f : Nat → Value} {w : World} (h : JPW T E S v0 A B D f w) {v : Value} (hi : S ≠ E) (hv : v = T S) (hall : ∀ i, i < S → D i = true) : JPW T E S v0 A B (upd D S) (updf f S v) w := by
  refine ⟨jp_pure h.1 hi hv, fun (hS : upd D S S = false) => absurd hS (by rw [upd_at]; decide), fun _ j hj => ?_⟩
  rw [upd_ne _ _ _ (by omega)]; exact hall j hj
theorem jpw_v0 {T : Nat → Value} {E S : Nat} {v0 : Value} {A B : World → Prop} {D : Nat → Bool} {f : Nat → Value} {w : World} (h : JPW T E S v0 A B D f w) {i : Nat} (hi : i < S) (hD : D i = false) : f S = v0 := by
  refine h.2.1 ?_
  cases hS : D S with
  | false => rfl
  | true => rw [h.2.2 hS i hi] at hD; cases hD
/-! Guards; a region whose last operation is its one effect. -/
theorem wanted_on {o : Oper} {ys : Nat → Option Bool} {k : Nat} {b : Bool} (hg : o.guard = some (k, b)) (hy : ys k = some b) : Region.wanted o ys = true := by simp [Region.wanted, hg, hy]
theorem wanted_off {o : Oper} {ys : Nat → Option Bool} {k : Nat} {b c : Bool} (hg : o.guard = some (k, b)) (hy : ys k = some c) (h : c ≠ b) : Region.wanted o ys = false := by simp [Region.wanted, hg, hy, h]
theorem yields_of {ops : Array Oper} {tmps : Array Value} {j : Nat} {v : Value} {b : Bool} (h : ((ops[j]?).bind (·.dst)).bind (tmps[·]?) = some v) (hv : v = .bool b) : yielded ops tmps j = some b := by
  unfold yielded; rw [h, hv]
theorem stepF_off {P : Program} {w : World} {o : Oper} {K : Act → World → Prop} {Q : Exit → Act → World → Prop} {ys : Nat → Option Bool} {F : (Nat → Value) → Act} {f f' : Nat → Value} (hw : Region.wanted o ys = false)
    (hf : (F f).put o.dst undef = F f') (hK : K (F f') w) : if Region.wanted o ys = true then Oper.wp P o (F f) w K Q else K ((F f).put o.dst undef) w := by
  rw [if_neg (by rw [hw]; decide), hf]; exact hK
theorem stepF_valW {P : Program} {w w' : World} {o : Oper} {K : Act → World → Prop} {Q : Exit → Act → World → Prop} {E : Prop} {ys : Nat → Option Bool} {F : (Nat → Value) → Act} {f f' : Nat → Value} {v : Value} (hw : Region.wanted o ys = true)
    (h : (execOp (F f).eval o).run P w = .ok (.value v) w') (hf : (F f).put o.dst v = F f') (hK : K (F f') w') : if Region.wanted o ys = true then Oper.wp P o (F f) w K Q else E := by
  rw [if_pos hw]
  unfold Oper.wp; rw [h, Oper.upon_value, hf]; exact hK
theorem stepF_callW {P : Program} {w : World} {o : Oper} {K : Act → World → Prop} {Q : Exit → Act → World → Prop} {E : Prop} {ys : Nat → Option Bool} {F : (Nat → Value) → Act} {f : Nat → Value} {g : FuncId} {args : Array Value} {R : Ending → World → Prop} (hw : Region.wanted o ys = true)
    (h : (execOp (F f).eval o).run P w = .ok (.enter g args) w) (hc : Calls P g args w R) (hK : ∀ e w', R e w' → ∃ v, e = .returned v ∧ K ((F f).put o.dst v) w') : if Region.wanted o ys = true then Oper.wp P o (F f) w K Q else E := by
  rw [if_pos hw]
  unfold Oper.wp; rw [h, Oper.upon_enter]
  refine hc.mono ?_
  intro e w' hR
  obtain ⟨v, rfl, hk⟩ := hK e w' hR
  exact hk
theorem op_pick {P : Program} {w : World} {o : Oper} {ρ : Operand → Value} {c x y : Operand} {b : Bool} {v : Value} (ho : o.op = .pick c x y) (hc : ρ c = .bool b) (hv : (if b then ρ x else ρ y) = v) : (execOp ρ o).run P w = .ok (.value v) w := by
  unfold execOp; rw [ho]; subst hv; simp only [hc]; cases b <;> rfl
theorem op_makeFunc {P : Program} {w : World} {o : Oper} {ρ : Operand → Value} {fn : Fn} {fs cs : Array Operand} {fs' cs' : Array Value} {v : Value} (ho : o.op = .makeFunc fn fs cs) (hfs : fs.map ρ = fs') (hcs : cs.map ρ = cs') (h : (Instr.makeFunc fn fs' cs').run P w = .ok v w) : (execOp ρ o).run P w = .ok (.value v) w := by
  unfold execOp; rw [ho]; subst hfs; subst hcs; simp only [Sem.run_bind, h]; rfl
theorem op_unop {P : Program} {w : World} {o : Oper} {ρ : Operand → Value} {u : UnOp} {t : TypeId} {x : Operand} {p v : Value} (ho : o.op = .unOp u t x) (hx : ρ x = p) (h : (Op.unary u p).run P w = .ok v w) : (execOp ρ o).run P w = .ok (.value v) w := by
  unfold execOp; rw [ho]; subst hx; simp only [Sem.run_bind, h]; rfl
/-- Results known ahead (T); the last operation E takes the world from A to B. -/
def JL (T : Nat → Value) (E : Nat) (A B : World → Prop) (D : Nat → Bool) (f : Nat → Value) (w : World) : Prop :=
  (∀ i, i ≠ E → D i = true → f i = T i) ∧ (D E = false → A w) ∧ (D E = true → (∀ i, i < E → D i = true) ∧ B w)
theorem jl_start {T : Nat → Value} {E : Nat} {A B : World → Prop} {w : World} (h : A w) (f : Nat → Value) : JL T E A B (fun _ => false) f w :=
  ⟨fun i _ h => by simp at h, fun _ => h, fun h => by simp at h⟩
theorem jl_live {T : Nat → Value} {E : Nat} {A B : World → Prop} {D : Nat → Bool} {f : Nat → Value} {w : World} (h : JL T E A B D f w) {i : Nat} (hi : i < E) (hD : D i = false) : D E = false ∧ A w := by
  cases hE : D E with
  | false => exact ⟨rfl, h.2.1 hE⟩
  | true => rw [(h.2.2 hE).1 i hi] at hD; cases hD
theorem jl_step {T : Nat → Value} {E : Nat} {A B : World → Prop} {D : Nat → Bool} {f : Nat → Value} {w w' : World} (h : JL T E A B D f w) {i : Nat} (hi : i < E) (hD : D i = false) {v : Value} (hv : v = T i) (hA : A w') : JL T E A B (upd D i) (updf f i v) w' := by
  obtain ⟨h1, _⟩ := jl_live h hi hD
  refine ⟨fun j hj hDj => ?_, fun _ => hA, fun hE => ?_⟩
  · by_cases e : j = i
    · subst e; rw [updf_at]; exact hv
    · rw [updf_ne _ _ _ _ e]; rw [upd_ne _ _ _ e] at hDj; exact h.1 j hj hDj
  · rw [upd_ne _ _ _ (by omega), h1] at hE; cases hE
theorem jl_pure {T : Nat → Value} {E : Nat} {A B : World → Prop} {D : Nat → Bool} {f : Nat → Value} {w : World} (h : JL T E A B D f w) {i : Nat} (hi : i < E) (hD : D i = false) {v : Value} (hv : v = T i) : JL T E A B (upd D i) (updf f i v) w := jl_step h hi hD hv (jl_live h hi hD).2
theorem jl_last {T : Nat → Value} {E : Nat} {A B : World → Prop} {D : Nat → Bool} {f : Nat → Value} {w w' : World} (h : JL T E A B D f w) (hall : ∀ i, i < E → D i = true) (hB : B w') : JL T E A B (upd D E) f w' := by
  refine ⟨fun j hj hDj => by rw [upd_ne _ _ _ hj] at hDj; exact h.1 j hj hDj, fun (hE : upd D E E = false) => absurd hE (by rw [upd_at]; decide), fun _ => ⟨fun i hi => by rw [upd_ne _ _ _ (by omega)]; exact hall i hi, hB⟩⟩
end Go.Proofs.YtdlfhldboagbeaaGreatDoor.RegI
