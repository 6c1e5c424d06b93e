/- A region that draws its order, by an invariant: whatever has been carried out so far (D), the frame and the world are as the invariant says; one step an operation, not one way an order. -/
import Derived.Calls
import Derived.Orders
import Derived.RegionTactic
import Derived.OrdersHeld
import Derived.WalkKit
namespace Go.Proofs.Ytdlfhldboagbeaa.RegI
set_option linter.unusedVariables false

/-- D, and i besides. -/
def upd (D : Nat → Bool) (i : Nat) : Nat → Bool := fun j => j == i || D j
theorem upd_at (D : Nat → Bool) (i : Nat) : upd D i i = true := by simp [upd]
theorem upd_ne (D : Nat → Bool) (i j : Nat) (h : j ≠ i) : upd D i j = D j := by simp [upd, h]
theorem upd_lit (D : Nat → Bool) (i j : Nat) : upd D i j = (j == i || D j) := rfl

/-- The results so far (f i: of operation i), laid into the frame; l: which slot is whose. -/
def fill (a : Act) (f : Nat → Value) : List (Nat × Tmp) → Act
  | [] => a
  | (i, s) :: l => (fill a f l).put (some s) (f i)
def updf (f : Nat → Value) (i : Nat) (v : Value) : Nat → Value := fun j => bif j == i then v else f j
theorem updf_at (f : Nat → Value) (i : Nat) (v : Value) : updf f i v i = v := by simp [updf]
theorem updf_ne (f : Nat → Value) (i j : Nat) (v : Value) (h : j ≠ i) : updf f i v j = f j := by
  have : (j == i) = false := by simp [h]
  simp only [updf, this, cond_false]

def AllFrom (p : Nat → Oper → Prop) : Nat → List Oper → Prop
  | _, [] => True
  | n, o :: r => p n o ∧ AllFrom p (n + 1) r
theorem AllFrom.at {p : Nat → Oper → Prop} : ∀ {l : List Oper} {n : Nat}, AllFrom p n l → ∀ i o, l[i]? = some o → p (n + i) o
  | [], _, _, i, o, h => by simp at h
  | x :: l, n, ⟨h1, h2⟩, i, o, h => by
    cases i with
    | zero => simp at h; subst h; exact h1
    | succ i => simp at h; have := AllFrom.at h2 i o h; rw [show n + (i + 1) = n + 1 + i by omega]; exact this

def edges (ops : Array Oper) : Bool := (List.range ops.size).all fun i => ((ops[i]?).map fun o => o.after.all fun e => decide (e.on < i) || !Region.binds .any e).getD true

variable {P : Program} {ops : Array Oper} {Q : Exit → Act → World → Prop}

def cnt (L : Array Bool) : Nat := L.toList.countP (fun b => !b)
theorem cnt_set (L : Array Bool) (i : Nat) (h : L.getD i true = false) : cnt (L.setIfInBounds i true) + 1 = cnt L := by
  unfold cnt
  obtain ⟨l⟩ := L
  simp only [List.setIfInBounds_toArray]
  have h' : l[i]? = some false := by
    have : (l.toArray)[i]?.getD true = false := by rw [← Array.getD_eq_getD_getElem?]; exact h
    simp at this
    cases e : l[i]? with
    | none => rw [e] at this; simp at this
    | some b => rw [e] at this; simp at this; rw [this]
  clear h
  induction l generalizing i with
  | nil => simp at h'
  | cons b l ih =>
    cases i with
    | zero => simp at h'; subst h'; simp
    | succ i =>
      simp at h'
      have := ih i h'
      simp only [List.set_cons_succ, List.countP_cons]
      omega

theorem ready_mem {i : Nat} {L : Array Bool} (h : i ∈ Region.ready .any ops L) : i < ops.size ∧ L.getD i true = false ∧ ∀ o, ops[i]? = some o → ∀ e ∈ o.after, Region.binds .any e = true → L.getD e.on false = true := by
  unfold Region.ready at h
  simp only [List.mem_filter, List.mem_range, Bool.and_eq_true, Bool.not_eq_true'] at h
  refine ⟨h.1, h.2.1, fun o ho e he hb => ?_⟩
  have h2 := h.2.2
  rw [ho] at h2
  simp only [Option.map_some, Option.getD_some, Array.all_eq_true_iff_forall_mem] at h2
  have := h2 e he
  rw [hb] at this
  simpa using this

theorem ready_nil (hac : edges ops = true) {L : Array Bool} (hz : L.size = ops.size) (h : Region.ready .any ops L = []) : ∀ i, i < ops.size → L.getD i true = true := by
  intro i
  induction i using Nat.strongRecOn with
  | _ i ih =>
    intro hi
    cases hL : L.getD i true with
    | true => rfl
    | false =>
      exfalso
      have hm : i ∈ Region.ready .any ops L := by
        unfold Region.ready
        simp only [List.mem_filter, List.mem_range, Bool.and_eq_true, Bool.not_eq_true']
        refine ⟨hi, hL, ?_⟩
        have ho : ops[i]? = some ops[i] := by simp [hi]
        rw [ho]
        simp only [Option.map_some, Option.getD_some, Array.all_eq_true_iff_forall_mem]
        intro e he
        cases hb : Region.binds .any e with
        | false => simp
        | true =>
          unfold edges at hac
          simp only [List.all_eq_true, List.mem_range] at hac
          have h1 := hac i hi
          rw [ho] at h1
          simp only [Option.map_some, Option.getD_some, Array.all_eq_true_iff_forall_mem] at h1
          have h2 := h1 e he
          rw [hb] at h2
          simp only [Bool.not_true, Bool.or_false, decide_eq_true_eq] at h2
          have h3 := ih e.on h2 (by omega)
          have h4 : L.getD e.on false = true := by
            have hl : e.on < L.size := by omega
            simp only [Array.getD, hl, dif_pos] at h3 ⊢
            exact h3
          rw [h4]; simp
      rw [h] at hm
      cases hm


/-- What one step is asked: run operation i under any post that the invariant behind it pays. -/
def Step (P : Program) (ops : Array Oper) (Q : Exit → Act → World → Prop) (I : (Nat → Bool) → Act → World → Prop) (i : Nat) (o : Oper) : Prop :=
  ∀ (D : Nat → Bool) (a : Act) (w : World), I D a w → D i = false → (∀ e ∈ o.after, Region.binds .any e = true → D e.on = true) →
    ∀ K : Act → World → Prop, (∀ a' w', I (upd D i) a' w' → K a' w') → if Region.wanted o (yielded ops a.tmps) = true then Oper.wp P o a w K Q else K (a.put o.dst undef) w

theorem any_inv (hac : edges ops = true) (I : (Nat → Bool) → Act → World → Prop) (hs : AllFrom (Step P ops Q I) 0 ops.toList)
    (he : ∀ D a w, I D a w → (∀ i, i < ops.size → D i = true) → Q .normal a w) : ∀ (n : Nat) (L : Array Bool) (a : Act) (w : World), L.size = ops.size → cnt L ≤ n → I (fun i => L.getD i false) a w → wpAny P .any ops Q n L a w := by
  have hend : ∀ (L : Array Bool) (a : Act) (w : World), L.size = ops.size → I (fun i => L.getD i false) a w → Region.ready .any ops L = [] → Q .normal a w := fun L a w hz hI hr =>
    he _ a w hI fun i hi => by
      have := ready_nil hac hz hr i hi
      have hl : i < L.size := by omega
      simp only [Array.getD, hl, dif_pos] at this ⊢
      exact this
  intro n
  induction n with
  | zero =>
    intro L a w hz hc hI
    have hr : Region.ready .any ops L = [] := by
      cases h : Region.ready .any ops L with
      | nil => rfl
      | cons i r =>
        have := cnt_set L i (ready_mem (h ▸ List.mem_cons_self)).2.1
        omega
    exact ⟨hr, hend L a w hz hI hr⟩
  | succ n ih =>
    intro L a w hz hc hI
    refine ⟨hend L a w hz hI, fun i hi => ?_⟩
    obtain ⟨h1, h2, h3⟩ := ready_mem hi
    have ho : ops[i]? = some ops[i] := by simp [h1]
    have hst := AllFrom.at hs i ops[i] (by rw [← ho, Array.getElem?_toList])
    rw [Nat.zero_add] at hst
    have hl : i < L.size := by omega
    exact wpOp_step ho (fun K' hK' => by
      have hq := hst _ a w hI (by simp only [Array.getD, hl, dif_pos] at h2 ⊢; exact h2) (fun e he hb => h3 _ ho e he hb) K' (fun a' w' h' => hK' _ _ (by
      have hc' := cnt_set L i h2
      refine ih _ a' w' (by simp [hz]) (by omega) ?_
      have : (fun j => (L.setIfInBounds i true).getD j false) = upd (fun j => L.getD j false) i := by
        funext j
        simp only [upd, Array.getD_eq_getD_getElem?, Array.getElem?_setIfInBounds]
        by_cases e : i = j
        · subst e; simp [hl]
        · have : (j == i) = false := by simp; omega
          simp [e, this]
      rw [this]; exact h'))
      exact hq)

/-- One step, the frame given (F) by what has been carried out. -/
def StepF (P : Program) (ops : Array Oper) (Q : Exit → Act → World → Prop) (F : (Nat → Value) → Act) (J : (Nat → Bool) → (Nat → Value) → World → Prop) (i : Nat) (o : Oper) : Prop :=
  ∀ (D : Nat → Bool) (f : Nat → Value) (w : World), J D f w → D i = false → (∀ e ∈ o.after, Region.binds .any e = true → D e.on = true) →
    ∀ K : Act → World → Prop, (∀ f' w', J (upd D i) f' w' → K (F f') w') → if Region.wanted o (yielded ops (F f).tmps) = true then Oper.wp P o (F f) w K Q else K ((F f).put o.dst undef) w
theorem AllFrom.mono {p q : Nat → Oper → Prop} (h : ∀ i o, p i o → q i o) : ∀ {l : List Oper} {n : Nat}, AllFrom p n l → AllFrom q n l
  | [], _, _ => trivial
  | _ :: _, _, ⟨h1, h2⟩ => ⟨h _ _ h1, AllFrom.mono h h2⟩

/-- A region that draws its order, by an invariant I over what has been carried out. -/
theorem region_inv {id : Nat} {a : Act} {w : World} (I : (Nat → Bool) → Act → World → Prop) (hm : P.follows .mixedOrders = true) (hac : edges ops = true)
    (h0 : I (fun _ => false) a w.drew) (hs : AllFrom (Step P ops Q I) 0 ops.toList) (he : ∀ D a w, I D a w → (∀ i, i < ops.size → D i = true) → Q .normal a w) : (Code.region id ops true).wp P Q a w := by
  refine wp_region_any hm (any_inv hac I hs he ops.size _ a _ (by simp) ?_ ?_)
  · unfold cnt; have := List.countP_le_length (p := fun b => !b) (l := (Array.replicate ops.size false).toList); simpa using this
  · have : (fun i => (Array.replicate ops.size false).getD i false) = fun _ => false := by
      funext i
      simp only [Array.getD_eq_getD_getElem?, Array.getElem?_replicate]
      split <;> rfl
    rw [this]; exact h0
/-- The same; the frame is F of the results so far: the first one with these laid in (l: operation and slot). -/
theorem region_fill {id : Nat} {a : Act} {w : World} (l : List (Nat × Tmp)) (J : (Nat → Bool) → (Nat → Value) → World → Prop) {F : (Nat → Value) → Act} (hF : ∀ f, fill a f l = F f) (hm : P.follows .mixedOrders = true) (hac : edges ops = true)
    (hf : F (fun i => (a.tmps[(l.lookup i).getD 0]?).getD undef) = a) (h0 : ∀ f, J (fun _ => false) f w.drew) (hs : ∀ F', (∀ f, F' f = F f) → AllFrom (StepF P ops Q F' J) 0 ops.toList)
    (he : ∀ D f w, J D f w → (∀ i, i < ops.size → D i = true) → Q .normal (F f) w) : (Code.region id ops true).wp P Q a w := by
  refine region_inv (fun D a' w' => ∃ f, a' = F f ∧ J D f w') hm hac ⟨_, hf.symm, h0 _⟩ (AllFrom.mono (fun i o h D a' w' hI hD hdep K hK => ?_) (hs F fun _ => rfl)) (fun D a' w' hI hall => ?_)
  · obtain ⟨f, rfl, hJ⟩ := hI
    exact h D f w' hJ hD hdep K (fun f' w'' hJ' => hK _ _ ⟨f', rfl, hJ'⟩)
  · obtain ⟨f, rfl, hJ⟩ := hI
    exact he D f w' hJ hall
/-! The steps, an operation each. -/
theorem op_move {P : Program} {w : World} {o : Oper} {ρ : Operand → Value} {x : Operand} {v : Value} (ho : o.op = .move x) (hx : ρ x = v) : (execOp ρ o).run P w = .ok (.value v) w := by
  unfold execOp; rw [ho]; subst hx; rfl
theorem op_load {P : Program} {w : World} {o : Oper} {ρ : Operand → Value} {t : TypeId} {x : Operand} {p v : Value} (ho : o.op = .load t x) (hx : ρ x = p) (h : (Instr.loadAt t p).run P w = .ok v w) : (execOp ρ o).run P w = .ok (.value v) w := by
  unfold execOp; rw [ho]; subst hx; simp only [Sem.run_bind, h]; rfl
theorem op_store {P : Program} {w w' : World} {o : Oper} {ρ : Operand → Value} {t : TypeId} {x y : Operand} {p v : Value} (ho : o.op = .store t x y) (hx : ρ x = p) (hy : ρ y = v) (h : (Instr.storeAt t p v).run P w = .ok () w') : (execOp ρ o).run P w = .ok .skip w' := by
  unfold execOp; rw [ho]; subst hx; subst hy; simp only [Sem.run_bind, h]; rfl
theorem op_alloc {P : Program} {w w' : World} {o : Oper} {ρ : Operand → Value} {t : TypeId} {v : Value} (ho : o.op = .alloc t) (h : (Instr.alloc t true (.tuple #[])).run P w = .ok v w') : (execOp ρ o).run P w = .ok (.value v) w' := by
  unfold execOp; rw [ho]; simp only [Sem.run_bind, h]; rfl
theorem op_field {P : Program} {w : World} {o : Oper} {ρ : Operand → Value} {t : TypeId} {x : Operand} {i : Nat} {p v : Value} (ho : o.op = .fieldAddr t x i) (hx : ρ x = p) (h : (Instr.fieldAt t p i).run P w = .ok v w) : (execOp ρ o).run P w = .ok (.value v) w := by
  unfold execOp; rw [ho]; subst hx; simp only [Sem.run_bind, h]; rfl
theorem op_buildSlice {P : Program} {w w' : World} {o : Oper} {ρ : Operand → Value} {t : TypeId} {n : Nat} {ps : Array (Nat × Operand)} {qs : Array (Nat × Value)} {v : Value} (ho : o.op = .buildSlice t n ps) (hx : ps.map (fun (i, x) => (i, ρ x)) = qs) (h : (Instr.buildSlice t n qs).run P w = .ok v w') : (execOp ρ o).run P w = .ok (.value v) w' := by
  unfold execOp; rw [ho]; subst hx; simp only [Sem.run_bind, h]; rfl
theorem op_enter {P : Program} {w : World} {o : Oper} {a : Act} {c : Call} {g : FuncId} {xs : Array Value} (ho : o.op = .call c) (hc : c.callee = .value (.func g)) (hx : c.args.map a.eval = xs) (he : ∀ (args : Array Value) (w : World), (callFunc g args).run P w = .ok (.enter g args) w) : (execOp a.eval o).run P w = .ok (.enter g xs) w := by
  unfold execOp resolve; rw [ho]; simp only [hc, hx]; simp [go_sem, Act.eval, Deferred.ofValue, invoke, he]
theorem stepF_val {P : Program} {w w' : World} {o : Oper} {K : Act → World → Prop} {Q : Exit → Act → World → Prop} {E : Prop} {ys : Nat → Option Bool} {F : (Nat → Value) → Act} {f f' : Nat → Value} {v : Value} (hg : o.guard = none)
    (h : (execOp (F f).eval o).run P w = .ok (.value v) w') (hf : (F f).put o.dst v = F f') (hK : K (F f') w') : if Region.wanted o ys = true then Oper.wp P o (F f) w K Q else E := by
  rw [if_pos (by simp [Region.wanted, hg])]
  unfold Oper.wp; rw [h, Oper.upon_value, hf]; exact hK
theorem stepF_skip {P : Program} {w w' : World} {o : Oper} {K : Act → World → Prop} {Q : Exit → Act → World → Prop} {E : Prop} {ys : Nat → Option Bool} {F : (Nat → Value) → Act} {f : Nat → Value} (hg : o.guard = none) (hd : o.dst = none)
    (h : (execOp (F f).eval o).run P w = .ok .skip w') (hK : K (F f) w') : if Region.wanted o ys = true then Oper.wp P o (F f) w K Q else E := by
  rw [if_pos (by simp [Region.wanted, hg])]
  unfold Oper.wp; rw [h, Oper.upon_skip, hd]; exact hK
theorem stepF_call {P : Program} {w : World} {o : Oper} {K : Act → World → Prop} {Q : Exit → Act → World → Prop} {E : Prop} {ys : Nat → Option Bool} {F : (Nat → Value) → Act} {f f' : Nat → Value} {v : Value} {g : FuncId} {args : Array Value} {S : World → Prop} (hg : o.guard = none)
    (h : (execOp (F f).eval o).run P w = .ok (.enter g args) w) (hc : Calls P g args w fun e w' => e = .returned v ∧ S w') (hf : (F f).put o.dst v = F f') (hK : ∀ w', S w' → K (F f') w') : if Region.wanted o ys = true then Oper.wp P o (F f) w K Q else E := by
  rw [if_pos (by simp [Region.wanted, hg])]
  unfold Oper.wp; rw [h, Oper.upon_enter]
  refine hc.mono ?_
  rintro e w' ⟨rfl, hS⟩
  rw [← hf] at hK
  exact hK w' hS
theorem stepF_callR {P : Program} {w : World} {o : Oper} {K : Act → World → Prop} {Q : Exit → Act → World → Prop} {E : Prop} {ys : Nat → Option Bool} {F : (Nat → Value) → Act} {f : Nat → Value} {g : FuncId} {args : Array Value} {R : Ending → World → Prop} (hg : o.guard = none)
    (h : (execOp (F f).eval o).run P w = .ok (.enter g args) w) (hc : Calls P g args w R) (hK : ∀ e w', R e w' → ∃ v, e = .returned v ∧ K ((F f).put o.dst v) w') : if Region.wanted o ys = true then Oper.wp P o (F f) w K Q else E := by
  rw [if_pos (by simp [Region.wanted, hg])]
  unfold Oper.wp; rw [h, Oper.upon_enter]
  refine hc.mono ?_
  intro e w' hR
  obtain ⟨v, rfl, hk⟩ := hK e w' hR
  exact hk
/-- What an operation stands behind is done. -/
theorem done {D : Nat → Bool} {o : Oper} (h : ∀ e ∈ o.after, Region.binds .any e = true → D e.on = true) (j : Nat) (hj : (o.after.any fun e => e.on == j && Region.binds .any e) = true) : D j = true := by
  rw [Array.any_eq_true'] at hj
  obtain ⟨e, he, h2⟩ := hj
  rw [Bool.and_eq_true] at h2
  have := h e he h2.2
  rw [beq_iff_eq] at h2
  rw [← h2.1]; exact this
end Go.Proofs.Ytdlfhldboagbeaa.RegI
