/- Reg NmHas Iter NmTop: what these laws name of them. -/
import Derived.Calls
import Derived.Orders
import Derived.OrdersHeld
import Derived.Shelf.SlIter.Nil
import Derived.Shelf.SortM.Plain
import Derived.Shelf.SortM.SortNone
import Derived.Ground.GgzProg
import Derived.Ground.SlgmProg
import Derived.RangeFuncWrites
import Derived.Maps.OwnIn
import Derived.Test.YtjhhmdmmllblhaaGreatDoorKt07
set_option linter.unusedVariables false
namespace Go.Proofs.YtjhhmdmmllblhaaGreatDoor.RegI
set_option linter.unusedVariables false
def upd (D:Nat->Bool) (i:Nat):Nat->Bool:=fun j => j == i || D j
theorem upd_at (D:Nat->Bool) (i:Nat):upd D i i=true:=by simp [upd]
theorem upd_ne (D:Nat->Bool) (i j:Nat) (h:j ≠ i):upd D i j=D j:=by simp [upd,h]
def fill (a:Act) (f:Nat->Value):List (Nat × Tmp)->Act
 | [] => a
 | (i,s) :: l => (fill a f l).put (some s) (f i)
def updf (f:Nat->Value) (i:Nat) (v:Value):Nat->Value:=fun j => bif j == i then v else f j
theorem updf_at (f:Nat->Value) (i:Nat) (v:Value):updf f i v i=v:=by simp [updf]
theorem updf_ne (f:Nat->Value) (i j:Nat) (v:Value) (h:j ≠ i):updf f i v j=f j:=by
 have:(j == i)=false:=by simp [h]
 simp only [updf,this,cond_false]
def AllFrom (p:Nat->Oper->Prop):Nat->List Oper->Prop
 | _,[] => True
 | n,o :: r => p n o/\AllFrom p (n + 1) r
theorem AllFrom.at {p:Nat->Oper->Prop}:∀ {l:List Oper} {n:Nat},AllFrom p n l->∀ i o,l[i]?=some o->p (n + i) o
 | [],_,_,i,o,h => by simp at h
 | x :: l,n,⟨h1,h2⟩,i,o,h => by
  cases i with
  | zero => simp at h; subst h; exact h1
  | succ i => simp at h; have:=AllFrom.at h2 i o h; rw [show n + (i + 1)=n + 1 + i by omega]; exact this
def edges (ops:Array Oper):Bool:=(List.range ops.size).all fun i => ((ops[i]?).map fun o => o.after.all fun e => decide (e.on < i) || !Region.binds .any e).getD true
variable {P:Program} {ops:Array Oper} {Q:Exit->Act->World->Prop}
def cnt (L:Array Bool):Nat:=L.toList.countP (fun b => !b)
theorem cnt_set (L:Array Bool) (i:Nat) (h:L.getD i true=false):cnt (L.setIfInBounds i true) + 1=cnt L:=by
 unfold cnt
 obtain ⟨l⟩:=L
 simp only [List.setIfInBounds_toArray]
 have h':l[i]?=some false:=by
  have:(l.toArray)[i]?.getD true=false:=by rw [← Array.getD_eq_getD_getElem?]; exact h
  simp at this
  cases e:l[i]? with
  | none => rw [e] at this; simp at this
  | some b => rw [e] at this; simp at this; rw [this]
 clear h
 induction l generalizing i with
 | nil => simp at h'
 | cons b l ih =>
  cases i with
  | zero => simp at h'; subst h'; simp
  | succ i =>
   simp at h'
   have:=ih i h'
   simp only [List.set_cons_succ,List.countP_cons]
   omega
theorem ready_mem {i:Nat} {L:Array Bool} (h:i ∈ Region.ready .any ops L):i < ops.size/\L.getD i true=false/\∀ o,ops[i]?=some o->∀ e ∈ o.after,Region.binds .any e=true->L.getD e.on false=true:=by
 unfold Region.ready at h
 simp only [List.mem_filter,List.mem_range,Bool.and_eq_true,Bool.not_eq_true'] at h
 refine ⟨h.1,h.2.1,fun o ho e he hb => ?_⟩
 have h2:=h.2.2
 rw [ho] at h2
 simp only [Option.map_some,Option.getD_some,Array.all_eq_true_iff_forall_mem] at h2
 have:=h2 e he
 rw [hb] at this
 simpa using this
theorem ready_nil (hac:edges ops=true) {L:Array Bool} (hz:L.size=ops.size) (h:Region.ready .any ops L=[]):∀ i,i < ops.size->L.getD i true=true:=by
 intro i
 induction i using Nat.strongRecOn with
 | _ i ih =>
  intro hi
  cases hL:L.getD i true with
  | true => rfl
  | false =>
   exfalso
   have hm:i ∈ Region.ready .any ops L:=by
    unfold Region.ready
    simp only [List.mem_filter,List.mem_range,Bool.and_eq_true,Bool.not_eq_true']
    refine ⟨hi,hL,?_⟩
    have ho:ops[i]?=some ops[i]:=by simp [hi]
    rw [ho]
    simp only [Option.map_some,Option.getD_some,Array.all_eq_true_iff_forall_mem]
    intro e he
    cases hb:Region.binds .any e with
    | false => simp
    | true =>
     unfold edges at hac
     simp only [List.all_eq_true,List.mem_range] at hac
     have h1:=hac i hi
     rw [ho] at h1
     simp only [Option.map_some,Option.getD_some,Array.all_eq_true_iff_forall_mem] at h1
     have h2:=h1 e he
     rw [hb] at h2
     simp only [Bool.not_true,Bool.or_false,decide_eq_true_eq] at h2
     have h3:=ih e.on h2 (by omega)
     have h4:L.getD e.on false=true:=by
      have hl:e.on < L.size:=by omega
      simp only [Array.getD,hl,dif_pos] at h3 ⊢
      exact h3
     rw [h4]; simp
   rw [h] at hm
   cases hm
def Step (P:Program) (ops:Array Oper) (Q:Exit->Act->World->Prop) (I:(Nat->Bool)->Act->World->Prop) (i:Nat) (o:Oper):Prop :=
 ∀ (D:Nat->Bool) (a:Act) (w:World),I D a w->D i=false->(∀ e ∈ o.after,Region.binds .any e=true->D e.on=true) →
  ∀ K:Act->World->Prop,(∀ a' w',I (upd D i) a' w'->K a' w')->if Region.wanted o (yielded ops a.tmps)=true then Oper.wp P o a w K Q else K (a.put o.dst undef) w
theorem any_inv (hac:edges ops=true) (I:(Nat->Bool)->Act->World->Prop) (hs:AllFrom (Step P ops Q I) 0 ops.toList)
  (he:∀ D a w,I D a w->(∀ i,i < ops.size->D i=true)->Q .normal a w):∀ (n:Nat) (L:Array Bool) (a:Act) (w:World),L.size=ops.size->cnt L<=n->I (fun i => L.getD i false) a w->wpAny P .any ops Q n L a w:=by
 have hend:∀ (L:Array Bool) (a:Act) (w:World),L.size=ops.size->I (fun i => L.getD i false) a w->Region.ready .any ops L=[]->Q .normal a w:=fun L a w hz hI hr =>
  he _ a w hI fun i hi => by
   have:=ready_nil hac hz hr i hi
   have hl:i < L.size:=by omega
   simp only [Array.getD,hl,dif_pos] at this ⊢
   exact this
 intro n
 induction n with
 | zero =>
  intro L a w hz hc hI
  have hr:Region.ready .any ops L=[]:=by
   cases h:Region.ready .any ops L with
   | nil => rfl
   | cons i r =>
    have:=cnt_set L i (ready_mem (h ▸ List.mem_cons_self)).2.1
    omega
  exact ⟨hr,hend L a w hz hI hr⟩
 | succ n ih =>
  intro L a w hz hc hI
  refine ⟨hend L a w hz hI,fun i hi => ?_⟩
  obtain ⟨h1,h2,h3⟩:=ready_mem hi
  have ho:ops[i]?=some ops[i]:=by simp [h1]
  have hst:=AllFrom.at hs i ops[i] (by rw [← ho,Array.getElem?_toList])
  rw [Nat.zero_add] at hst
  have hl:i < L.size:=by omega
  exact wpOp_step ho (fun K' hK' => by
   have hq:=hst _ a w hI (by simp only [Array.getD,hl,dif_pos] at h2 ⊢; exact h2) (fun e he hb => h3 _ ho e he hb) K' (fun a' w' h' => hK' _ _ (by
   have hc':=cnt_set L i h2
   refine ih _ a' w' (by simp [hz]) (by omega) ?_
   have:(fun j => (L.setIfInBounds i true).getD j false)=upd (fun j => L.getD j false) i:=by
    funext j
    simp only [upd,Array.getD_eq_getD_getElem?,Array.getElem?_setIfInBounds]
    by_cases e:i=j
    ·subst e; simp [hl]
    ·have:(j == i)=false:=by simp; omega
     simp [e,this]
   rw [this]; exact h'))
   exact hq)
def StepF (P:Program) (ops:Array Oper) (Q:Exit->Act->World->Prop) (F:(Nat->Value)->Act) (J:(Nat->Bool)->(Nat->Value)->World->Prop) (i:Nat) (o:Oper):Prop :=
 ∀ (D:Nat->Bool) (f:Nat->Value) (w:World),J D f w->D i=false->(∀ e ∈ o.after,Region.binds .any e=true->D e.on=true) →
  ∀ K:Act->World->Prop,(∀ f' w',J (upd D i) f' w'->K (F f') w')->if Region.wanted o (yielded ops (F f).tmps)=true then Oper.wp P o (F f) w K Q else K ((F f).put o.dst undef) w
theorem AllFrom.mono {p q:Nat->Oper->Prop} (h:∀ i o,p i o->q i o):∀ {l:List Oper} {n:Nat},AllFrom p n l->AllFrom q n l
 | [],_,_ => trivial
 | _ :: _,_,⟨h1,h2⟩ => ⟨h _ _ h1,AllFrom.mono h h2⟩
theorem region_inv {id:Nat} {a:Act} {w:World} (I:(Nat->Bool)->Act->World->Prop) (hm:P.follows .mixedOrders=true) (hac:edges ops=true)
  (h0:I (fun _ => false) a w.drew) (hs:AllFrom (Step P ops Q I) 0 ops.toList) (he:∀ D a w,I D a w->(∀ i,i < ops.size->D i=true)->Q .normal a w):(Code.region id ops true).wp P Q a w:=by
 refine wp_region_any hm (any_inv hac I hs he ops.size _ a _ (by simp) ?_ ?_)
 ·unfold cnt; have:=List.countP_le_length (p:=fun b => !b) (l:=(Array.replicate ops.size false).toList); simpa using this
 ·have:(fun i => (Array.replicate ops.size false).getD i false)=fun _ => false:=by
   funext i
   simp only [Array.getD_eq_getD_getElem?,Array.getElem?_replicate]
   split <;> rfl
  rw [this]; exact h0
theorem region_fill {id:Nat} {a:Act} {w:World} (l:List (Nat × Tmp)) (J:(Nat->Bool)->(Nat->Value)->World->Prop) {F:(Nat->Value)->Act} (hF:∀ f,fill a f l=F f) (hm:P.follows .mixedOrders=true) (hac:edges ops=true)
  (hf:F (fun i => (a.tmps[(l.lookup i).getD 0]?).getD undef)=a) (h0:∀ f,J (fun _ => false) f w.drew) (hs:∀ F',(∀ f,F' f=F f)->AllFrom (StepF P ops Q F' J) 0 ops.toList)
  (he:∀ D f w,J D f w->(∀ i,i < ops.size->D i=true)->Q .normal (F f) w):(Code.region id ops true).wp P Q a w:=by
 refine region_inv (fun D a' w' => ∃ f,a'=F f/\J D f w') hm hac ⟨_,hf.symm,h0 _⟩ (AllFrom.mono (fun i o h D a' w' hI hD hdep K hK => ?_) (hs F fun _ => rfl)) (fun D a' w' hI hall => ?_)
 ·obtain ⟨f,rfl,hJ⟩:=hI
  exact h D f w' hJ hD hdep K (fun f' w'' hJ' => hK _ _ ⟨f',rfl,hJ'⟩)
 ·obtain ⟨f,rfl,hJ⟩:=hI
  exact he D f w' hJ hall
theorem op_move {P:Program} {w:World} {o:Oper} {ρ:Operand->Value} {x:Operand} {v:Value} (ho:o.op=.move x) (hx:ρ x=v):(execOp ρ o).run P w=.ok (.value v) w:=by
 unfold execOp; rw [ho]; subst hx; rfl
theorem op_load {P:Program} {w:World} {o:Oper} {ρ:Operand->Value} {t:TypeId} {x:Operand} {p v:Value} (ho:o.op=.load t x) (hx:ρ x=p) (h:(Instr.loadAt t p).run P w=.ok v w):(execOp ρ o).run P w=.ok (.value v) w:=by
 unfold execOp; rw [ho]; subst hx; simp only [Sem.run_bind,h]; rfl
theorem op_store {P:Program} {w w':World} {o:Oper} {ρ:Operand->Value} {t:TypeId} {x y:Operand} {p v:Value} (ho:o.op=.store t x y) (hx:ρ x=p) (hy:ρ y=v) (h:(Instr.storeAt t p v).run P w=.ok () w'):(execOp ρ o).run P w=.ok .skip w':=by
 unfold execOp; rw [ho]; subst hx; subst hy; simp only [Sem.run_bind,h]; rfl
theorem op_alloc {P:Program} {w w':World} {o:Oper} {ρ:Operand->Value} {t:TypeId} {v:Value} (ho:o.op=.alloc t) (h:(Instr.alloc t true (.tuple #[])).run P w=.ok v w'):(execOp ρ o).run P w=.ok (.value v) w':=by
 unfold execOp; rw [ho]; simp only [Sem.run_bind,h]; rfl
theorem op_field {P:Program} {w:World} {o:Oper} {ρ:Operand->Value} {t:TypeId} {x:Operand} {i:Nat} {p v:Value} (ho:o.op=.fieldAddr t x i) (hx:ρ x=p) (h:(Instr.fieldAt t p i).run P w=.ok v w):(execOp ρ o).run P w=.ok (.value v) w:=by
 unfold execOp; rw [ho]; subst hx; simp only [Sem.run_bind,h]; rfl
theorem op_buildSlice {P:Program} {w w':World} {o:Oper} {ρ:Operand->Value} {t:TypeId} {n:Nat} {ps:Array (Nat × Operand)} {qs:Array (Nat × Value)} {v:Value} (ho:o.op=.buildSlice t n ps) (hx:ps.map (fun (i,x) => (i,ρ x))=qs) (h:(Instr.buildSlice t n qs).run P w=.ok v w'):(execOp ρ o).run P w=.ok (.value v) w':=by
 unfold execOp; rw [ho]; subst hx; simp only [Sem.run_bind,h]; rfl
theorem op_enter {P:Program} {w:World} {o:Oper} {a:Act} {c:Call} {g:FuncId} {xs:Array Value} (ho:o.op=.call c) (hc:c.callee=.value (.func g)) (hx:c.args.map a.eval=xs) (he:∀ (args:Array Value) (w:World),(callFunc g args).run P w=.ok (.enter g args) w):(execOp a.eval o).run P w=.ok (.enter g xs) w:=by
 unfold execOp resolve; rw [ho]; simp only [hc,hx]; simp [go_sem,Act.eval,Deferred.ofValue,invoke,he]
theorem stepF_val {P:Program} {w w':World} {o:Oper} {K:Act->World->Prop} {Q:Exit->Act->World->Prop} {E:Prop} {ys:Nat->Option Bool} {F:(Nat->Value)->Act} {f f':Nat->Value} {v:Value} (hg:o.guard=none)
  (h:(execOp (F f).eval o).run P w=.ok (.value v) w') (hf:(F f).put o.dst v=F f') (hK:K (F f') w'):if Region.wanted o ys=true then Oper.wp P o (F f) w K Q else E:=by
 rw [if_pos (by simp [Region.wanted,hg])]
 unfold Oper.wp; rw [h,Oper.upon_value,hf]; exact hK
theorem stepF_skip {P:Program} {w w':World} {o:Oper} {K:Act->World->Prop} {Q:Exit->Act->World->Prop} {E:Prop} {ys:Nat->Option Bool} {F:(Nat->Value)->Act} {f:Nat->Value} (hg:o.guard=none) (hd:o.dst=none)
  (h:(execOp (F f).eval o).run P w=.ok .skip w') (hK:K (F f) w'):if Region.wanted o ys=true then Oper.wp P o (F f) w K Q else E:=by
 rw [if_pos (by simp [Region.wanted,hg])]
 unfold Oper.wp; rw [h,Oper.upon_skip,hd]; exact hK
theorem stepF_callR {P:Program} {w:World} {o:Oper} {K:Act->World->Prop} {Q:Exit->Act->World->Prop} {E:Prop} {ys:Nat->Option Bool} {F:(Nat->Value)->Act} {f:Nat->Value} {g:FuncId} {args:Array Value} {R:Ending->World->Prop} (hg:o.guard=none)
  (h:(execOp (F f).eval o).run P w=.ok (.enter g args) w) (hc:Calls P g args w R) (hK:∀ e w',R e w'->∃ v,e=.returned v/\K ((F f).put o.dst v) w'):if Region.wanted o ys=true then Oper.wp P o (F f) w K Q else E:=by
 rw [if_pos (by simp [Region.wanted,hg])]
 unfold Oper.wp; rw [h,Oper.upon_enter]
 refine hc.mono ?_
 intro e w' hR
 obtain ⟨v,rfl,hk⟩:=hK e w' hR
 exact hk
theorem done {D:Nat->Bool} {o:Oper} (h:∀ e ∈ o.after,Region.binds .any e=true->D e.on=true) (j:Nat) (hj:(o.after.any fun e => e.on == j && Region.binds .any e)=true):D j=true:=by
 rw [Array.any_eq_true'] at hj
 obtain ⟨e,he,h2⟩:=hj
 rw [Bool.and_eq_true] at h2
 have:=h e he h2.2
 rw [beq_iff_eq] at h2
 rw [← h2.1]; exact this
end Go.Proofs.YtjhhmdmmllblhaaGreatDoor.RegI
namespace Go.Proofs.YtjhhmdmmllblhaaGreatDoor.RegI
open Go.RowKit
set_option linter.unusedVariables false
theorem op_index {P:Program} {w:World} {o:Oper} {ρ:Operand->Value} {t:TypeId} {x y:Operand} {p q v:Value} (ho:o.op=.indexAddr t x y) (hx:ρ x=p) (hy:ρ y=q) (h:(Instr.indexAt t p q).run P w=.ok v w):(execOp ρ o).run P w=.ok (.value v) w:=by
 unfold execOp; rw [ho]; subst hx; subst hy; simp only [Sem.run_bind,h]; rfl
theorem op_bin {P:Program} {w:World} {o:Oper} {ρ:Operand->Value} {b:BinOp} {t u:TypeId} {x y:Operand} {p q v:Value} (ho:o.op=.binOp b t x y u) (hx:ρ x=p) (hy:ρ y=q) (h:(do eqGuard b t x y p q; binOp b t p q:Sem Value).run P w=.ok v w):(execOp ρ o).run P w=.ok (.value v) w:=by
 unfold execOp; rw [ho]; subst hx; subst hy; simp only [Sem.run_bind] at h ⊢; rw [h]; rfl
theorem op_build {P:Program} {w:World} {o:Oper} {ρ:Operand->Value} {t:TypeId} {ps:Array (Nat × Operand)} {qs:Array (Nat × Value)} {v:Value} (ho:o.op=.build t ps) (hx:ps.map (fun (i,x) => (i,ρ x))=qs) (h:(Instr.build t qs).run P w=.ok v w):(execOp ρ o).run P w=.ok (.value v) w:=by
 unfold execOp; rw [ho]; subst hx; simp only [Sem.run_bind,h]; rfl
def JM (W0:World) (last:Nat) (V:Nat->Value->World->Prop) (Fin:(Nat->Value)->World->Prop) (D:Nat->Bool) (f:Nat->Value) (w:World):Prop :=
 (D last=false/\Below W0.heap.size W0 w/\∀ i,i < last->D i=true->V i (f i) w) ∨ (D last=true/\(∀ i,i < last->D i=true)/\Fin f w)
theorem jm_start {W0 W:World} {last:Nat} {V:Nat->Value->World->Prop} {Fin:(Nat->Value)->World->Prop} (h:Below W0.heap.size W0 W) (f:Nat->Value):JM W0 last V Fin (fun _ => false) f W.drew :=
 .inl ⟨rfl,⟨h.os,h.tape,h.output,h.size,h.block⟩,fun i _ h => by simp at h⟩
theorem jm_live {W0:World} {last:Nat} {V:Nat->Value->World->Prop} {Fin:(Nat->Value)->World->Prop} {D:Nat->Bool} {f:Nat->Value} {w:World} (h:JM W0 last V Fin D f w) {i:Nat} (hi:i<=last) (hD:D i=false):D last=false/\Below W0.heap.size W0 w/\∀ i,i < last->D i=true->V i (f i) w:=by
 rcases h with h | ⟨h1,h2,h3⟩
 ·exact h
 ·rcases Nat.lt_or_eq_of_le hi with hi | rfl
  ·rw [h2 i hi] at hD; cases hD
  ·rw [h1] at hD; cases hD
theorem jm_step {W0:World} {last:Nat} {V:Nat->Value->World->Prop} {Fin:(Nat->Value)->World->Prop} {D:Nat->Bool} {f:Nat->Value} {w w':World} (hm:∀ i v w w',Below w.heap.size w w'->V i v w->V i v w') (h:JM W0 last V Fin D f w) {i:Nat} (hi:i < last) (hD:D i=false) {v:Value} (hb:Below w.heap.size w w') (hV:V i v w'):JM W0 last V Fin (upd D i) (updf f i v) w':=by
 obtain ⟨h1,h2,h3⟩:=jm_live h (Nat.le_of_lt hi) hD
 refine .inl ⟨by rw [upd_ne _ _ _ (by omega)]; exact h1,h2.trans (hb.mono h2.size),fun j hj hDj => ?_⟩
 by_cases e:j=i
 ·subst e; rw [updf_at]; exact hV
 ·rw [updf_ne _ _ _ _ e]; rw [upd_ne _ _ _ e] at hDj; exact hm _ _ _ _ hb (h3 j hj hDj)
theorem jm_last {W0:World} {last:Nat} {V:Nat->Value->World->Prop} {Fin:(Nat->Value)->World->Prop} {D:Nat->Bool} {f:Nat->Value} {w:World} (hall:∀ i,i < last->D i=true) (hF:Fin f w):JM W0 last V Fin (upd D last) f w :=
 .inr ⟨upd_at _ _,fun i hi => by rw [upd_ne _ _ _ (by omega)]; exact hall i hi,hF⟩
theorem jm_end {W0:World} {last:Nat} {V:Nat->Value->World->Prop} {Fin:(Nat->Value)->World->Prop} {D:Nat->Bool} {f:Nat->Value} {w:World} (h:JM W0 last V Fin D f w) (hD:D last=true):Fin f w:=by
 rcases h with ⟨h1,_⟩ | ⟨_,_,h⟩
 ·rw [h1] at hD; cases hD
 ·exact h
theorem b_ref (w:World):Below w.heap.size w w:=Below.refl _ _
end Go.Proofs.YtjhhmdmmllblhaaGreatDoor.RegI
namespace Go.Proofs.YtjhhmdmmllblhaaGreatDoor.RegI
open Go.RowKit
set_option linter.unusedVariables false
theorem op_assign {P:Program} {w:World} {o:Oper} {ρ:Operand->Value} {x:Operand} {v:Value} (ho:o.op=.assign x) (hx:ρ x=v):(execOp ρ o).run P w=.ok (.value v) w:=by
 unfold execOp; rw [ho]; subst hx; rfl
theorem op_slice {P:Program} {w:World} {o:Oper} {ρ:Operand->Value} {t:TypeId} {x:Operand} {a b c:Option Operand} {p v:Value} {a' b' c':Option Value} (ho:o.op=.slice t x a b c) (hx:ρ x=p) (ha:a.map ρ=a') (hb:b.map ρ=b') (hc:c.map ρ=c') (h:(Instr.sliceAt t p a' b' c').run P w=.ok v w):(execOp ρ o).run P w=.ok (.value v) w:=by
 unfold execOp; rw [ho]; subst hx; subst ha; subst hb; subst hc; simp only [Sem.run_bind,h]; rfl
def JP (T:Nat->Value) (E:Nat) (A B:World->Prop) (D:Nat->Bool) (f:Nat->Value) (w:World):Prop :=
 (∀ i,D i=true->f i=T i)/\(D E=false->A w)/\(D E=true->B w)
theorem jp_start {T:Nat->Value} {E:Nat} {A B:World->Prop} {w:World} (h:A w) (f:Nat->Value):JP T E A B (fun _ => false) f w :=
 ⟨fun i h => by simp at h,fun _ => h,fun h => by simp at h⟩
theorem jp_pure {T:Nat->Value} {E:Nat} {A B:World->Prop} {D:Nat->Bool} {f:Nat->Value} {w:World} (h:JP T E A B D f w) {i:Nat} {v:Value} (hi:i ≠ E) (hv:v=T i):JP T E A B (upd D i) (updf f i v) w:=by
 refine ⟨fun j hj => ?_,fun hE => h.2.1 (by rw [upd_ne _ _ _ (fun e => hi e.symm)] at hE; exact hE),fun hE => h.2.2 (by rw [upd_ne _ _ _ (fun e => hi e.symm)] at hE; exact hE)⟩
 by_cases e:j=i
 ·subst e; rw [updf_at]; exact hv
 ·rw [updf_ne _ _ _ _ e]; rw [upd_ne _ _ _ e] at hj; exact h.1 j hj
theorem jp_eff {T:Nat->Value} {E:Nat} {A B:World->Prop} {D:Nat->Bool} {f:Nat->Value} {w w':World} (h:JP T E A B D f w) {v:Value} (hv:v=T E) (hB:B w'):JP T E A B (upd D E) (updf f E v) w':=by
 refine ⟨fun j hj => ?_,fun (hE:upd D E E=false) => absurd hE (by rw [upd_at]; decide),fun _ => hB⟩
 by_cases e:j=E
 ·subst e; rw [updf_at]; exact hv
 ·rw [updf_ne _ _ _ _ e]; rw [upd_ne _ _ _ e] at hj; exact h.1 j hj
theorem region_fill0 {P:Program} {ops:Array Oper} {Q:Exit->Act->World->Prop} {id:Nat} {a:Act} {w:World} (l:List (Nat × Tmp)) (J:(Nat->Bool)->(Nat->Value)->World->Prop) {F:(Nat->Value)->Act} (hF:∀ f,fill a f l=F f) (hm:P.follows .mixedOrders=true) (hac:edges ops=true)
  (hf:F (fun i => (a.tmps[(l.lookup i).getD 0]?).getD undef)=a) (h0:J (fun _ => false) (fun i => (a.tmps[(l.lookup i).getD 0]?).getD undef) w.drew) (hs:∀ F',(∀ f,F' f=F f)->AllFrom (StepF P ops Q F' J) 0 ops.toList)
  (he:∀ D f w,J D f w->(∀ i,i < ops.size->D i=true)->Q .normal (F f) w):(Code.region id ops true).wp P Q a w:=by
 refine region_inv (fun D a' w' => ∃ f,a'=F f/\J D f w') hm hac ⟨_,hf.symm,h0⟩ (AllFrom.mono (fun i o h D a' w' hI hD hdep K hK => ?_) (hs F fun _ => rfl)) (fun D a' w' hI hall => ?_)
 ·obtain ⟨f,rfl,hJ⟩:=hI
  exact h D f w' hJ hD hdep K (fun f' w'' hJ' => hK _ _ ⟨f',rfl,hJ'⟩)
 ·obtain ⟨f,rfl,hJ⟩:=hI
  exact he D f w' hJ hall
def JPW (T:Nat->Value) (E S:Nat) (v0:Value) (A B:World->Prop) (D:Nat->Bool) (f:Nat->Value) (w:World):Prop :=
 JP T E A B D f w/\(D S=false->f S=v0)/\(D S=true->∀ i,i < S->D i=true)
theorem jpw_start {T:Nat->Value} {E S:Nat} {v0:Value} {A B:World->Prop} {w:World} (h:A w) {f:Nat->Value} (hv:f S=v0):JPW T E S v0 A B (fun _ => false) f w:=⟨jp_start h f,fun _ => hv,fun h => by simp at h⟩
theorem jpw_pure {T:Nat->Value} {E S:Nat} {v0:Value} {A B:World->Prop} {D:Nat->Bool} {f:Nat->Value} {w:World} (h:JPW T E S v0 A B D f w) {i:Nat} {v:Value} (hi:i ≠ E) (hs:i ≠ S) (hv:v=T i):JPW T E S v0 A B (upd D i) (updf f i v) w:=by
 refine ⟨jp_pure h.1 hi hv,fun hS => ?_,fun hS j hj => ?_⟩
 ·rw [upd_ne _ _ _ (fun e => hs e.symm)] at hS; rw [updf_ne _ _ _ _ (fun e => hs e.symm)]; exact h.2.1 hS
 ·rw [upd_ne _ _ _ (fun e => hs e.symm)] at hS
  by_cases e:j=i
  ·subst e; exact upd_at _ _
  ·rw [upd_ne _ _ _ e]; exact h.2.2 hS j hj
theorem jpw_eff {T:Nat->Value} {E S:Nat} {v0:Value} {A B:World->Prop} {D:Nat->Bool} {f:Nat->Value} {w w':World} (h:JPW T E S v0 A B D f w) (hES:S ≠ E) {v:Value} (hv:v=T E) (hB:B w'):JPW T E S v0 A B (upd D E) (updf f E v) w':=by
 refine ⟨jp_eff h.1 hv hB,fun hS => ?_,fun hS j hj => ?_⟩
 ·rw [upd_ne _ _ _ hES] at hS; rw [updf_ne _ _ _ _ hES]; exact h.2.1 hS
 ·rw [upd_ne _ _ _ hES] at hS
  by_cases e:j=E
  ·subst e; exact upd_at _ _
  ·rw [upd_ne _ _ _ e]; exact h.2.2 hS j hj
theorem jpw_last {T:Nat->Value} {E S:Nat} {v0:Value} {A B:World->Prop} {D:Nat->Bool} {f:Nat->Value} {w:World} (h:JPW T E S v0 A B D f w) {v:Value} (hi:S ≠ E) (hv:v=T S) (hall:∀ i,i < S->D i=true):JPW T E S v0 A B (upd D S) (updf f S v) w:=by
 refine ⟨jp_pure h.1 hi hv,fun (hS:upd D S S=false) => absurd hS (by rw [upd_at]; decide),fun _ j hj => ?_⟩
 rw [upd_ne _ _ _ (by omega)]; exact hall j hj
theorem jpw_v0 {T:Nat->Value} {E S:Nat} {v0:Value} {A B:World->Prop} {D:Nat->Bool} {f:Nat->Value} {w:World} (h:JPW T E S v0 A B D f w) {i:Nat} (hi:i < S) (hD:D i=false):f S=v0:=by
 refine h.2.1 ?_
 cases hS:D S with
 | false => rfl
 | true => rw [h.2.2 hS i hi] at hD; cases hD
end Go.Proofs.YtjhhmdmmllblhaaGreatDoor.RegI
namespace Go.Proofs.YtjhhmdmmllblhaaGreatDoor.NmV
open Go.RowKit Go.Shelf
open ExM NmM Kit ExL ExV
set_option linter.unusedVariables false
attribute [local go_sem] Oper.semAt_some
abbrev Nm:={ s:ByteArray // s.size<=maxLen }
def encs (x:Nm):Array Value:=#[.string x.1]
def bare (l:List Nm):List ByteArray:=l.map Subtype.val
theorem bare_append (l m:List Nm):bare (l ++ m)=bare l ++ bare m:=List.map_append
theorem bare_len (l:List Nm):(bare l).length=l.length:=List.length_map _
def VOut (w0:World) (n₁:Nat) (J Jx:List Nm->World->Prop) (pre:List Nm) (P:List ByteArray) (W:World) (e:Ending) (W':World):Prop :=
 (e=.returned (.bool true)/\(∃ ys:List Nm,bare ys=P/\J (pre ++ ys) W')/\Kp w0.heap.size n₁ W W') ∨ (e=.returned (.bool false)/\∃ q:List Nm,bare q <+: P/\Jx (pre ++ q) W')
structure VInv (w0:World) (n₁:Nat) (J:List Nm->World->Prop) (pre:List Nm) (P:List ByteArray) (W:World) (ys:List Nm) (wr:World):Prop where
 is:bare ys=P
 j:J (pre ++ ys) wr
 kp:Kp w0.heap.size n₁ W wr
 below:Below w0.heap.size w0 wr
 le:n₁<=wr.heap.size
theorem VInv.step {w0:World} {n₁:Nat} {J:List Nm->World->Prop} {pre:List Nm} {p0:List ByteArray} {l:List Ex} {k:Nat} {W wr w2:World} {ys zs:List Nm} {o:Obj} (h:VInv w0 n₁ J pre (p0 ++ refsL (l.take k)) W ys wr) (hk:k < l.length)
  (hz:bare zs=Ex.refs l[k]) (hj:J (pre ++ ys ++ zs) w2) (hp:Kp w0.heap.size n₁ (wr.alloc o) w2):VInv w0 n₁ J pre (p0 ++ refsL (l.take (k + 1))) W (ys ++ zs) w2:=by
 have hp2:Kp w0.heap.size n₁ wr w2:=(Kp.alloc o h.below.size).trans hp
 exact ⟨by rw [bare_append,h.is,hz,refsL_at l k hk,List.append_assoc],by rw [← List.append_assoc]; exact hj,h.kp.trans hp2,h.below.trans hp2.below,by have:=hp2.below.size; have:=h.le; omega⟩
set_option maxRecDepth 100000 in
set_option maxHeartbeats 2000000 in
theorem visit_in (F:Fence) (hd:F.depth=none) (hv:F.fn 130) (hro:F.round=none) (l n₁ N:Nat) (w0:World) (J Jx:List Nm->World->Prop)
  (hJ:∀ s W o,J s W->J s (W.alloc o))
  (hY:∀ m pre (x:Nm) W,J pre W->pre.length < N->YieldAt F m Tryz.prog l (encs x) W fun e W' => (e=.returned (.bool true)/\J (pre ++ [x]) W'/\Kp w0.heap.size n₁ W W') ∨ (e=.returned (.bool false)/\Jx (pre ++ [x]) W')) :
  ∀ (x:Ex) (d:Nd) (A:Option Addr) (m c:Nat) (n:Nat) (pre:List Nm) (W:World),Is w0 x d A m->Below w0.heap.size w0 W->n₁<=W.heap.size->J pre W->pre.length + (Ex.refs x).length<=N →
   CallsIn F n Tryz.prog 130 #[.agg #[.int .i64 d.op,.int .i64 d.k,.int .i64 d.n,.string d.s,.string d.nm,.slice A m c],.func (.yield l) #[] #[]] W (VOut w0 n₁ J Jx pre (Ex.refs x) W):=by
 refine Ex.ind fun d l' ih => ?_
 intro d' A m c n pre W his hB hn hj hN
 rw [is_mk] at his
 obtain ⟨rfl,rfl,⟨hm,hs1,hs2⟩,his⟩:=his
 have hdd:∀ k:Nat,(F.depth.isSome=true->1<=k):=fun k h => by rw [hd] at h; cases h
 obtain ⟨p0,hp0⟩:∃ p0,(if d'.op=2 then [d'.nm] else [])=p0:=⟨_,rfl⟩
 have hrf:Ex.refs (.mk d' l')=p0 ++ refsL l':=by rw [refs_mk,hp0]
 rw [hrf] at hN ⊢
 rw [List.length_append] at hN
 have hj1:=hJ _ _ (.cells #[.int .i64 d'.op,.int .i64 d'.k,.int .i64 d'.n,.string d'.s,.string d'.nm,.slice A l'.length c] 45) hj
 have HS:=Lib.hid his
 have HI:=Lib.hid ih
 have HN:=Lib.hid hN
 clear his ih hrf hN
 unfold maxLen at hm
 by_cases hop:d'.op=2
 ·rw [if_pos hop] at hp0
  have hy1:=hY (n - 1) pre ⟨d'.nm,hs2⟩ _ hj1 (by have:=HN.out; rw [← hp0] at this; simp at this; omega)
  obtain ⟨fn,tmps,assign,body,hy,hR⟩:=hy1
  unfold encs at hy
  dsimp only at hy
  have HR:=Lib.hid hR
  have HP:=Lib.hid hp0
  have t0:(d'.op == 2)=true:=beq_iff_eq.2 hop
  clear hj hj1 hR hp0 hop
  refine callsIn_of_wp Tryz.func130 rfl hv ?_ hro
  simp only [Tryz.ntmps130,List.size_toArray,List.length_cons,List.length_nil,Nat.reduceAdd,Nat.reduceSub,Array.replicate_succ,Array.replicate_zero,List.push_toArray,List.append_toArray,List.nil_append,List.cons_append]
  gi_wp2_with fail
  refine HR.out.mono ?_; clear HR hy; rintro e W1 (⟨rfl,hj1,hk1⟩ | ⟨rfl,hx1⟩)
  ·have hc5:W1.cell? ⟨W.heap.size,5,none⟩=some (.slice A l'.length c):=by rw [hk1.box hn]; rfl
   have hkW:Kp w0.heap.size n₁ W W1:=(Kp.alloc _ hB.size).trans hk1
   have hI0:VInv w0 n₁ J pre (p0 ++ refsL (l'.take 0)) W [⟨d'.nm,hs2⟩] W1:=⟨by rw [← HP.out]; simp [bare,refsL_nil],hj1,hkW,hB.trans hkW.below,by have:=hkW.below.size; omega⟩
   have HI0:=Lib.hid hI0
   clear hI0 hkW hk1 hj1 t0
   gi_wp2_with fail
   gi_loopw [6,20] (fun _ i wr => ∃ (k:Nat) (ys:List Nm),i=.int .i64 k/\k<=l'.length/\VInv w0 n₁ J pre (p0 ++ refsL (l'.take k)) W ys wr) (fun _ i _ => l'.length - (intOf i).toNat)
   case atStart => exact ⟨0,_,rfl,Nat.zero_le _,HI0.out⟩
   case round =>
    obtain ⟨k,ys,rfl,hk,hV⟩:=hrel
    have HV:=Lib.hid hV
    clear hV
    by_cases hlt:k < l'.length
    ·obtain ⟨a,d2,B,m2,c2,rfl,hat,hi⟩:=HS.out k hlt
     obtain ⟨h0,h1,h2,h3,h4,h5⟩:=hat.below HV.out.below
     have hVb:=HV.out.below
     have hVn:=HV.out.le
     have hcx:=HI.out _ (List.getElem_mem hlt) d2 B m2 c2 (n - 1) (pre ++ ys) (wr.alloc (.cells #[.int .i64 d2.op,.int .i64 d2.k,.int .i64 d2.n,.string d2.s,.string d2.nm,.slice B m2 c2] 45)) hi (hVb.trans ((b_new _ _).mono hVb.size)) (by simp; omega) (hJ _ _ _ HV.out.j) (by
      have e1:ys.length=(p0 ++ refsL (l'.take k)).length:=by rw [← HV.out.is,bare_len]
      have e2:=congrArg List.length (refsL_at l' k hlt)
      have e3:=refsL_take l' (k + 1)
      have e4:=HN.out
      rw [List.length_append] at e1 e2
      rw [List.length_append,e1]; omega)
     have HC:=Lib.hid hcx
     clear hcx hat hi hVb
     gi_wp2_with fail
     refine HC.out.mono ?_; rintro e w2 (⟨rfl,⟨zs,hz,hjz⟩,hkz⟩ | ⟨rfl,q,hq,hxq⟩)
     ·have hN:VInv w0 n₁ J pre (p0 ++ refsL (l'.take (k + 1))) W (ys ++ zs) w2:=HV.out.step hlt hz hjz hkz
      have HN2:=Lib.hid hN
      clear hN hz hjz hkz
      gi_wp2_with fail
      go_roundw
      case rel => exact ⟨k + 1,_,by go_num,by omega,HN2.out⟩
      case measure => simp [intOf]; omega
     ·have hO:VOut w0 n₁ J Jx pre (p0 ++ refsL l') W (.returned (.bool false)) w2:=.inr ⟨rfl,ys ++ q,by
       rw [bare_append,HV.out.is,List.append_assoc]
       exact (List.prefix_append_right_inj _).2 (refs_prefix l' k hlt hq),by rw [← List.append_assoc]; exact hxq⟩
      have HO:=Lib.hid hO
      clear hO hq hxq
      gi_wp2_with fail
      go_ret
      exact HO.out
    ·have hkl:k=l'.length:=by omega
     have hO:VOut w0 n₁ J Jx pre (p0 ++ refsL l') W (.returned (.bool true)) wr:=.inl ⟨rfl,⟨ys,by rw [HV.out.is,hkl,List.take_length],HV.out.j⟩,HV.out.kp⟩
     have HO:=Lib.hid hO
     clear hO hkl
     gi_wp2_with fail
     go_ret
     exact HO.out
  ·have hO:VOut w0 n₁ J Jx pre (p0 ++ refsL l') W (.returned (.bool false)) W1:=.inr ⟨rfl,[⟨d'.nm,hs2⟩],by rw [← HP.out]; exact (List.prefix_cons_inj _).2 List.nil_prefix,hx1⟩
   have HO:=Lib.hid hO
   clear hO hx1
   gi_wp2_with fail
   go_ret
   exact HO.out
 ·rw [if_neg hop] at hp0
  have hkW:Kp w0.heap.size n₁ W (W.alloc (.cells #[.int .i64 d'.op,.int .i64 d'.k,.int .i64 d'.n,.string d'.s,.string d'.nm,.slice A l'.length c] 45)):=Kp.alloc _ hB.size
  have hI0:VInv w0 n₁ J pre (p0 ++ refsL (l'.take 0)) W [] (W.alloc (.cells #[.int .i64 d'.op,.int .i64 d'.k,.int .i64 d'.n,.string d'.s,.string d'.nm,.slice A l'.length c] 45)):=⟨by rw [← hp0]; simp [bare,refsL_nil],by rw [List.append_nil]; exact hj1,hkW,hB.trans hkW.below,by have:=hkW.below.size; omega⟩
  have HI0:=Lib.hid hI0
  have t0:(d'.op == 2)=false:=beq_eq_false_iff_ne.2 hop
  clear hj hj1 hp0 hop hI0 hkW
  refine callsIn_of_wp Tryz.func130 rfl hv ?_ hro
  simp only [Tryz.ntmps130,List.size_toArray,List.length_cons,List.length_nil,Nat.reduceAdd,Nat.reduceSub,Array.replicate_succ,Array.replicate_zero,List.push_toArray,List.append_toArray,List.nil_append,List.cons_append]
  gi_wp2_with fail
  refine ⟨fun _ h => (by cases h),?_⟩
  gi_wp2_with fail
  gi_loopw [6,20] (fun _ i wr => ∃ (k:Nat) (ys:List Nm),i=.int .i64 k/\k<=l'.length/\VInv w0 n₁ J pre (p0 ++ refsL (l'.take k)) W ys wr) (fun _ i _ => l'.length - (intOf i).toNat)
  case atStart => exact ⟨0,_,rfl,Nat.zero_le _,HI0.out⟩
  case round =>
   obtain ⟨k,ys,rfl,hk,hV⟩:=hrel
   have HV:=Lib.hid hV
   clear hV
   by_cases hlt:k < l'.length
   ·obtain ⟨a,d2,B,m2,c2,rfl,hat,hi⟩:=HS.out k hlt
    obtain ⟨h0,h1,h2,h3,h4,h5⟩:=hat.below HV.out.below
    have hVb:=HV.out.below
    have hVn:=HV.out.le
    have hcx:=HI.out _ (List.getElem_mem hlt) d2 B m2 c2 (n - 1) (pre ++ ys) (wr.alloc (.cells #[.int .i64 d2.op,.int .i64 d2.k,.int .i64 d2.n,.string d2.s,.string d2.nm,.slice B m2 c2] 45)) hi (hVb.trans ((b_new _ _).mono hVb.size)) (by simp; omega) (hJ _ _ _ HV.out.j) (by
     have e1:ys.length=(p0 ++ refsL (l'.take k)).length:=by rw [← HV.out.is,bare_len]
     have e2:=congrArg List.length (refsL_at l' k hlt)
     have e3:=refsL_take l' (k + 1)
     have e4:=HN.out
     rw [List.length_append] at e1 e2
     rw [List.length_append,e1]; omega)
    have HC:=Lib.hid hcx
    clear hcx hat hi hVb
    gi_wp2_with fail
    refine HC.out.mono ?_; rintro e w2 (⟨rfl,⟨zs,hz,hjz⟩,hkz⟩ | ⟨rfl,q,hq,hxq⟩)
    ·have hN:VInv w0 n₁ J pre (p0 ++ refsL (l'.take (k + 1))) W (ys ++ zs) w2:=HV.out.step hlt hz hjz hkz
     have HN2:=Lib.hid hN
     clear hN hz hjz hkz
     gi_wp2_with fail
     go_roundw
     case rel => exact ⟨k + 1,_,by go_num,by omega,HN2.out⟩
     case measure => simp [intOf]; omega
    ·have hO:VOut w0 n₁ J Jx pre (p0 ++ refsL l') W (.returned (.bool false)) w2:=.inr ⟨rfl,ys ++ q,by
      rw [bare_append,HV.out.is,List.append_assoc]
      exact (List.prefix_append_right_inj _).2 (refs_prefix l' k hlt hq),by rw [← List.append_assoc]; exact hxq⟩
     have HO:=Lib.hid hO
     clear hO hq hxq
     gi_wp2_with fail
     go_ret
     exact HO.out
   ·have hkl:k=l'.length:=by omega
    have hO:VOut w0 n₁ J Jx pre (p0 ++ refsL l') W (.returned (.bool true)) wr:=.inl ⟨rfl,⟨ys,by rw [HV.out.is,hkl,List.take_length],HV.out.j⟩,HV.out.kp⟩
    have HO:=Lib.hid hO
    clear hO hkl
    gi_wp2_with fail
    go_ret
    exact HO.out
set_option maxRecDepth 100000 in
set_option maxHeartbeats 1000000 in
theorem refs_stops (F:Fence) (hd:F.depth=none) (hn1:F.fn 129) (hv:F.fn 130) (hro:F.round=none) (n Bx:Nat) (w0 w:World) (x:Ex) (d:Nd) (A:Option Addr) (m c:Nat)
  (his:Is w0 x d A m) (hb:Below w0.heap.size w0 w) (hbox:Box w Bx d A m c) :
  SeqStopsK F n Tryz.prog 129 #[.pointer (some ⟨Bx,0,none⟩)] encs (Kp w0.heap.size w.heap.size) (fun ys => bare ys=Ex.refs x) (fun q => bare q <+: Ex.refs x) (Ex.refs x).length w:=by
 intro l J Jx W hW hJ hJx hY h0
 have hdd:∀ k:Nat,(F.depth.isSome=true->1<=k):=fun k h => by rw [hd] at h; cases h
 obtain ⟨b0,b1,b2,b3,b4,b5⟩:=(hbox.below hW).cells
 have hp:=visit_in F hd hv hro l w.heap.size (Ex.refs x).length w0 J Jx (fun s W o hs => hJ s W _ none hs (World.grownBy_alloc W o none) (fun r e => by cases e)) (fun m pre x W hj hl => anyDepth hd m (hY pre x W hj hl)) x d A m c (n - 1) [] W his (hb.trans (hW.mono hb.size)) hW.size h0 (by simp)
 have HP:=Lib.hid hp
 clear hp his hb hbox hW hJ hJx hY h0
 refine callsIn_of_wp Tryz.func129 rfl hn1 ?_ hro
 simp only [Tryz.ntmps129,List.size_toArray,List.length_cons,List.length_nil,Nat.reduceAdd,Nat.reduceSub,Array.replicate_succ,Array.replicate_zero,List.push_toArray,List.append_toArray,List.nil_append,List.cons_append]
 gi_wp2_with fail
 refine HP.out.mono ?_; rintro e w2 (⟨rfl,⟨zs,hz,hjz⟩,hkz⟩ | ⟨rfl,q,hq,hxq⟩)
 ·rw [List.nil_append] at hjz
  have HO:=Lib.hid (And.intro hz hjz)
  clear hz hjz hkz
  gi_wp2_with fail
  go_end0
  exact ⟨⟨_,rfl⟩,.inl ⟨zs,HO.out⟩⟩
 ·rw [List.nil_append] at hxq
  have HO:=Lib.hid (And.intro hq hxq)
  clear hq hxq
  gi_wp2_with fail
  go_end0
  exact ⟨⟨_,rfl⟩,.inr ⟨q,HO.out⟩⟩
theorem refs_in (F:Fence) (n:Nat) (hf:F.fn 105) (hro:F.round=none) (d:Nd) (A:Option Addr) (m c:Nat) (w:World) :
  CallsIn F n Tryz.prog 105 #[.agg #[.int .i64 d.op,.int .i64 d.k,.int .i64 d.n,.string d.s,.string d.nm,.slice A m c]] w fun e w' => e=.returned (.func (.func 129) #[] #[.pointer (some ⟨w.heap.size,0,none⟩)])/\w'=w.alloc (.cells #[.int .i64 d.op,.int .i64 d.k,.int .i64 d.n,.string d.s,.string d.nm,.slice A m c] 45):=by
 refine callsIn_of_wp Tryz.func105 rfl hf ?_ hro
 simp only [Tryz.ntmps105,List.size_toArray,List.length_cons,List.length_nil,Nat.reduceAdd,Nat.reduceSub,Array.replicate_succ,Array.replicate_zero,List.push_toArray,List.append_toArray,List.nil_append,List.cons_append]
 gi_wp2
 go_ret
 exact ⟨rfl,rfl⟩
end Go.Proofs.YtjhhmdmmllblhaaGreatDoor.NmV
namespace Go.Proofs.YtjhhmdmmllblhaaGreatDoor.NmH
open Go.RowKit Go.Shelf
open ExM NmM Kit ExL ExV NmV
set_option linter.unusedVariables false
attribute [local go_sem] Oper.semAt_some
end Go.Proofs.YtjhhmdmmllblhaaGreatDoor.NmH
namespace Go.Proofs
open Go.Shelf
def Tryz.keys107_ren:Go.Shelf.Ren:=⟨fun | 7 => 107 | 10 => 133 | n => n,fun | 23 => 102 | 26 => 9 | 3 => 4 | 28 => 166 | 0 => 0 | 27 => 165 | 33 => 138 | 4 => 4 | n => n,fun | n => n⟩
theorem Tryz.keys107:Go.Proofs.SlLaysZ.n7 Tryz.prog Tryz.keys107_ren:={
 mixed:=by kernel_rfl
 f7:=⟨Tryz.f107.name,by decide,Tryz.func107.trans (congrArg some (by kernel_rfl))⟩
 f10:=⟨Tryz.f133.name,by decide,Tryz.func133.trans (congrArg some (by kernel_rfl))⟩
 t0:=Tryz.underlying0
 a0:=Tryz.isAgg0
 z0:=Tryz.sizeOf0
 v0:=Tryz.zeroValue0
 t4:=Tryz.underlying4
 a4:=Tryz.isAgg4
 z4:=Tryz.sizeOf4
 v4:=Tryz.zeroValue4
 t23:=Tryz.underlying102
 a23:=Tryz.isAgg102
 z23:=Tryz.sizeOf102
 v23:=Tryz.zeroValue102
 t26:=Tryz.underlying9
 a26:=Tryz.isAgg9
 z26:=Tryz.sizeOf9
 v26:=Tryz.zeroValue9
 t27:=Tryz.underlying165
 a27:=Tryz.isAgg165
 z27:=Tryz.sizeOf165
 v27:=Tryz.zeroValue165
 t28:=Tryz.underlying166
 a28:=Tryz.isAgg166
 z28:=Tryz.sizeOf166
 v28:=Tryz.zeroValue166
 t33:=Tryz.underlying138
 a33:=Tryz.isAgg138
 z33:=Tryz.sizeOf138
 v33:=Tryz.zeroValue138 }
def Tryz.sorted106_ren:Go.Shelf.Ren:=⟨fun | 6 => 106 | 8 => 131 | 9 => 132 | 11 => 150 | 13 => 152 | 12 => 151 | 23 => 171 | 24 => 172 | 14 => 162 | 15 => 163 | 16 => 164 | 17 => 165 | 18 => 166 | 19 => 167 | 20 => 168 | 21 => 169 | 22 => 170 | 25 => 181 | 26 => 182 | 27 => 183 | 28 => 184 | 29 => 185 | 30 => 186 | 31 => 198 | n => n,fun | 26 => 9 | 28 => 166 | 24 => 31 | 0 => 0 | 3 => 3 | 37 => 156 | 48 => 186 | 50 => 201 | 4 => 4 | 40 => 222 | 39 => 221 | 45 => 226 | 5 => 5 | 9 => 9 | 51 => 236 | 55 => 240 | 57 => 254 | 58 => 145 | 33 => 138 | n => n,fun | n => n⟩
theorem Tryz.sorted106:Go.Proofs.SlLaysZ.n6 Tryz.prog Tryz.sorted106_ren:={
 mixed:=by kernel_rfl
 f6:=⟨Tryz.f106.name,by decide,Tryz.func106.trans (congrArg some (by kernel_rfl))⟩
 f8:=⟨Tryz.f131.name,by decide,Tryz.func131.trans (congrArg some (by kernel_rfl))⟩
 f11:=⟨Tryz.f150.name,by decide,Tryz.func150.trans (congrArg some (by kernel_rfl))⟩
 t0:=Tryz.underlying0
 a0:=Tryz.isAgg0
 z0:=Tryz.sizeOf0
 v0:=Tryz.zeroValue0
 t24:=Tryz.underlying31
 a24:=Tryz.isAgg31
 z24:=Tryz.sizeOf31
 v24:=Tryz.zeroValue31
 t26:=Tryz.underlying9
 a26:=Tryz.isAgg9
 z26:=Tryz.sizeOf9
 v26:=Tryz.zeroValue9
 t28:=Tryz.underlying166
 a28:=Tryz.isAgg166
 z28:=Tryz.sizeOf166
 v28:=Tryz.zeroValue166
 i26:=by kernel_rfl }
def Tryz.sort132_ren:Go.Shelf.Ren:=⟨fun | 6 => 132 | 8 => 152 | 9 => 151 | 19 => 171 | 20 => 172 | 21 => 162 | 22 => 163 | 23 => 164 | 24 => 165 | 25 => 166 | 26 => 167 | 27 => 168 | 28 => 169 | 29 => 170 | 36 => 181 | 31 => 182 | 32 => 183 | 37 => 184 | 38 => 185 | 39 => 186 | 41 => 198 | n => n,fun | 27 => 31 | 29 => 9 | 3 => 3 | 32 => 156 | 26 => 31 | 0 => 0 | 44 => 186 | 46 => 201 | 4 => 4 | 36 => 222 | 35 => 221 | 41 => 226 | 5 => 5 | 9 => 9 | 53 => 236 | 57 => 240 | 63 => 254 | 64 => 145 | n => n,fun | n => n⟩
theorem Tryz.sort132:Go.Proofs.SlLaysM.n6 Tryz.prog Tryz.sort132_ren:={
 mixed:=by kernel_rfl
 f6:=⟨Tryz.f132.name,by decide,Tryz.func132.trans (congrArg some (by kernel_rfl))⟩
 f8:=Tryz.func152.trans (congrArg some (by kernel_rfl))
 f9:=⟨Tryz.f151.name,by decide,Tryz.func151.trans (congrArg some (by kernel_rfl))⟩
 f19:=Tryz.func171.trans (congrArg some (by kernel_rfl))
 f20:=Tryz.func172.trans (congrArg some (by kernel_rfl))
 f21:=⟨Tryz.f162.name,by decide,Tryz.func162.trans (congrArg some (by kernel_rfl))⟩
 f22:=⟨Tryz.f163.name,by decide,Tryz.func163.trans (congrArg some (by kernel_rfl))⟩
 f23:=⟨Tryz.f164.name,by decide,Tryz.func164.trans (congrArg some (by kernel_rfl))⟩
 f24:=⟨Tryz.f165.name,by decide,Tryz.func165.trans (congrArg some (by kernel_rfl))⟩
 f25:=⟨Tryz.f166.name,by decide,Tryz.func166.trans (congrArg some (by kernel_rfl))⟩
 f26:=⟨Tryz.f167.name,by decide,Tryz.func167.trans (congrArg some (by kernel_rfl))⟩
 f27:=⟨Tryz.f168.name,by decide,Tryz.func168.trans (congrArg some (by kernel_rfl))⟩
 f28:=⟨Tryz.f169.name,by decide,Tryz.func169.trans (congrArg some (by kernel_rfl))⟩
 f29:=⟨Tryz.f170.name,by decide,Tryz.func170.trans (congrArg some (by kernel_rfl))⟩
 f31:=Tryz.func182.trans (congrArg some (by kernel_rfl))
 f32:=Tryz.func183.trans (congrArg some (by kernel_rfl))
 f36:=⟨Tryz.f181.name,by decide,Tryz.func181.trans (congrArg some (by kernel_rfl))⟩
 f37:=⟨Tryz.f184.name,by decide,Tryz.func184.trans (congrArg some (by kernel_rfl))⟩
 f38:=⟨Tryz.f185.name,by decide,Tryz.func185.trans (congrArg some (by kernel_rfl))⟩
 f39:=⟨Tryz.f186.name,by decide,Tryz.func186.trans (congrArg some (by kernel_rfl))⟩
 f41:=⟨Tryz.f198.name,by decide,Tryz.func198.trans (congrArg some (by kernel_rfl))⟩
 t0:=Tryz.underlying0
 a0:=Tryz.isAgg0
 z0:=Tryz.sizeOf0
 v0:=Tryz.zeroValue0
 t3:=Tryz.underlying3
 a3:=Tryz.isAgg3
 z3:=Tryz.sizeOf3
 v3:=Tryz.zeroValue3
 t4:=Tryz.underlying4
 a4:=Tryz.isAgg4
 z4:=Tryz.sizeOf4
 v4:=Tryz.zeroValue4
 t5:=Tryz.underlying5
 a5:=Tryz.isAgg5
 z5:=Tryz.sizeOf5
 v5:=Tryz.zeroValue5
 t9:=Tryz.underlying9
 a9:=Tryz.isAgg9
 z9:=Tryz.sizeOf9
 v9:=Tryz.zeroValue9
 t26:=Tryz.underlying31
 a26:=Tryz.isAgg31
 z26:=Tryz.sizeOf31
 v26:=Tryz.zeroValue31
 t27:=Tryz.underlying31
 a27:=Tryz.isAgg31
 z27:=Tryz.sizeOf31
 v27:=Tryz.zeroValue31
 t29:=Tryz.underlying9
 a29:=Tryz.isAgg9
 z29:=Tryz.sizeOf9
 v29:=Tryz.zeroValue9
 t32:=Tryz.underlying156
 a32:=Tryz.isAgg156
 z32:=Tryz.sizeOf156
 v32:=Tryz.zeroValue156
 t35:=Tryz.underlying221
 a35:=Tryz.isAgg221
 z35:=Tryz.sizeOf221
 v35:=Tryz.zeroValue221
 t36:=Tryz.underlying222
 a36:=Tryz.isAgg222
 z36:=Tryz.sizeOf222
 v36:=Tryz.zeroValue222
 t41:=Tryz.underlying226
 a41:=Tryz.isAgg226
 z41:=Tryz.sizeOf226
 v41:=Tryz.zeroValue226
 t44:=Tryz.underlying186
 a44:=Tryz.isAgg186
 z44:=Tryz.sizeOf186
 v44:=Tryz.zeroValue186
 t46:=Tryz.underlying201
 a46:=Tryz.isAgg201
 z46:=Tryz.sizeOf201
 v46:=Tryz.zeroValue201
 t53:=Tryz.underlying236
 a53:=Tryz.isAgg236
 z53:=Tryz.sizeOf236
 v53:=Tryz.zeroValue236
 t57:=Tryz.underlying240
 a57:=Tryz.isAgg240
 z57:=Tryz.sizeOf240
 v57:=Tryz.zeroValue240
 t63:=Tryz.underlying254
 a63:=Tryz.isAgg254
 z63:=Tryz.sizeOf254
 v63:=Tryz.zeroValue254
 t64:=Tryz.underlying145
 a64:=Tryz.isAgg145
 z64:=Tryz.sizeOf145
 v64:=Tryz.zeroValue145 }
open Go.RowKit Go.Maps Go.Sort in
theorem Tryz.sorts106 (m:Nat):AnyZ.SortsIn Tryz.prog Tryz.sorted106_ren Fence.wide m :=
 ⟨fun blk off cap ss W hH hblk hsz => callsIn_wide.2 (AnyM.slices_Sort_string Tryz.sort132 blk off cap ss W hH hblk hsz),
  fun p cap W => callsIn_wide.2 (AnyM.slices_Sort_string_none Tryz.sort132 p cap W)⟩
open Go.RowKit Go.Maps Go.Sort in
theorem Tryz.maps_Keys_107 (mb:Option Nat) (W:World):CallsIn Fence.wide 5 Tryz.prog 107 #[.map mb] W fun e w' => e=.returned (.func (.func 133) #[] #[.pointer (some ⟨W.heap.size,0,none⟩)])/\w'=W.alloc (.cells #[.map mb] 102) :=
 AnyZ.keys_in Tryz.keys107 Fence.wide 5 trivial rfl mb W
open Go.RowKit Go.Maps Go.Sort in
theorem Tryz.slices_Sorted_keys_106_107 {H:Type} (b nn:Nat) (D0:DataW H) (R:Value->Option (DataW H × List MemPlace)) (w:World) (hown:w.ownsMap Tryz.prog 9 R b nn D0) (hmax:Maps.size D0<=maxLen) (hbytes:Maps.size D0 * 16<=140737488355328) :
  CallsIn Fence.wide 5 Tryz.prog 106 #[.func (.func 133) #[] #[.pointer (some ⟨w.heap.size,0,none⟩)]] (w.alloc (.cells #[.map (some b)] 102)) fun e w' => ∃ (v:Value) (ss:List (List UInt8)),e=.returned v/\ss.Perm (strKeys D0) ∧
   w'.ownsRow (w.alloc (.cells #[.map (some b)] 102)).heap.size 9 1 v ss.length ((ss.mergeSort (fun x y => decide (x<=y))).map encStr)/\(v=.slice none 0 0 ↔ ss=[])/\Below (w.alloc (.cells #[.map (some b)] 102)).heap.size (w.alloc (.cells #[.map (some b)] 102)) w':=by
 have hbl:=hown.lt
 have hseq:SeqGives Fence.wide 2 Tryz.prog 133 #[.pointer (some ⟨w.heap.size,0,none⟩)] encStr (fun ss => ss.Perm (strKeys D0)) (Maps.size D0) (w.alloc (.cells #[.map (some b)] 102)) :=
  AnyZ.keys_gives (ρ:=Tryz.keys107_ren) { Tryz.keys107 with } Fence.wide _ trivial rfl (by omega) w.heap.size b nn D0 _ (by simp) (by simp) (by
   obtain ⟨es,clock,hb,Ft,hs,hD⟩:=hown
   exact ⟨es,clock,(Below.heap_alloc _ _ b hbl).trans hb,Ft,hs,hD⟩)
 exact AnyZ.sorted_in Tryz.sorted106 Fence.wide 5 trivial trivial trivial trivial rfl (by omega) (Tryz.sorts106 _) (enters_of Tryz.func132 (by kernel_rfl) rfl) 133 #[.pointer (some ⟨w.heap.size,0,none⟩)] trivial (enters_of Tryz.func133 (by kernel_rfl) rfl) _ _ hmax hbytes _ hseq
end Go.Proofs
namespace Go.Proofs.YtjhhmdmmllblhaaGreatDoor.NmO
open Go.RowKit Go.Shelf Go.Maps
open ExM NmM Kit ExL ExV ExN NmV
set_option linter.unusedVariables false
attribute [local go_sem] Oper.semAt_some
def lits (l:List Nm):List Lit:=(bare l).map fun s => Lit.string s.data.toList
def seenD {H:Type} (l:List Nm):DataW H:=setOf (.lit (.bool true)) (lits l)
theorem seenD_snoc {H:Type} (pre:List Nm) (x:Nm):seenD (H:=H) (pre ++ [x])=(seenD pre).put (.string x.1.data.toList) (.lit (.bool true)):=by
 unfold seenD setOf lits
 rw [bare_append,List.map_append,List.foldl_append]; rfl
def bytesL (l:List ByteArray):List Bs:=l.map fun s => s.data.toList
theorem has_seen {H:Type} (l:List Nm) (x:Bs):has (seenD (H:=H) l) (.string x)=true ↔ x ∈ bytesL (bare l):=by
 unfold seenD
 rw [has_setOf _ _ _ (fun y hy => by
  unfold lits at hy
  obtain ⟨s,_,rfl⟩:=List.mem_map.1 hy
  trivial),List.any_eq_true]
 unfold lits bytesL
 constructor
 ·rintro ⟨y,hy,he⟩
  obtain ⟨s,hs,rfl⟩:=List.mem_map.1 hy
  have e:s.data.toList=x:=by simpa [Lit.sameKey] using he
  exact List.mem_map.2 ⟨s,hs,e⟩
 ·intro h
  obtain ⟨s,hs,rfl⟩:=List.mem_map.1 h
  exact ⟨_,List.mem_map.2 ⟨s,hs,rfl⟩,by simp [Lit.sameKey]⟩
theorem sorted_seen {H:Type} {w:World} {R:Value->Option (DataW H × List MemPlace)} {b n:Nat} {l:List Nm} (hown:w.ownsMap Tryz.prog 9 R b n (seenD l)) {ss:List Bs} (hp:ss.Perm (strKeys (seenD (H:=H) l))) :
  ss.mergeSort (fun x y => decide (x<=y))=rise (bytesL (bare l))/\ss.length=(rise (bytesL (bare l))).length:=by
 have hc:Collected (seenD (H:=H) l) (fun _ => false) (rise (bytesL (bare l))):=⟨rise_nodup _,fun x => by rw [rise_mem,has_seen]; simp⟩
 have h1:=hc.perm hown (string_keyed Tryz.underlying9) Tryz.underlying9 (fun _ => rfl)
 have h2:ss.Perm (rise (bytesL (bare l))):=hp.trans h1.symm
 exact ⟨rise_unique _ _ (h2.nodup_iff.2 (rise_nodup _)) (fun x => by rw [h2.mem_iff,rise_mem]),h2.length_eq⟩
def ofL (x:Ex):List Bs:=if x.checkE=0 then rise (bytesL (Ex.refs x)) else []
def StrsOut (L:List Bs) (R:Int) (w:World) (e:Ending) (w':World):Prop :=
 ∃ v:Value,e=.returned (.tuple #[v,.int .i64 R])/\w'.ownsRow w.heap.size 9 1 v L.length (L.map encStr)/\Below w.heap.size w w'
theorem boxP {w:World} (o0 o1 o2:Obj):(((w.alloc o0).alloc o1).alloc o2).heap[w.heap.size]?=some o0/\(((w.alloc o0).alloc o1).alloc o2).heap[w.heap.size + 1]?=some o1/\(((w.alloc o0).alloc o1).alloc o2).heap[w.heap.size + 1 + 1]?=some o2:=by
 have a0:=World.alloc_heap_new w o0
 have a1:=World.alloc_heap_new (w.alloc o0) o1
 have a2:=World.alloc_heap_new ((w.alloc o0).alloc o1) o2
 simp only [World.size_alloc] at a1 a2
 have k:=fun (v:World) (o:Obj) (b:Nat) (x:Obj) (h:v.heap[b]?=some x) => ((b_new v o).block b (Array.getElem?_eq_some_iff.1 h).1).trans h
 exact ⟨k _ _ _ _ (k _ _ _ _ a0),k _ _ _ _ a1,a2⟩
set_option maxRecDepth 100000 in
set_option maxHeartbeats 4000000 in
theorem of_any (x:Ex) (d:Nd) (A:Option Addr) (m c:Nat) (w:World) (his:Is w x d A m) (hT:Tab w) :
  Calls Tryz.prog 71 #[.agg #[.int .i64 d.op,.int .i64 d.k,.int .i64 d.n,.string d.s,.string d.nm,.slice A m c]] w (StrsOut (ofL x) x.checkE w):=by
 refine (callsIn_wide (n:=6)).1 ?_
 obtain ⟨R,hR⟩:∃ R,x.checkE=R:=⟨_,rfl⟩
 have hx6:R=0->x.nodes<=60:=fun h => (checkE_zero (by rw [hR,h])).1
 have hL:ofL x=if R=0 then rise (bytesL (Ex.refs x)) else []:=by unfold ofL; rw [hR]
 have hrl:=refs_len x
 rw [hR]
 have hck:=fun V (hb:Below w.heap.size w V) => ExC.check_any x d A m c V (his.below hb) (hT.below hb)
 rw [hR] at hck
 have HC:=Lib.hid hck
 have HIs:=Lib.hid his
 have HL:=Lib.hid hL
 have HX:=Lib.hid hx6
 have hmm:=@run_makeMap Tryz.prog
 clear his hR hT hck hL hx6
 refine callsIn_of_wp_marks Tryz.func71 rfl trivial ?_ rfl
 simp only [Tryz.ntmps71,List.size_toArray,List.length_cons,List.length_nil,Nat.reduceAdd,Nat.reduceSub,Array.replicate_succ,Array.replicate_zero,List.push_toArray,List.append_toArray,List.nil_append,List.cons_append]
 gi_wp2_with fail
 refine ⟨trivial,?_⟩
 refine ((callsIn_wide (n:=5)).2 (HC.out _ (b_new w _))).mono ?_
 rintro e w1 ⟨rfl,hb⟩
 have k0:Box w1 w.heap.size d A m c:=(Box.new w d A m c).below hb
 have hb1:Below w.heap.size w w1:=b_then hb
 obtain ⟨c0,c1,c2,c3,c4,c5⟩:=k0.cells
 have hl0:=k0.lt
 have HB1:=Lib.hid hb1
 clear hb hb1 k0
 by_cases h0:R=0
 ·subst h0
  have hL:=HL.out
  rw [if_pos rfl] at hL
  have HL2:=Lib.hid hL
  have h60:=HX.out rfl
  clear hL HL HX
  gi_wp2_with (refine ⟨trivial,?_⟩; gi_at_call 105; refine (refs_in Fence.wide _ trivial rfl d A m c _).mono ?_; rintro e w' ⟨rfl,rfl⟩)
  have hm0:=World.ownsMap_made w1 Tryz.prog 9 (plainElem (H:=Unit) Tryz.prog 4)
  have hbx:=boxP (w:=w1) (.map #[] 0) (.cells #[.map (some w1.heap.size)] 102) (.cells #[.int .i64 d.op,.int .i64 d.k,.int .i64 d.n,.string d.s,.string d.nm,.slice A m c] 45)
  have hbB:Below w.heap.size w (((w1.alloc (.map #[] 0)).alloc (.cells #[.map (some w1.heap.size)] 102)).alloc (.cells #[.int .i64 d.op,.int .i64 d.k,.int .i64 d.n,.string d.s,.string d.nm,.slice A m c] 45)):=HB1.out.trans ((b_more (b_more (b_new _ _) _) _).mono HB1.out.size)
  have hm1:=(hm0.alloc (.cells #[.map (some w1.heap.size)] 102)).alloc (.cells #[.int .i64 d.op,.int .i64 d.k,.int .i64 d.n,.string d.s,.string d.nm,.slice A m c] 45)
  obtain ⟨W0,hW0⟩:∃ W0,(((w1.alloc (.map #[] 0)).alloc (.cells #[.map (some w1.heap.size)] 102)).alloc (.cells #[.int .i64 d.op,.int .i64 d.k,.int .i64 d.n,.string d.s,.string d.nm,.slice A m c] 45))=W0:=⟨_,rfl⟩
  rw [hW0] at hbx hbB hm1 ⊢
  have hsz:W0.heap.size=w1.heap.size + 3:=by rw [← hW0]; simp
  have hls:=HB1.out.size
  clear hW0 hm0 c0 c1 c2 c3 c4 c5
  have hsz1:w1.heap.size + 3<=W0.heap.size:=by omega
  have hsz2:W0.heap.size<=w1.heap.size + 3:=by omega
  clear hsz
  obtain ⟨_,hq1,hq2⟩:=hbx
  refine wpIn_rangeFunc_ownG rfl (by decide) (gf:=129) (lb:=#[.pointer (some ⟨w1.heap.size + 1 + 1,0,none⟩)]) rfl trivial (enters_of Tryz.func129 (by kernel_rfl) rfl)
   (refs_stops Fence.wide rfl trivial trivial rfl _ (w1.heap.size + 1 + 1) w W0 x d A m c HIs.out hbB hq2) Kp.trans (fun W l o o' hl ho hc _ => kp_putObj W l o o' (by omega) ho hc) (Below.refl _ _) (fun _ => rfl)
   (fun pre W => ((W.cell? ⟨w1.heap.size + 1,0,none⟩=some (.map (some w1.heap.size)))/\W.ownsMap Tryz.prog 9 (plainElem (H:=Unit) Tryz.prog 4) w1.heap.size pre.length (seenD pre))/\Below w.heap.size w W)
   (fun _ _ _ => False)
   (OwnFrom.and (fun s A B row hs hg hr => ⟨cell_kept hs.1 hg (fun r e => (hr r e).2),hs.2.kept hg (fun e => by have:=(hr _ e.symm).1; omega)⟩) (ownFrom_below (Nat.le_refl _) (by omega)))
   (fun _ _ _ _ _ hs _ _ => hs)
   ⟨⟨Boxed.cell (t:=102) hq1,hm1⟩,hbB⟩
   (fun y => { tmps:=#[.agg #[.int .i64 d.op,.int .i64 d.k,.int .i64 d.n,.string d.s,.string d.nm,.slice A m c],.pointer (some ⟨w.heap.size,0,none⟩),.slice none 0 0,.int .i64 0,.int .i64 0,.pointer (some ⟨w1.heap.size + 1,0,none⟩),.string y.1,.agg #[.int .i64 d.op,.int .i64 d.k,.int .i64 d.n,.string d.s,.string d.nm,.slice A m c],.int .i64 0,.int .i64 0,.bool false,undef,.map (some w1.heap.size),.agg #[.int .i64 d.op,.int .i64 d.k,.int .i64 d.n,.string d.s,.string d.nm,.slice A m c],.func (.func 129) #[] #[.pointer (some ⟨w1.heap.size + 1 + 1,0,none⟩)],.string y.1,undef,undef,undef,undef,undef],defers:=[] }) ?assign ?body ?done ?stop
  case assign =>
   intro l y W K hK
   gi_wp2
   simpa [NmV.encs] using hK
  case body =>
   rintro l pre y W ⟨⟨hc,hown⟩,hB⟩ hlt
   gi_wp2_with (gi_at_mapUpdate; refine wpListIn_mapUpdate_own _ rfl _ _ _ 102 rfl 9 4 (string_keyed Tryz.underlying9) Tryz.underlying102 _ w1.heap.size pre.length _ rfl hown (by unfold maxLen; omega) _ _ _ rfl rfl (WideMaps.keyOf_string_mk Tryz.underlying9 y.2) _ [] (plainElem_bool Tryz.underlying4 true) ?_; intro w2 hown1 hgrow1)
   obtain ⟨es,ck,hh,_⟩:=hown
   have hwB:=hB.size
   exact ⟨KeepsFrom.of_grownBy hgrow1 (fun j e => by cases e; omega),⟨(Below.refl _ W).grown hgrow1 hB.size (fun k e => by cases e; exact hls),fun b o hb ho _ => by
     rw [hgrow1.block b (Array.getElem?_eq_some_iff.1 ho).1 (fun e => by cases e; omega)]; exact ho⟩,
    ⟨cell_kept hc hgrow1 (fun r e => by cases e; exact ⟨_,hh,rfl⟩),by rw [seenD_snoc,List.length_append]; exact hown1⟩,hB.grown hgrow1 hB.size (fun k e => by cases e; exact hls)⟩
  case done =>
   rintro D ys W hD hys ⟨⟨hc,hown⟩,hB⟩ hK
   have hyl:ys.length<=60:=by
    have e1:ys.length=(Ex.refs x).length:=by rw [← hys,bare_len]
    omega
   have hsl:=hown.size_le
   have hfK:Fence.wide.fn 107:=trivial
   have hfS:Fence.wide.fn 106:=trivial
   have hKb:=(Array.getElem?_eq_some_iff.1 hK).1
   have HY:=Lib.hid hys
   have HO:=Lib.hid hown
   clear hys
   gi_wp2_with (first | (gi_at_call 107; refine (Tryz.maps_Keys_107 _ _).mono ?_; rintro e w' ⟨rfl,rfl⟩) | (gi_at_call 106; refine (Tryz.slices_Sorted_keys_106_107 w1.heap.size ys.length (seenD ys) _ W HO.out (by unfold maxLen; omega) (by omega)).mono ?_; rintro e w3 ⟨v,ss,rfl,hS,hrow,hnil,hb3⟩))
   have hK2:(W.alloc (.cells #[.map (some w1.heap.size)] 102)).heap[D]?=some (.deferred (some [])):=((b_new W _).block D hKb).trans hK
   have hK3:w3.heap[D]?=some (.deferred (some [])):=(hb3.block D (by simp; omega)).trans hK2
   refine ⟨by simp,.inl ⟨_,_,rfl,run_takeDeferred hK3,?_⟩⟩
   obtain ⟨hs1,hs2⟩:=sorted_seen HO.out hS
   rw [HY.out] at hs1 hs2
   rw [hs1,hs2] at hrow
   have hbW:Below w.heap.size w w3:=hB.trans ((b_then hb3).mono hB.size)
   refine ⟨_,results_tmp2 rfl _ _ _,v,rfl,?_,hbW.trans (belowK_b (w:=w) (Nat.le_refl _) w3 D _ _ (by omega) hK3 rfl rfl)⟩
   rw [HL2.out]
   have hsW:=hB.size
   exact ownsRow_putObj (ownsRow_base_a hrow (by simp; omega)) _ hK3 rfl
  case stop =>
   rintro D cd pre W hD hpre h hK
   exact h.elim
 ·have t1:(R != 0)=true:=bne_iff_ne.2 h0
  have hL:=HL.out
  rw [if_neg h0] at hL
  have HL2:=Lib.hid hL
  clear h0 hL HL HX
  gi_wp2_with fail
  refine ⟨_,results_tmp2 rfl _ _ _,?_⟩
  exact ⟨.slice none 0 0,rfl,by rw [HL2.out]; exact World.ownsRow_nil _ _ _ _,HB1.out⟩
end Go.Proofs.YtjhhmdmmllblhaaGreatDoor.NmO
namespace Go.Proofs.YtjhhmdmmllblhaaGreatDoor.NmA
open Go.RowKit
open ExM NmM Kit ExL ExP ExV NmC NmP NmR
set_option linter.unusedVariables false
end Go.Proofs.YtjhhmdmmllblhaaGreatDoor.NmA
namespace Go.Proofs.YtjhhmdmmllblhaaGreatDoor.NmI
open Go.RowKit
open ExM NmM Kit ExL ExP ExV NmC NmP NmR NmA NmO
set_option linter.unusedVariables false
def mkB (b:Bs):ByteArray:=⟨b.toArray⟩
def mkL (M:List Bs):List ByteArray:=M.map mkB
theorem mkL_len (M:List Bs):(mkL M).length=M.length:=List.length_map _
theorem mkB_of (s:ByteArray):mkB s.data.toList=s:=by cases s with | mk a => cases a; rfl

theorem enc_at (M:List Bs) (j:Nat) (h:j < M.length):(M.map encStr)[j]?=some (.string (mkB M[j])):=by rw [List.getElem?_map,List.getElem?_eq_getElem h]; rfl
end Go.Proofs.YtjhhmdmmllblhaaGreatDoor.NmI
namespace Go.Proofs.YtjhhmdmmllblhaaGreatDoor.NmT
open Go.RowKit
open ExM NmM Kit ExL ExP ExV NmC NmP NmR NmA NmO NmI
set_option linter.unusedVariables false
theorem bytes_refs (L:List ByteArray):mkL (bytesL L)=L:=by
 unfold mkL bytesL; rw [List.map_map]
 exact (List.map_congr_left fun s _ => mkB_of s).trans (List.map_id'' (fun _ => rfl) L)
end Go.Proofs.YtjhhmdmmllblhaaGreatDoor.NmT
