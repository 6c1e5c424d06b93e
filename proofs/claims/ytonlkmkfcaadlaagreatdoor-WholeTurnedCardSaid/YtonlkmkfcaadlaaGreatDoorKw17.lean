/- ShE GenTop Inputs Wh5 WhAnsV: what these laws name of them. -/
import Derived.Test.YtonlkmkfcaadlaaGreatDoorKw16
namespace Go.Proofs.YtonlkmkfcaadlaaGreatDoor
set_option linter.unusedVariables false
namespace ShE
open Go.RowKit
open ValM LexM NumM ExM NmM Kit ExL ExP ExN ExC RawV Within RawL GenL FldP FldR FldC FrmM PgM PgA RkM RkA RkO RkD CycO RkV RkW RkX RkY ShT ShL
set_option linter.unusedVariables false
open Classical in
noncomputable def rankE (fs:List GenL.Fd) (X:Nat->Ex):Int :=
 if checkF fs X=0 then (if ∀ i,i < fs.length->rk (rankF (needsF fs X)) i ≠ -1 then 0 else 10) else checkF fs X
theorem first_un {fs:List GenL.Fd} {X:Nat->Ex} (hall:¬ ∀ i,i < fs.length->rk (rankF (needsF fs X)) i ≠ -1):∃ i,i < fs.length/\rk (rankF (needsF fs X)) i=-1/\∀ j,j < i->rk (rankF (needsF fs X)) j ≠ -1:=by
 have hex:∃ i,i < fs.length/\rk (rankF (needsF fs X)) i=-1:=by
  refine Classical.byContradiction fun h => hall fun i hi e => h ⟨i,hi,e⟩
 obtain ⟨i,hi,he⟩:=hex
 refine Nat.strongRecOn (motive:=fun i => i < fs.length->rk (rankF (needsF fs X)) i=-1->_) i (fun m ih hm9 he9 => ?_) hi he
 by_cases h:∃ j,j < m/\rk (rankF (needsF fs X)) j=-1
 ·obtain ⟨j,hj,e⟩:=h
  exact ih j hj (by omega) e
 ·exact ⟨m,hm9,he9,fun j hj e => h ⟨j,hj,e⟩⟩
theorem rankOf_any (fs:List GenL.Fd) (X:Nat->Ex) (FA:Option Addr) (fc:Nat) (w:World) (hl:fs.length<=1048576) (hf:Flds w FA fs) (hX:Forms w fs X) (hT:Tab w) (hcap:fs.length<=fc/\fc<=maxLen) :
  ∀ V,Below w.heap.size w V->Calls Tryz.prog 78 #[.slice FA fs.length fc] V fun e w' => ∃ v p,e=.returned (.tuple #[v,p,.int .i64 (rankE fs X)])/\Below V.heap.size V w':=fun V hV => by
 unfold rankE
 by_cases h0:checkF fs X=0
 ·obtain ⟨hm,hv,_⟩:=valid_own h0
  rw [if_pos h0]
  by_cases hall:∀ i,i < fs.length->rk (rankF (needsF fs X)) i ≠ -1
  ·rw [if_pos hall]
   refine (of_ok fs X FA fc V hm (hf.below hV) (hX.below hV) (hT.below hV) hcap h0 (fun i hi => by
    have h1:=hall i hi
    have h2:-1<=rk (rankF (needsF fs X)) i:=(bd_pass (needsF fs X) (needsF fs X).length i).1
    omega)).mono fun e w' h => ?_
   obtain ⟨v,rfl,hown,hb⟩:=h
   exact ⟨v,_,rfl,hb⟩
  ·rw [if_neg hall]
   obtain ⟨at0,hat,hau,hfst⟩:=first_un hall
   refine (of_cyc fs X FA fc at0 V hm (hf.below hV) (hX.below hV) (hT.below hV) hcap h0 hat hau hfst (valid_inj h0)).mono fun e w' h => ?_
   obtain ⟨v,rfl,hc,hb⟩:=h
   exact ⟨_,v,rfl,hb⟩
 ·rw [if_neg h0]
  refine (of_bad fs X FA fc V (by omega) (hf.below hV) (hX.below hV) (hT.below hV) hcap h0).mono fun e w' h => ?_
  obtain ⟨rfl,hb⟩:=h
  exact ⟨_,_,rfl,hb⟩
noncomputable def formE (F:List GenL.Fd) (X:Nat->Ex) (P:List PE):Int:=if rankE F X=0 then checkP F P else rankE F X
theorem formE_zero {F:List GenL.Fd} {X:Nat->Ex} {P:List PE} (h:formE F X P=0):checkF F X=0/\checkP F P=0/\rankE F X=0:=by
 unfold formE at h
 by_cases h1:rankE F X=0
 ·rw [if_pos h1] at h
  refine ⟨?_,h,h1⟩
  unfold rankE at h1
  by_cases h2:checkF F X=0
  ·exact h2
  ·rw [if_neg h2] at h1; exact h1
 ·rw [if_neg h1] at h; exact absurd h h1
structure FormIn (F:List GenL.Fd) (X:Nat->Ex) (FA:Option Addr) (fc:Nat) (P:List PE) (PA:Option Addr) (pc:Nat) (w:World):Prop where
 fn:F.length<=1048576
 fl:Flds w FA F
 fx:Forms w F X
 fN:∀ k,k < F.length->(X k).nodes<=1048576
 fcap:F.length<=fc/\fc<=maxLen
 pg:Pgs w PA P
 ok:PgsOk w P
 pcap:P.length<=pc/\pc<=maxLen
 pn:P.length<=1048576
 pN:∀ e ∈ P,e.fs.length<=1048576/\e.x.nodes<=1048576
theorem FormIn.below {F:List GenL.Fd} {X:Nat->Ex} {FA:Option Addr} {fc:Nat} {P:List PE} {PA:Option Addr} {pc:Nat} {w w':World} (h:FormIn F X FA fc P PA pc w) (hb:Below w.heap.size w w'):FormIn F X FA fc P PA pc w' :=
 ⟨h.fn,h.fl.below hb,h.fx.below hb,h.fN,h.fcap,h.pg.below hb,h.ok.below hb,h.pcap,h.pn,h.pN⟩
theorem check_any {F:List GenL.Fd} {X:Nat->Ex} {FA:Option Addr} {fc:Nat} {P:List PE} {PA:Option Addr} {pc:Nat} {w:World} (h:FormIn F X FA fc P PA pc w) (ht:Tab w) :
  ∀ V,Below w.heap.size w V->Calls Tryz.prog 75 #[.agg #[.slice FA F.length fc,.slice PA P.length pc]] V fun e w' => e=.returned (.int .i64 (formE F X P))/\Below V.heap.size V w':=fun V hV => by
 refine ShT.check_any F.length FA fc P.length PA pc (rankE F X) (checkP F P) V (fun V' hV' => rankOf_any F X FA fc w h.fn h.fl h.fx ht h.fcap V' (hV.trans (hV'.mono hV.size))) (fun _ V' hV' => ?_)
 have hb:=hV.trans (hV'.mono hV.size)
 exact PgB.check_any P PA pc F FA fc V' h.fn (h.fl.below hb) (fun k hk => (h.fx k hk).1) (h.pg.below hb) (h.ok.below hb) (by have:=h.pn; unfold maxLen; omega) (fun e he => (h.pN e he).1) (ht.below hb) h.pcap
end ShE
namespace Gen
open Go.RowKit
open ValM LexM NumM ExM Kit ExL ExP RawV Within RawL GenL
set_option linter.unusedVariables false
def OpT (op:Int) (ks:List Int) (kind:Int):Prop :=
 (op=17/\ks=[2,kind,kind]) ∨
 (kind=1/\((op=3/\ks=[1]) ∨ (op=18/\ks=[3]) ∨ (5<=op/\op<=9/\ks=[1,1]))) ∨
 (kind=2/\((op=4/\ks=[2]) ∨ (15<=op/\op<=16/\ks=[2,2]) ∨ ∃ j,1<=j/\j<=3/\11<=op/\op<=14/\ks=[j,j])) ∨
 (kind ≠ 1/\kind ≠ 2/\op=10/\ks=[3,3])
def Gn (fs:List GenL.Fd):Nat->Int->Ex->Prop
 | 0,kind,x => ∃ d,x=.mk d []/\LeafD fs kind d
 | k + 1,kind,x => (∃ d,x=.mk d []/\LeafD fs kind d) ∨
   ∃ op ks l,x=.mk ⟨op,0,0,⟨#[]⟩,⟨#[]⟩⟩ l/\OpT op ks kind/\l.length=ks.length/\∀ (i:Nat) (h1:i < l.length) (h2:i < ks.length),Gn fs k ks[i] l[i]
def cost:Nat->Nat
 | 0 => 2
 | k + 1 => 2 + 3 * cost k
theorem app_keep {V W':World} {o:Obj} {b:Nat} {row:Option Nat} (hg:(V.alloc o).grownBy W' row) (hl:b < V.heap.size) (hne:some b ≠ row):W'.heap[b]?=V.heap[b]? :=
 (hg.block b (by simp; omega) hne).trans ((b_new V o).block b hl)
theorem own_far {w:World} {base:Nat} {e:TypeId} {size:Nat} {v:Value} {n:Nat} {xs:List Value} (h:w.ownsRow base e size v n xs) {b:Nat} (hb:b < base):some b ≠ v.ownBlock:=fun e => by
 have:=(h.lt b e.symm).1; omega
theorem set6_heap {w:World} {B b:Nat} (h:b ≠ B) (v0 v1 v2 v3 v4 v5:Value):((((((w.setCell ⟨B,0,none⟩ v0).setCell ⟨B,1,none⟩ v1).setCell ⟨B,2,none⟩ v2).setCell ⟨B,3,none⟩ v3).setCell ⟨B,4,none⟩ v4).setCell ⟨B,5,none⟩ v5).heap[b]?=w.heap[b]?:=by
 rw [Below.heap_setCell _ ⟨B,5,none⟩ _ b h,Below.heap_setCell _ ⟨B,4,none⟩ _ b h,Below.heap_setCell _ ⟨B,3,none⟩ _ b h,Below.heap_setCell _ ⟨B,2,none⟩ _ b h,Below.heap_setCell _ ⟨B,1,none⟩ _ b h,Below.heap_setCell _ ⟨B,0,none⟩ _ b h]
theorem infoEx:(Tryz.prog.info? 41).map (fun i => (i.zero,i.size,i.bytes))=some (some (.agg #[.int .i64 0,.int .i64 0,.int .i64 0,.string ⟨#[]⟩,.string ⟨#[]⟩,.slice none 0 0]),6,80):=by kernel_rfl
end Gen
namespace GenE
open Go.RowKit
open ValM LexM NumM ExM Kit ExL ExP RawV Within RawL GenL Gen
set_option linter.unusedVariables false
theorem leaf_sizes {fs:List GenL.Fd} {kind:Int} {d:Nd} (hfs:∀ f ∈ fs,f.nm.size<=maxLen) (h:LeafD fs kind d):d.s.size<=maxLen/\d.nm.size<=maxLen:=by
 rcases h with ⟨_,h2,h3,h4,_⟩ | ⟨_,_,_,h4,f,hf,h5,_⟩
 ·refine ⟨?_,by rw [h2]; exact Nat.zero_le _⟩
  unfold knownB at h4
  simp only [Bool.and_eq_true,decide_eq_true_eq] at h4
  have hz:=h4.2
  unfold valE at hz
  by_cases hn:numE d.k d.n=0
  ·rw [if_pos hn] at hz
   unfold strE at hz
   by_cases h3:d.k=3
   ·rw [if_pos h3] at hz
    by_cases h40:40 < d.s.data.toList.length
    ·rw [if_pos h40] at hz; exact absurd hz (by decide)
    ·have:d.s.data.toList.length=d.s.size:=rfl
     unfold maxLen; omega
   ·rw [if_neg h3] at hz
    by_cases he:d.s.data.toList=[]
    ·have:d.s.data.toList.length=d.s.size:=rfl
     rw [he] at this; simp at this; unfold maxLen; omega
    ·rw [if_neg he] at hz; exact absurd hz (by decide)
  ·rw [if_neg hn] at hz; exact absurd hz hn
 ·exact ⟨by rw [h4]; exact Nat.zero_le _,by rw [← h5]; exact hfs f hf⟩
theorem five (q:Nat) (h:q < 5):([.int .i64 5,.int .i64 6,.int .i64 7,.int .i64 8,.int .i64 9]:List Value)[q]'(by simpa using h)=.int .i64 ((q:Int) + 5):=by
 obtain rfl | rfl | rfl | rfl | rfl:q=0 ∨ q=1 ∨ q=2 ∨ q=3 ∨ q=4:=by omega
 all_goals rfl
theorem cost_pos (k:Nat):2<=cost k:=by cases k <;> simp [cost]
end GenE
namespace GenT
open Go.RowKit
open ValM LexM NumM ExM Kit ExL ExP RawV Within RawL GenL Gen GenE
set_option linter.unusedVariables false
theorem leafD_ok {fs:List GenL.Fd} {kind:Int} {d:Nd} (hfs:∀ f ∈ fs,nmB f.nm.data.toList=true) (h:LeafD fs kind d):nodeE d 0=0:=by
 unfold nodeE
 rcases h with ⟨h1,h2,h3,h4,h5⟩ | ⟨h1,h2,h3,h4,f,hf,h6,h7⟩
 ·rw [if_neg (by omega),if_pos]
  refine ⟨by rw [h1]; rfl,?_,?_⟩
  ·unfold vOk
   rw [if_pos h1,h4]
   by_cases hk:d.k=1
   ·have:=h5 hk
    rw [decide_eq_false (show ¬ d.n < 0 by omega)]; simp
   ·rw [decide_eq_false hk]; simp
  ·unfold nmOk
   rw [if_neg (by omega),h2]; rfl
 ·rw [if_neg (by omega),if_pos]
  refine ⟨by rw [h1]; rfl,?_,?_⟩
  ·unfold vOk
   rw [if_neg (by omega),h2,h3,h4]; rfl
  ·unfold nmOk
   rw [if_pos h1,← h6]; exact hfs f hf
theorem opT_ok {op:Int} {ks:List Int} {kind:Int} (h:OpT op ks kind):nodeE ⟨op,0,0,⟨#[]⟩,⟨#[]⟩⟩ ks.length=0/\ks.length<=3:=by
 have hv:∀ o:Int,o ≠ 1->vOk ⟨o,0,0,⟨#[]⟩,⟨#[]⟩⟩=true:=fun o ho => by unfold vOk; rw [if_neg ho]; rfl
 have hn:∀ o:Int,o ≠ 2->nmOk ⟨o,0,0,⟨#[]⟩,⟨#[]⟩⟩=true:=fun o ho => by unfold nmOk; rw [if_neg ho]; rfl
 have key:∀ o:Int,3<=o->o<=18->∀ m,m=arity o->nodeE ⟨o,0,0,⟨#[]⟩,⟨#[]⟩⟩ m=0:=fun o h1 h2 m hm => by
  unfold nodeE
  rw [if_neg (show ¬ (o < 1 ∨ 18 < o) by omega),if_pos ⟨hm,hv o (by omega),hn o (by omega)⟩]
 have ar2:∀ o:Int,5<=o->o<=16->arity o=2:=fun o h1 h2 => by unfold arity; rw [if_neg (by omega),if_neg (by omega),if_neg (by omega)]
 rcases h with ⟨rfl,rfl⟩ | ⟨_,⟨rfl,rfl⟩ | ⟨rfl,rfl⟩ | ⟨h1,h2,rfl⟩⟩ | ⟨_,⟨rfl,rfl⟩ | ⟨h1,h2,rfl⟩ | ⟨j,_,_,h1,h2,rfl⟩⟩ | ⟨_,_,rfl,rfl⟩
 ·exact ⟨key 17 (by decide) (by decide) 3 rfl,by simp⟩
 ·exact ⟨key 3 (by decide) (by decide) 1 rfl,by simp⟩
 ·exact ⟨key 18 (by decide) (by decide) 1 rfl,by simp⟩
 ·exact ⟨key op (by omega) (by omega) 2 (ar2 op (by omega) (by omega)).symm,by simp⟩
 ·exact ⟨key 4 (by decide) (by decide) 1 rfl,by simp⟩
 ·exact ⟨key op (by omega) (by omega) 2 (ar2 op (by omega) (by omega)).symm,by simp⟩
 ·exact ⟨key op (by omega) (by omega) 2 (ar2 op (by omega) (by omega)).symm,by simp⟩
 ·exact ⟨key 10 (by decide) (by decide) 2 rfl,by simp⟩
def nb:Nat->Nat
 | 0 => 1
 | k + 1 => 1 + 3 * nb k
theorem nb_pos (k:Nat):1<=nb k:=by cases k <;> simp [nb]
theorem depthL_le {l:List Ex} {m:Nat} (h:∀ x ∈ l,x.depth<=m):depthL l<=m:=by
 induction l with
 | nil => simp [depthL_nil]
 | cons x l ih =>
  rw [depthL_cons]
  have h1:=h x (by simp)
  have h2:=ih fun y hy => h y (by simp [hy])
  omega
theorem nodesL_le {l:List Ex} {m:Nat} (h:∀ x ∈ l,x.nodes<=m):nodesL l<=l.length * m:=by
 induction l with
 | nil => simp [nodesL_nil]
 | cons x l ih =>
  rw [nodesL_cons,List.length_cons,Nat.add_mul,Nat.one_mul]
  have h1:=h x (by simp)
  have h2:=ih fun y hy => h y (by simp [hy])
  omega
theorem gn_ok {fs:List GenL.Fd} (hfs:∀ f ∈ fs,nmB f.nm.data.toList=true):∀ (k:Nat) (kind:Int) (x:Ex),Gn fs k kind x->x.okN/\x.depth<=k + 1/\x.nodes<=nb k:=by
 have leaf:∀ (k:Nat) (kind:Int) (x:Ex),(∃ d,x=.mk d []/\LeafD fs kind d)->x.okN/\x.depth<=k + 1/\x.nodes<=nb k:=fun k kind x ⟨d,hx,hl⟩ => by
  subst hx
  refine ⟨(okN_mk _ _).2 ⟨leafD_ok hfs hl,fun x hx => by simp at hx⟩,?_,?_⟩
  ·rw [depth_mk,depthL_nil]; omega
  ·rw [nodes_mk,nodesL_nil]; have:=nb_pos k; omega
 intro k
 induction k with
 | zero => intro kind x h; exact leaf 0 kind x h
 | succ k ih =>
  intro kind x h
  rcases h with h | ⟨op,ks,l,rfl,ho,hl,hg⟩
  ·exact leaf (k + 1) kind x h
  ·obtain ⟨o1,o2⟩:=opT_ok ho
   have hall:∀ y ∈ l,y.okN/\y.depth<=k + 1/\y.nodes<=nb k:=fun y hy => by
    obtain ⟨i,hi,rfl⟩:=List.mem_iff_getElem.1 hy
    exact ih _ _ (hg i hi (by omega))
   refine ⟨(okN_mk _ _).2 ⟨by rw [hl]; exact o1,fun y hy => (hall y hy).1⟩,?_,?_⟩
   ·rw [depth_mk]; have:=depthL_le fun y hy => (hall y hy).2.1; omega
   ·rw [nodes_mk]
    have h1:=nodesL_le fun y hy => (hall y hy).2.2
    have h2:l.length * nb k<=3 * nb k:=Nat.mul_le_mul_right _ (by omega)
    show _<=1 + 3 * nb k
    omega
end GenT
namespace InpG
open Go.RowKit
open ValM LexM NumM ExM TyM EvM Kit ExL ExP RawV Within RawL RawN GenL EvF FrmM NmP
set_option linter.unusedVariables false
def fcR:List Fc->List Value
 | [] => []
 | e :: l => fcC e ++ fcR l
theorem fcR_app:∀ (a b:List Fc),fcR (a ++ b)=fcR a ++ fcR b
 | [],b => rfl
 | e :: l,b => by show fcC e ++ fcR (l ++ b)=_; rw [fcR_app l b,← List.append_assoc]; rfl
theorem fcR_snoc (es:List Fc) (e:Fc):fcR (es ++ [e])=fcR es ++ fcC e:=by
 rw [fcR_app]; show _ ++ (fcC e ++ [])=_; rw [List.append_nil]
theorem fcR_at:∀ (es:List Fc) (i j:Nat) (h:i < es.length),j < 7->(fcR es)[i * 7 + j]?=(fcC es[i])[j]?
 | e :: l,0,j,h,hj => by
  show (fcC e ++ fcR l)[0 * 7 + j]?=_
  rw [Nat.zero_mul,Nat.zero_add,List.getElem?_append_left (by simpa [fcC] using hj)]; rfl
 | e :: l,i + 1,j,h,hj => by
  show (fcC e ++ fcR l)[(i + 1) * 7 + j]?=_
  rw [List.getElem?_append_right (by simp [fcC]; omega),show (i + 1) * 7 + j - (fcC e).length=i * 7 + j by simp [fcC]; omega,fcR_at l i j (by simpa using h) hj]; rfl
theorem fcs_of {w:World} {g:Nat} {es:List Fc} (hc:∀ j,j < es.length * 7->w.cell? ⟨g,j,none⟩=(fcR es)[j]?):Fcs w (some ⟨g,0,none⟩) es:=fun i hi => by
 refine ⟨_,rfl,?_⟩
 rw [add_block]
 refine fcAt_of fun j hj => ?_
 rw [hc _ (by omega),fcR_at es i j hi hj]
theorem own_fcs {w:World} {base k:Nat} {v:Value} {es:List Fc} (h:w.ownsRow base 57 7 v k (fcR es)) (hk:es.length=k):∃ A c,v=.slice A es.length c/\Fcs w A es:=by
 subst hk
 rcases Nat.eq_zero_or_pos es.length with h0 | h0
 ·obtain ⟨A,c,e⟩:=own_slice h
  exact ⟨A,c,by rw [e],fun i hi => absurd hi (by omega)⟩
 ·obtain ⟨g,cap,e,_,_,_,_,hc⟩:=own_form h h0
  exact ⟨_,cap,by rw [e],fcs_of hc⟩
def fctOf (f:GenL.Fd) (r:Rw):Fc:=⟨f.nm,0,0,⟨#[]⟩,⟨vK f.ty,vN f.ty r.k r.x,vS f.ty r.t⟩⟩
def inpV (rs:List Rw) (F:List GenL.Fd):Nat->List Fc × Nat
 | 0 => ([],0)
 | k + 1 => ((match F[k]? with
   | none => (inpV rs F k).1
   | some f => if f.kind=1/\0 < pick (nextV rs (inpV rs F k).2).k 4 then (inpV rs F k).1 ++ [fctOf f (nextV rs (inpV rs F k).2)] else (inpV rs F k).1),nextA rs (inpV rs F k).2)
theorem inpV_yes {rs:List Rw} {F:List GenL.Fd} {k:Nat} (hk:k < F.length) (h1:F[k].kind=1) (h2:0 < pick (nextV rs (inpV rs F k).2).k 4):inpV rs F (k + 1)=((inpV rs F k).1 ++ [fctOf F[k] (nextV rs (inpV rs F k).2)],nextA rs (inpV rs F k).2):=by
 show (_,_)=_
 rw [List.getElem?_eq_getElem hk]
 simp only [if_pos (And.intro h1 h2)]
theorem inpV_no {rs:List Rw} {F:List GenL.Fd} {k:Nat} (hk:k < F.length) (h:¬ (F[k].kind=1/\0 < pick (nextV rs (inpV rs F k).2).k 4)):inpV rs F (k + 1)=((inpV rs F k).1,nextA rs (inpV rs F k).2):=by
 show (_,_)=_
 rw [List.getElem?_eq_getElem hk]
 simp only [if_neg h]
theorem inpV_le (rs:List Rw) (F:List GenL.Fd):∀ k,(inpV rs F k).2<=k/\(inpV rs F k).1.length<=k
 | 0 => ⟨Nat.le_refl _,Nat.le_refl _⟩
 | k + 1 => by
  obtain ⟨h1,h2⟩:=inpV_le rs F k
  have h3:(inpV rs F (k + 1)).2=nextA rs (inpV rs F k).2:=rfl
  refine ⟨by rw [h3]; unfold nextA; split <;> omega,?_⟩
  show (match F[k]? with
   | none => (inpV rs F k).1
   | some f => if f.kind=1/\0 < pick (nextV rs (inpV rs F k).2).k 4 then (inpV rs F k).1 ++ [fctOf f (nextV rs (inpV rs F k).2)] else (inpV rs F k).1).length<=k + 1
  cases F[k]? with
  | none => simp only; omega
  | some f =>
   simp only
   split
   ·rw [List.length_append]; simp; omega
   ·omega
theorem inpV_mem (rs:List Rw) (F:List GenL.Fd):∀ k,∀ x ∈ (inpV rs F k).1,∃ (j:Nat) (h:j < F.length) (r:Rw),j < k/\F[j].kind=1/\x=fctOf F[j] r
 | 0,x,hx => by simp [inpV] at hx
 | k + 1,x,hx => by
  have ih:x ∈ (inpV rs F k).1->∃ (j:Nat) (h:j < F.length) (r:Rw),j < k + 1/\F[j].kind=1/\x=fctOf F[j] r:=fun h => by
   obtain ⟨j,h1,r,h2,h3⟩:=inpV_mem rs F k x h
   exact ⟨j,h1,r,by omega,h3⟩
  by_cases hk:k < F.length
  ·by_cases h:F[k].kind=1/\0 < pick (nextV rs (inpV rs F k).2).k 4
   ·rw [inpV_yes hk h.1 h.2] at hx
    rcases List.mem_append.1 hx with hx | hx
    ·exact ih hx
    ·simp at hx; exact ⟨k,hk,_,by omega,h.1,hx⟩
   ·rw [inpV_no hk h] at hx; exact ih hx
  ·have e:(inpV rs F (k + 1)).1=(inpV rs F k).1:=by
    show (match F[k]? with
     | none => (inpV rs F k).1
     | some f => if f.kind=1/\0 < pick (nextV rs (inpV rs F k).2).k 4 then (inpV rs F k).1 ++ [fctOf f (nextV rs (inpV rs F k).2)] else (inpV rs F k).1)=_
    rw [List.getElem?_eq_none (by omega)]
   rw [e] at hx; exact ih hx
def InpOut (rs:List Rw) (F:List GenL.Fd) (w:World) (e:Ending) (w':World):Prop :=
 ∃ (OA:Option Addr) (oc:Nat),e=.returned (.slice OA (inpV rs F F.length).1.length oc)/\Fcs w' OA (inpV rs F F.length).1/\w'.ownsRow w.heap.size 57 7 (.slice OA (inpV rs F F.length).1.length oc) (inpV rs F F.length).1.length (fcR (inpV rs F F.length).1)/\Below w.heap.size w w'
structure InI (w:World) (A:Option Addr) (rs:List Rw) (c:Nat) (F:List GenL.Fd) (k:Nat) (v:Value) (wr:World):Prop where
 le:k<=F.length
 own:wr.ownsRow (w.heap.size + 2) 57 7 v (inpV rs F k).1.length (fcR (inpV rs F k).1)
 gen:RawL.Gen wr (w.heap.size + 1) A rs.length c (inpV rs F k).2
 size:w.heap.size + 2<=wr.heap.size
 below:Below w.heap.size w wr
theorem infoFc:(Tryz.prog.info? 57).map (fun i => (i.zero,i.size,i.bytes))=some (some (.agg #[.string ⟨#[]⟩,.int .i64 0,.int .i64 0,.string ⟨#[]⟩,.int .i64 0,.int .i64 0,.string ⟨#[]⟩]),7,80):=by kernel_rfl
theorem InI.skip {w:World} {A:Option Addr} {rs:List Rw} {c:Nat} {F:List GenL.Fd} {k:Nat} {v:Value} {wr V:World} (h:InI w A rs c F k v wr) (hk:k < F.length) (hn:¬ (F[k].kind=1/\0 < pick (nextV rs (inpV rs F k).2).k 4)) (hg:RawL.Gen V (w.heap.size + 1) A rs.length c (nextA rs (inpV rs F k).2)) (hgr:Gr (w.heap.size + 1) wr V):InI w A rs c F (k + 1) v V:=by
 have e:=inpV_no hk hn
 refine ⟨hk,?_,by rw [e]; exact hg,Nat.le_trans h.size hgr.size,?_⟩
 ·rw [e]
  exact h.own.kept hgr (.inr fun e => by have:=(h.own.lt _ e).1; omega)
 ·exact h.below.grown hgr h.below.size (fun q e => by injection e with e; omega)
theorem InI.step {w:World} {A:Option Addr} {rs:List Rw} {c:Nat} {F:List GenL.Fd} {k:Nat} {v:Value} {wr V W6:World} {tmp:Obj} {gg cap:Nat} (h:InI w A rs c F k v wr) (hk:k < F.length) (h1:F[k].kind=1) (h2:0 < pick (nextV rs (inpV rs F k).2).k 4) (hg:RawL.Gen V (w.heap.size + 1) A rs.length c (nextA rs (inpV rs F k).2)) (hgr:Gr (w.heap.size + 1) wr V)
  (hown:W6.ownsRow (w.heap.size + 2) 57 7 (.slice (some ⟨gg,0,none⟩) ((inpV rs F k).1.length + 1) cap) ((inpV rs F k).1.length + 1) (fcR (inpV rs F k).1 ++ fcC (fctOf F[k] (nextV rs (inpV rs F k).2)))) (hgrow:(V.alloc tmp).grownBy W6 v.ownBlock):InI w A rs c F (k + 1) (.slice (some ⟨gg,0,none⟩) ((inpV rs F k).1.length + 1) cap) W6:=by
 have e:=inpV_yes hk h1 h2
 have hsz:=hgrow.size
 rw [World.size_alloc] at hsz
 have hs2:=hgr.size
 have hov:∀ g,v.ownBlock=some g->w.heap.size + 2<=g:=fun g hg => (h.own.lt g hg).1
 have hkeep:∀ b,b < V.heap.size->some b ≠ v.ownBlock->W6.heap[b]?=V.heap[b]?:=fun b hb hne => (hgrow.block b (by rw [World.size_alloc]; omega) hne).trans ((b_new V tmp).block b hb)
 have hgl:=hg.lt
 refine ⟨hk,?_,?_,by have:=h.size; omega,?_⟩
 ·rw [e]; simp only [List.length_append,List.length_singleton,fcR_snoc]; exact hown
 ·rw [e]; exact (hkeep _ hgl (fun e => by have:=hov _ e.symm; omega)).trans hg
 ·have hbV:Below w.heap.size w V:=h.below.grown hgr h.below.size (fun q e => by injection e with e; omega)
  exact (b_trans hbV (b_new V tmp)).grown hgrow (by rw [World.size_alloc]; have:=hbV.size; omega) (fun q e => by have:=hov _ e; omega)
def fdBox (f:GenL.Fd):Obj:=.cells #[.string f.nm,.int .i64 f.kind,.int .i64 f.ty,.int .i64 f.d.op,.int .i64 f.d.k,.int .i64 f.d.n,.string f.d.s,.string f.d.nm,.slice f.A f.n f.c] 43
theorem fd_cells {W:World} {B:Nat} {f:GenL.Fd} (h:W.heap[B]?=some (.cells #[.string f.nm,.int .i64 f.kind,.int .i64 f.ty,.int .i64 f.d.op,.int .i64 f.d.k,.int .i64 f.d.n,.string f.d.s,.string f.d.nm,.slice f.A f.n f.c] 43 (0,0))):W.cell? ⟨B,0,none⟩=some (.string f.nm)/\W.cell? ⟨B,1,none⟩=some (.int .i64 f.kind)/\W.cell? ⟨B,2,none⟩=some (.int .i64 f.ty) :=
 ⟨by simp [World.cell?,h],by simp [World.cell?,h],by simp [World.cell?,h]⟩
def rwBox (r:Rw):Obj:=.cells #[.int .i64 r.k,.int .i64 r.x,.int .i64 r.y,.string r.t] 59
theorem rw_cells {W:World} {B:Nat} {r:Rw} (h:W.heap[B]?=some (.cells #[.int .i64 r.k,.int .i64 r.x,.int .i64 r.y,.string r.t] 59 (0,0))):W.cell? ⟨B,0,none⟩=some (.int .i64 r.k)/\W.cell? ⟨B,1,none⟩=some (.int .i64 r.x)/\W.cell? ⟨B,2,none⟩=some (.int .i64 r.y)/\W.cell? ⟨B,3,none⟩=some (.string r.t) :=
 ⟨by simp [World.cell?,h],by simp [World.cell?,h],by simp [World.cell?,h],by simp [World.cell?,h]⟩
def frBox (FA:Option Addr) (n fc:Nat) (PA:Option Addr) (pn pc:Nat):Obj:=.cells #[.slice FA n fc,.slice PA pn pc] 26
set_option maxRecDepth 100000 in
set_option maxHeartbeats 8000000 in
theorem inputs_any (c:Nat) (A:Option Addr) (rs:List Rw) (F:List GenL.Fd) (FA:Option Addr) (fc:Nat) (PA:Option Addr) (pn pc:Nat) (w:World) (hr:RawsV w A rs c) (hf:Flds w FA F) (hn:F.length<=1000000) :
  Calls Tryz.prog 13 #[.agg #[.slice FA F.length fc,.slice PA pn pc],.slice A rs.length c] w (InpOut rs F w):=by
 obtain ⟨i0,hi,hz0,hz1,hz2⟩:=info_parts infoFc
 obtain ⟨W1,hW1⟩:∃ V,(w.alloc (frBox FA F.length fc PA pn pc)).alloc (.cells #[.slice A rs.length c,.int .i64 0] 79)=V:=⟨_,rfl⟩
 have hbA:=b_new w (frBox FA F.length fc PA pn pc)
 have hbB:=b_more hbA (.cells #[.slice A rs.length c,.int .i64 0] 79)
 have hbx:W1.heap[w.heap.size]?=some (.cells #[.slice FA F.length fc,.slice PA pn pc] 26 (0,0)):=by
  rw [← hW1]
  exact ((b_new _ _).block _ (by simp)).trans (World.alloc_heap_new w _)
 have hg1:RawL.Gen W1 (w.heap.size + 1) A rs.length c 0:=by
  rw [← hW1]
  have:=World.alloc_heap_new (w.alloc (frBox FA F.length fc PA pn pc)) (.cells #[.slice A rs.length c,.int .i64 0] 79)
  rw [World.size_alloc] at this
  exact this
 have hs1:W1.heap.size=w.heap.size + 2:=by rw [← hW1]; simp
 rw [hW1] at hbB
 have hI0:InI w A rs c F 0 (.slice none 0 0) W1:=⟨Nat.zero_le _,World.ownsRow_nil _ _ _ _,hg1,by omega,hbB⟩
 have x0:W1.cell? ⟨w.heap.size,0,none⟩=some (.slice FA F.length fc):=by simp [World.cell?,hbx]
 have HI0:=Lib.hid hI0
 have HW1:=Lib.hid hW1
 have HR:=Lib.hid hr
 have HF:=Lib.hid hf
 obtain ⟨B1,hB1⟩:∃ B,w.heap.size=B:=⟨_,rfl⟩
 rw [hB1] at x0
 have HB1:=Lib.hid hB1
 clear hI0 hW1 hr hf hbA hbB hbx hg1 hs1 hB1
 unfold frBox at HW1
 go_enter Tryz.func13,Tryz.ntmps13
 go_upto_region 2 with fail
 rw [HW1.out,HB1.out]
 go_wp2_with fail
 go_loopw [6,8,9,16] (fun v _ _ ii wr => ∃ (k:Nat) (v':Value),v'=v/\ii=.int .i64 k/\InI w A rs c F k v' wr) (fun _ _ _ ii _ => F.length - (intOf ii).toNat)
 case atStart => exact ⟨0,_,rfl,rfl,HI0.out⟩
 case round =>
  obtain ⟨k,v,rfl,rfl,hV⟩:=hrel
  have hk:=hV.le
  obtain ⟨wa,rfl⟩:∃ V,V=wr:=⟨_,rfl⟩
  by_cases hlt:k < F.length
  ·obtain ⟨ad,rfl,hat⟩:=HF.out.below hV.below k hlt
   obtain ⟨f,hfk⟩:∃ f,F[k]=f:=⟨_,rfl⟩
   rw [hfk] at hat
   obtain ⟨q0,q1,q2,q3,q4,q5,q6,q7,q8⟩:=hat
   obtain ⟨W5,hW5⟩:∃ V,wa.alloc (fdBox f)=V:=⟨_,rfl⟩
   obtain ⟨B5,hB5⟩:∃ B,wa.heap.size=B:=⟨_,rfl⟩
   have hb5:=b_new wa (fdBox f)
   have hblk5:=World.alloc_heap_new wa (fdBox f)
   unfold fdBox at hW5 hb5 hblk5
   rw [hW5] at hb5 hblk5
   rw [hB5] at hblk5
   have hg5:=hV.gen.below hb5
   have hale:=(inpV_le rs F k).1
   have hnx:=nextV_any (w.heap.size + 1) c (inpV rs F k).2 A rs W5 hg5 (HR.out.below (b_trans hV.below hb5)) (by omega)
   unfold NextV at hnx
   obtain ⟨r,hr⟩:∃ r,nextV rs (inpV rs F k).2=r:=⟨_,rfl⟩
   rw [hr] at hnx
   have HNx:=Lib.hid hnx
   have HV:=Lib.hid hV
   have HW5:=Lib.hid hW5
   have HB5:=Lib.hid hB5
   have Hb5:=Lib.hid hb5
   have HBlk5:=Lib.hid hblk5
   have HFk:=Lib.hid hfk
   have HRr:=Lib.hid hr
   clear hnx hV hW5 hB5 hb5 hblk5 hfk hr hg5 hale
   go_upto_region 6 with fail
   rw [HW5.out,HB5.out]
   rw [HB1.out] at HNx
   go_wp2_with fail
   refine HNx.out.mono ?_; rintro e w6 ⟨rfl,⟨o0,o1,o2,o3⟩,hg6,hgr6⟩
   obtain ⟨W7,hW7⟩:∃ V,w6.alloc (rwBox r)=V:=⟨_,rfl⟩
   obtain ⟨B9,hB9⟩:∃ B,w6.heap.size=B:=⟨_,rfl⟩
   have hb7:=b_new w6 (rwBox r)
   have hblk9:=World.alloc_heap_new w6 (rwBox r)
   unfold rwBox at hW7 hb7 hblk9
   rw [hW7] at hb7 hblk9
   rw [hB9] at hblk9
   have hB5l:B1 + 2<=B5:=by have h1:=HV.out.size; have h2:=HB5.out; have h3:=HB1.out; omega
   have hblk7:=(hb7.block B5 (Nat.lt_of_lt_of_le (Array.getElem?_eq_some_iff.1 HBlk5.out).1 hgr6.size)).trans ((hgr6.block B5 (Array.getElem?_eq_some_iff.1 HBlk5.out).1 (fun e => by injection e with e; omega)).trans HBlk5.out)
   have hcell:∀ V:World,Below W7.heap.size W7 V->V.cell? ⟨B5,0,none⟩=some (.string f.nm)/\V.cell? ⟨B5,1,none⟩=some (.int .i64 f.kind)/\V.cell? ⟨B5,2,none⟩=some (.int .i64 f.ty)/\V.cell? ⟨B9,0,none⟩=some (.int .i64 r.k)/\V.cell? ⟨B9,1,none⟩=some (.int .i64 r.x)/\V.cell? ⟨B9,2,none⟩=some (.int .i64 r.y)/\V.cell? ⟨B9,3,none⟩=some (.string r.t):=fun V hV => by
    obtain ⟨a0,a1,a2⟩:=fd_cells ((hV.block _ (Array.getElem?_eq_some_iff.1 hblk7).1).trans hblk7)
    obtain ⟨b0,b1,b2,b3⟩:=rw_cells ((hV.block _ (Array.getElem?_eq_some_iff.1 hblk9).1).trans hblk9)
    exact ⟨a0,a1,a2,b0,b1,b2,b3⟩
   have hgr7:Gr (w.heap.size + 1) wa W7:=(Gr.of_below Hb5.out).trans ((by rw [HB1.out]; exact hgr6:Gr (w.heap.size + 1) W5 w6).trans (Gr.of_below hb7))
   have hg7:RawL.Gen W7 (w.heap.size + 1) A rs.length c (nextA rs (inpV rs F k).2):=by rw [HB1.out]; exact hg6.below hb7
   have hskip:¬ (f.kind=1/\0 < pick r.k 4)->InI w A rs c F (k + 1) v W7:=fun h => HV.out.skip hlt (by rw [HFk.out,HRr.out]; exact h) hg7 hgr7
   have hp:=fun V => picked_any r.k 4 V o0 (by decide) (by decide)
   have hval:=fun V => value_any f.ty r.k r.x r.y r.t V o0 o1 o3
   have hpb:=pick_bd r.k 4 (by decide)
   obtain ⟨p,hpk⟩:∃ p,pick r.k 4=p:=⟨_,rfl⟩
   rw [hpk] at hskip hpb
   simp only [hpk] at hp
   have hown:∀ V:World,Below W7.heap.size W7 V->V.ownsRow (w.heap.size + 2) 57 7 v (inpV rs F k).1.length (fcR (inpV rs F k).1):=fun V hV => own_below (HV.out.own.kept hgr7 (.inr fun e => by have:=(HV.out.own.lt _ e).1; omega)) hV
   have hsz:∀ (V:World) (o:Obj),Below W7.heap.size W7 V->w.heap.size + 2<=(V.alloc o).heap.size:=fun V o hV => by
    have h1:=HV.out.size
    have h2:=hgr7.size
    have h3:=hV.size
    simp; omega
   have happ:∀ (w8 w9:World) (o:Obj),Below W7.heap.size W7 w8->(w8.alloc o).grownBy w9 v.ownBlock->w9.cell? ⟨B5,0,none⟩=some (.string f.nm)/\w9.cell? ⟨B5,1,none⟩=some (.int .i64 f.kind)/\w9.cell? ⟨B5,2,none⟩=some (.int .i64 f.ty)/\w9.cell? ⟨B9,0,none⟩=some (.int .i64 r.k)/\w9.cell? ⟨B9,1,none⟩=some (.int .i64 r.x)/\w9.cell? ⟨B9,2,none⟩=some (.int .i64 r.y)/\w9.cell? ⟨B9,3,none⟩=some (.string r.t):=fun w8 w9 o h1 h2 => by
    have hk1:∀ b x,wa.heap.size<=b->W7.heap[b]?=some x->w9.heap[b]?=some x:=fun b x hb hx => by
     have h5:w8.heap[b]?=_:=(h1.block _ (Array.getElem?_eq_some_iff.1 hx).1).trans hx
     exact ((h2.block b (by rw [World.size_alloc]; have:=(Array.getElem?_eq_some_iff.1 h5).1; omega) (fun e => by have:=(HV.out.own.lt b e.symm).2; omega)).trans ((b_new w8 o).block b (Array.getElem?_eq_some_iff.1 h5).1)).trans h5
    have e5:=HB5.out
    have e9:=Hb5.out.size
    have e10:=hgr6.size
    obtain ⟨a0,a1,a2⟩:=fd_cells (hk1 B5 _ (by omega) hblk7)
    obtain ⟨b0,b1,b2,b3⟩:=rw_cells (hk1 B9 _ (by omega) hblk9)
    exact ⟨a0,a1,a2,b0,b1,b2,b3⟩
   have HOwn:=Lib.hid hown
   have HSz:=Lib.hid hsz
   have HApp:=Lib.hid happ
   have HSkip:=Lib.hid hskip
   have HP:=Lib.hid hp
   have HVal:=Lib.hid hval
   have HPk:=Lib.hid hpk
   have HCell:=Lib.hid hcell
   have HG7:=Lib.hid (And.intro hg7 hgr7)
   have HW7:=Lib.hid hW7
   have HB9:=Lib.hid hB9
   have hbl:=Below.refl W7.heap.size W7
   obtain ⟨x0,x1,x2,x3,x4,x5,x6⟩:=hcell W7 hbl
   clear hown hsz happ hg6 hgr6 hb7 hblk9 hblk7 hskip hp hval hpk hcell hgr7 hg7 hW7 hB9
   go_upto_region 7 with fail
   rw [HW7.out,HB9.out]
   by_cases h1:f.kind=1
   ·have t1:(f.kind == 1)=true:=by rw [h1]; rfl
    by_cases h2:0 < p
    ·have HK1:=Lib.hid h1
     clear h1
     go_wp2_with (go_at_call 21; refine (HP.out _).mono ?_; rintro e w8 ⟨rfl,rfl⟩)
     have hnl:(inpV rs F k).1.length<=1000000:=by have:=(inpV_le rs F k).2; omega
     obtain ⟨nL,hnL⟩:∃ n,(inpV rs F k).1.length=n:=⟨_,rfl⟩
     obtain ⟨LL,hLL⟩:∃ l,fcR (inpV rs F k).1=l:=⟨_,rfl⟩
     rw [hnL] at hnl
     rw [hnL,hLL] at HOwn
     have HNL:=Lib.hid hnL
     have HLL:=Lib.hid hLL
     clear hnL hLL
     generalize hk9:vK f.ty=ek at HVal
     generalize hn9:vN f.ty r.k r.x=en at HVal
     generalize ht9:vS f.ty r.t=et at HVal
     have HE:=Lib.hid (And.intro hk9 (And.intro hn9 ht9))
     clear hk9 hn9 ht9
     go_region_held3 (fun V => V.cell? ⟨B5,0,none⟩=some (.string f.nm)/\V.cell? ⟨B5,1,none⟩=some (.int .i64 f.kind)/\V.cell? ⟨B5,2,none⟩=some (.int .i64 f.ty)/\V.cell? ⟨B9,0,none⟩=some (.int .i64 r.k)/\V.cell? ⟨B9,1,none⟩=some (.int .i64 r.x)/\V.cell? ⟨B9,2,none⟩=some (.int .i64 r.y)/\V.cell? ⟨B9,3,none⟩=some (.string r.t)) (first | (with_reducible exact hS7) | (with_reducible exact HCell.out _ hbl) | (with_reducible exact HCell.out _ (b_drew hbl)) | (with_reducible exact HCell.out _ (b_more hbl _)) | (with_reducible exact HCell.out _ (b_more (b_drew hbl) _)) | (with_reducible exact HCell.out _ (b_drew (b_more hbl _))))
      (first | (refine step_append_lies _ (by rfl) _ _ _ (by rfl) (w.heap.size + 2) 57 i0 _ 7 80 Tryz.underlying28 hi hz0 hz1 hz2 rfl (by omega) v nL LL (by rfl) (own8.alloc _) ⟨w8.heap.size,0,none⟩ 1 1 [.string f.nm,.int .i64 0,.int .i64 0,.string ⟨#[]⟩,.int .i64 ek,.int .i64 en,.string et] (by rfl) (by rfl) (World.news_of_block (cs:=#[.string f.nm,.int .i64 0,.int .i64 0,.string ⟨#[]⟩,.int .i64 ek,.int .i64 en,.string et]) (t:=57) (fr:=(0,0)) (World.alloc_heap_new w8 _)) (by simp [Value.oneCell']) (by omega) (by unfold maxLen; omega) (by omega) hz9 (w8.heap.size + 1) (by simp) ?_; intro gg cap w9 hown9 hgrow9 hat9 hlt9; have hS7:=HApp.out w8 w9 _ hbl hgrow9; have H9:=Lib.hid (And.intro hown9 hgrow9); clear hown9 hgrow9 hat9 hlt9) | (go_at_call 29; (with_reducible refine (HVal.out _).mono ?_); rintro e w8 ⟨rfl,hb8⟩; have hbl:Below W7.heap.size W7 w8:=(by first | exact hbl.trans (hb8.mono hbl.size) | exact (b_drew hbl).trans (hb8.mono hbl.size)); obtain ⟨x0,x1,x2,x3,x4,x5,x6⟩:=HCell.out w8 hbl; have own8:=HOwn.out w8 hbl; have hz9:=HSz.out w8 (.cells #[.string f.nm,.int .i64 0,.int .i64 0,.string ⟨#[]⟩,.int .i64 ek,.int .i64 en,.string et] 57) hbl; have HB8:=Lib.hid hbl; clear hb8) | (fail))
     all_goals
      have hN:=HV.out.step (V:=w8) hlt (by rw [HFk.out]; exact HK1.out) (by rw [HRr.out,HPk.out]; exact h2) (HG7.out.1.below HB8.out) (HG7.out.2.trans (Gr.of_below HB8.out)) (by rw [HNL.out,HLL.out,HFk.out,HRr.out]; unfold fcC fctOf; rw [HE.out.1,HE.out.2.1,HE.out.2.2]; exact H9.out.1) H9.out.2
      rw [HNL.out] at hN
      have HN:=Lib.hid hN
      clear hN
      go_wp2_with fail
      go_roundw
      case rel => exact ⟨k + 1,_,rfl,by go_num,HN.out⟩
      case measure => simp [intOf]; omega
    ·have HN:=Lib.hid (HSkip.out fun h => h2 h.2)
     clear h1
     go_wp2_with (go_at_call 21; refine (HP.out _).mono ?_; rintro e w8 ⟨rfl,rfl⟩)
     go_roundw
     case rel => exact ⟨k + 1,v,rfl,by go_num,HN.out⟩
     case measure => simp [intOf]; omega
   ·have t1:(f.kind == 1)=false:=beq_eq_false_iff_ne.2 h1
    have HN:=Lib.hid (HSkip.out fun h => h1 h.1)
    clear h1
    go_wp2_with fail
    go_roundw
    case rel => exact ⟨k + 1,v,rfl,by go_num,HN.out⟩
    case measure => simp [intOf]; omega
  ·have ek:k=F.length:=by omega
   subst ek
   have hown:=own_fcs hV.own rfl
   obtain ⟨OA,oc,rfl,hfcs⟩:=hown
   have HO:=Lib.hid (show InpOut rs F w (.returned (.slice OA (inpV rs F F.length).1.length oc)) wa from ⟨OA,oc,rfl,hfcs,NmR.own_base hV.own (by omega),hV.below⟩)
   clear hV hfcs
   go_wp2_with fail
   go_ret
   exact HO.out
end InpG
namespace Wh5
open Go.RowKit Go.Maps
open ValM LexM NumM ExM NmM StrM EvM EvP FoM Kit ExL ExP ExN RawV Within RawL GenL TyM Ty EvF EvO EvR EvE FrmM FldP FldC FcM PgM ShF ShE RkM RkD RkT RkP TxT InpG WhM WhQ WhU WhT Wh1 Wh2 Wh3 Wh4 SMp KMp
set_option linter.unusedVariables false
noncomputable def wchE (F:List GenL.Fd) (X:Nat->Ex) (P:List PE) (I O:List Fc):Int:=if formE F X P=0 then (if factsE F I=0 then orcE F X O else factsE F I) else formE F X P
structure FctIn (L:List Fc) (A:Option Addr) (w:World):Prop where
 fc:Fcs w A L
 nm:∀ f ∈ L,f.nm.size<=maxLen
 len:L.length<=maxLen
theorem FctIn.below {L:List Fc} {A:Option Addr} {w w':World} (h:FctIn L A w) (hb:Below w.heap.size w w'):FctIn L A w':=⟨h.fc.below hb,h.nm,h.len⟩
theorem FctIn.nil (w:World):FctIn [] none w:=⟨fun i hi => absurd hi (Nat.not_lt_zero i),(fun f hf => (by cases hf)),Nat.zero_le _⟩
theorem orcIn_any {F:List GenL.Fd} {X:Nat->Ex} {FA:Option Addr} {fc:Nat} {P:List PE} {PA:Option Addr} {pc:Nat} {w:World} {O:List Fc} {OA:Option Addr} {oc:Nat} (h:FormIn F X FA fc P PA pc w) (ho:FctIn O OA w) (hT:Tab w) :
  Calls Tryz.prog 77 #[.agg #[.slice FA F.length fc,.slice PA P.length pc],.slice OA O.length oc] w fun r w' => r=.returned (.int .i64 (orcE F X O))/\Below w.heap.size w w' :=
 oracle_any F X FA fc PA P.length pc O OA oc w (by have:=h.fn; unfold maxLen; omega) h.fl h.fx (fun k hk => by have h1:=refs_len (X k); have h2:=h.fN k hk; omega) ho.fc ho.nm ho.len hT
theorem fctIn_any {F:List GenL.Fd} {X:Nat->Ex} {FA:Option Addr} {fc:Nat} {P:List PE} {PA:Option Addr} {pc:Nat} {w:World} {O:List Fc} {OA:Option Addr} {oc:Nat} (h:FormIn F X FA fc P PA pc w) (ho:FctIn O OA w) :
  Calls Tryz.prog 76 #[.agg #[.slice FA F.length fc,.slice PA P.length pc],.slice OA O.length oc] w fun r w' => r=.returned (.int .i64 (factsE F O))/\Below w.heap.size w w' :=
 ShF.facts_any F FA fc PA P.length pc O OA oc w (by have:=h.fn; unfold maxLen; omega) h.fcap h.fl (fun k hk => (h.fx k hk).1) ho.fc ho.nm ho.len
set_option maxRecDepth 100000 in
set_option maxHeartbeats 4000000 in
theorem check_any {F:List GenL.Fd} {X:Nat->Ex} {FA:Option Addr} {fc:Nat} {P:List PE} {PA:Option Addr} {pc:Nat} {w:World} {I:List Fc} {IA:Option Addr} {ic:Nat} {O:List Fc} {OA:Option Addr} {oc:Nat} (h:FormIn F X FA fc P PA pc w) (hi:FctIn I IA w) (ho:FctIn O OA w) (hT:Tab w) :
  Calls Tryz.prog 47 #[.agg #[.slice FA F.length fc,.slice PA P.length pc],.slice IA I.length ic,.slice OA O.length oc] w fun r w' => r=.returned (.int .i64 (wchE F X P I O))/\Below w.heap.size w w':=by
 obtain ⟨W1,hW1⟩:∃ V,w.alloc (ShF.frBox FA F.length fc PA P.length pc)=V:=⟨_,rfl⟩
 obtain ⟨B1,hB1⟩:∃ B,w.heap.size=B:=⟨_,rfl⟩
 have hb1:=b_new w (ShF.frBox FA F.length fc PA P.length pc)
 have hcell:=ShF.fr_cells w FA F.length fc PA P.length pc
 rw [hW1] at hb1 hcell
 rw [hB1] at hcell
 have h1:∀ V,Below W1.heap.size W1 V->Calls Tryz.prog 75 #[.agg #[.slice FA F.length fc,.slice PA P.length pc]] V fun e w' => e=.returned (.int .i64 (formE F X P))/\Below V.heap.size V w':=fun V hV => ShE.check_any h hT V (b_trans hb1 hV)
 have h2:∀ V,Below W1.heap.size W1 V->Calls Tryz.prog 76 #[.agg #[.slice FA F.length fc,.slice PA P.length pc],.slice IA I.length ic] V fun e w' => e=.returned (.int .i64 (factsE F I))/\Below V.heap.size V w':=fun V hV => fctIn_any (h.below (b_trans hb1 hV)) (hi.below (b_trans hb1 hV))
 have h3:∀ V,Below W1.heap.size W1 V->Calls Tryz.prog 77 #[.agg #[.slice FA F.length fc,.slice PA P.length pc],.slice OA O.length oc] V fun e w' => e=.returned (.int .i64 (orcE F X O))/\Below V.heap.size V w':=fun V hV => orcIn_any (h.below (b_trans hb1 hV)) (ho.below (b_trans hb1 hV)) (hT.below (b_trans hb1 hV))
 have hw:wchE F X P I O=if formE F X P=0 then (if factsE F I=0 then orcE F X O else factsE F I) else formE F X P:=rfl
 obtain ⟨R1,hR1⟩:∃ R,formE F X P=R:=⟨_,rfl⟩
 obtain ⟨R2,hR2⟩:∃ R,factsE F I=R:=⟨_,rfl⟩
 obtain ⟨R3,hR3⟩:∃ R,orcE F X O=R:=⟨_,rfl⟩
 rw [hR1,hR2,hR3] at hw
 rw [hR1] at h1
 rw [hR2] at h2
 rw [hR3] at h3
 obtain ⟨R,hR⟩:∃ R,wchE F X P I O=R:=⟨_,rfl⟩
 rw [hR] at hw ⊢
 have HR:=Lib.hid hw
 obtain ⟨x0,x1⟩:=hcell W1 (Below.refl _ _)
 have H1:=Lib.hid h1
 have H2:=Lib.hid h2
 have H3:=Lib.hid h3
 have HCell:=Lib.hid hcell
 have HW1:=Lib.hid hW1
 have HB1:=Lib.hid hB1
 have Hb1:=Lib.hid hb1
 clear h1 h2 h3 hcell hW1 hB1 hb1 hw hR hR1 hR2 hR3 h hi ho hT
 unfold ShF.frBox at HW1
 go_enter Tryz.func47,Tryz.ntmps47
 go_upto_region 1 with fail
 rw [HW1.out,HB1.out]
 go_wp2_with fail
 refine (H1.out W1 (Below.refl _ _)).mono ?_; rintro e w2 ⟨rfl,hb2⟩
 have HB2:=Lib.hid hb2
 obtain ⟨x0,x1⟩:=HCell.out w2 hb2
 clear hb2
 by_cases e1:R1=0
 ·subst e1
  have hr:=HR.out
  rw [if_pos rfl] at hr
  have HR':=Lib.hid hr
  clear hr
  go_wp2_with fail
  refine (H2.out w2 HB2.out).mono ?_; rintro e w3 ⟨rfl,hb3⟩
  have HB3:=Lib.hid (b_trans HB2.out hb3)
  obtain ⟨x0,x1⟩:=HCell.out w3 HB3.out
  clear hb3
  by_cases e2:R2=0
  ·subst e2
   have hr:=HR'.out
   rw [if_pos rfl] at hr
   subst hr
   go_wp2_with fail
   refine (H3.out w3 HB3.out).mono ?_; rintro e w4 ⟨rfl,hb4⟩
   have HB4:=Lib.hid (b_trans HB3.out hb4)
   clear hb4
   go_wp2_with fail
   go_ret
   exact ⟨rfl,b_trans Hb1.out HB4.out⟩
  ·have hr:=HR'.out
   rw [if_neg e2] at hr
   subst hr
   have t2:(R != 0)=true:=bne_iff_ne.2 e2
   go_wp2_with fail
   go_ret
   exact ⟨rfl,b_trans Hb1.out HB3.out⟩
 ·have hr:=HR.out
  rw [if_neg e1] at hr
  subst hr
  have t1:(R != 0)=true:=bne_iff_ne.2 e1
  go_wp2_with fail
  go_ret
  exact ⟨rfl,b_trans Hb1.out HB2.out⟩
theorem own_drew {W:World} {base size n:Nat} {e:TypeId} {v:Value} {L:List Value} (h:W.ownsRow base e size v n L):W.drew.ownsRow base e size v n L:=h
def OrdOut (n:Nat) (r:List Int) (w:World) (e:Ending) (w':World):Prop :=
 ∃ (A:Option Addr) (cap:Nat) (o:List Nat),e=.returned (.tuple #[.slice A n cap,.int .i64 0])/\OrdL r n o/\(∀ (j:Nat) (h:j < o.length),∃ go,A=some ⟨go,0,none⟩/\w'.cell? ⟨go,j,none⟩=some (.int .i64 (o[j]:Int)))/\Below w.heap.size w w'
theorem ordOut_of {n:Nat} {r:List Int} {w:World} {e:Ending} {w':World} (h:OrderAt r n w e w'):OrdOut n r w e w':=by
 obtain ⟨g,cap,o,e1,h1,h2,_,hb⟩:=h
 exact ⟨_,cap,o,e1,h1,fun j hj => ⟨g,rfl,h2 j hj⟩,hb⟩
def kfs (F:List Fw) (a:Nat->Vl) (l:List Nat):List Fc:=l.map fun i => ⟨nmW F i,0,0,⟨#[]⟩,a i⟩
theorem kfs_len (F:List Fw) (a:Nat->Vl) (l:List Nat):(kfs F a l).length=l.length:=by unfold kfs; rw [List.length_map]
theorem kfs_fcs (F:List Fw) (a:Nat->Vl) (l:List Nat):fcs (kfs F a l)=knO F a l:=by unfold fcs kfs knO; rw [List.map_map]; rfl
theorem kfs_succ (F:List Fw) (a:Nat->Vl) (o:List Nat) (t:Nat) (ht:t < o.length):fcR (kfs F a (o.take (t + 1)))=fcR (kfs F a (o.take t)) ++ [.string (nmW F o[t]),.int .i64 0,.int .i64 0,.string ⟨#[]⟩,.int .i64 (a o[t]).k,.int .i64 (a o[t]).n,.string (a o[t]).s]:=by
 unfold kfs
 have hte:o.take (t + 1)=o.take t ++ [o[t]]:=List.take_succ_eq_append_getElem ht
 rw [hte,List.map_append,fcR_app]; rfl
def AllOut (vs:List Vl) (w:World) (e:Ending) (w':World):Prop :=
 ∃ g,e=.returned (.tuple #[.slice (some ⟨g,0,none⟩) vs.length vs.length,.int .i64 0])/\w.heap.size<=g/\RowV w' g vs/\Below w.heap.size w w'
structure WF (es:List FE) (X:Nat->Ex) (FA:Option Addr) (fc:Nat) (ps:List PE) (PA:Option Addr) (pc:Nat) (w:World):Prop where
 fin:FormIn (es.map FE.fd) X FA fc ps PA pc w
 src:Srcs X es
 fis:FIs w es
 ok:formE (es.map FE.fd) X ps=0
theorem WF.below {es:List FE} {X:Nat->Ex} {FA:Option Addr} {fc:Nat} {ps:List PE} {PA:Option Addr} {pc:Nat} {w w':World} (h:WF es X FA fc ps PA pc w) (hb:Below w.heap.size w w'):WF es X FA fc ps PA pc w':=⟨h.fin.below hb,h.src,fun i hi => (h.fis i hi).below hb,h.ok⟩
theorem WF.check {es:List FE} {X:Nat->Ex} {FA:Option Addr} {fc:Nat} {ps:List PE} {PA:Option Addr} {pc:Nat} {w:World} (h:WF es X FA fc ps PA pc w):checkF (es.map FE.fd) X=0:=(formE_zero h.ok).1
theorem WF.ranks {es:List FE} {X:Nat->Ex} {FA:Option Addr} {fc:Nat} {ps:List PE} {PA:Option Addr} {pc:Nat} {w:World} (h:WF es X FA fc ps PA pc w):∀ i,i < es.length->0<=rk (rankF (needsF (es.map FE.fd) X)) i:=fun i hi => by
 have h1:=(formE_zero h.ok).2.2
 unfold rankE at h1
 rw [if_pos h.check] at h1
 by_cases hall:∀ i,i < (es.map FE.fd).length->rk (rankF (needsF (es.map FE.fd) X)) i ≠ -1
 ·have h2:=hall i (by rw [List.length_map]; exact hi)
  have h3:-1<=rk (rankF (needsF (es.map FE.fd) X)) i:=(bd_pass (needsF (es.map FE.fd) X) (needsF (es.map FE.fd) X).length i).1
  omega
 ·rw [if_neg hall] at h1; exact absurd h1 (by decide)
theorem WF.wt {es:List FE} {X:Nat->Ex} {FA:Option Addr} {fc:Nat} {ps:List PE} {PA:Option Addr} {pc:Nat} {w:World} (h:WF es X FA fc ps PA pc w):Wt (es.map toW) (rho es X):=wk_ranks h.src h.fis h.check h.ranks
set_option maxRecDepth 100000 in
set_option maxHeartbeats 16000000 in
theorem all_any {es:List FE} {X:Nat->Ex} {FA:Option Addr} {fc:Nat} {ps:List PE} {PA:Option Addr} {pc:Nat} {w:World} {I:List Fc} {IA:Option Addr} {ic:Nat} {O:List Fc} {OA:Option Addr} {oc:Nat} (h:WF es X FA fc ps PA pc w) (hi:FctIn I IA w) (ho:FctIn O OA w) (hin:factsE (es.map FE.fd) I=0) (hor:orcE (es.map FE.fd) X O=0) (hT:Tab w)
  (hord:∀ V,Below w.heap.size w V->Calls Tryz.prog 48 #[.slice FA es.length fc] V (OrdOut es.length (rankF (needsF (es.map FE.fd) X)) V)) :
  Calls Tryz.prog 15 #[.agg #[.slice FA es.length fc,.slice PA ps.length pc],.slice IA I.length ic,.slice OA O.length oc] w (AllOut (allV (I.map toO) (O.map toO) (es.map toW)) w):=by
 obtain ⟨f0,hfi0,hfz0,hfz1,hfz2⟩:=info_parts infoFc
 obtain ⟨v0,hvi0,hvz0,hvz1,hvz2⟩:=info_parts infoV
 have hwt:=h.wt
 have hoI:=facts_oks hin
 have hoO:=orc_oks hor
 have hn14:es.length<=14:=by
  have h1:=h.check
  unfold checkF at h1
  rw [List.length_map] at h1
  by_cases hh:14 < es.length
  ·rw [if_pos hh] at h1; exact absurd h1 (by decide)
  ·omega
 obtain ⟨W1,hW1⟩:∃ V,w.alloc (ShF.frBox FA es.length fc PA ps.length pc)=V:=⟨_,rfl⟩
 obtain ⟨B1,hB1⟩:∃ B,w.heap.size=B:=⟨_,rfl⟩
 have hb1:=b_new w (ShF.frBox FA es.length fc PA ps.length pc)
 have hcell:=ShF.fr_cells w FA es.length fc PA ps.length pc
 rw [hW1] at hb1 hcell
 rw [hB1] at hcell
 have hck:=check_any (ic:=ic) (oc:=oc) (h.fin.below hb1) (hi.below hb1) (ho.below hb1) (hT.below hb1)
 have hz:wchE (es.map FE.fd) X ps I O=0:=by unfold wchE; rw [if_pos h.ok,if_pos hin,hor]
 rw [hz,List.length_map] at hck
 have hord1:∀ V,Below W1.heap.size W1 V->_:=fun V hV => hord V (b_trans hb1 hV)
 obtain ⟨x0,x1⟩:=hcell W1 (Below.refl _ _)
 obtain ⟨a,ha⟩:∃ a,atV (allV (I.map toO) (O.map toO) (es.map toW))=a:=⟨_,rfl⟩
 have hal:=all_len (I.map toO) (O.map toO) (es.map toW)
 rw [List.length_map] at hal
 -- one field,of those ahead
 have hone:∀ (o:List Nat),OrdL (rankF (needsF (es.map FE.fd) X)) es.length o->∀ (t:Nat) (ht:t < o.length) (hl:o[t] < es.length) (V:World),Below w.heap.size w V->∀ (KA:Option Addr) (kc:Nat),Fcs V KA (kfs (es.map toW) a (o.take t))->Calls Tryz.prog 17 #[fdA (es[o[t]].fd),.slice IA I.length ic,.slice OA O.length oc,.slice KA t kc] V fun e w' => e=.returned (vlA (a o[t]))/\Below V.heap.size V w':=fun o ho' t ht hl V hV KA kc hk => by
  have hW:=ordW_of h.src h.fis h.check h.ranks ho'
  have hlen:(kfs (es.map toW) a (o.take t)).length=t:=by rw [kfs_len,List.length_take]; omega
  have hol:=ho'.len
  have hl2:o[t] < (es.map toW).length:=by rw [List.length_map]; exact hl
  have hk9:=one_known hwt.toWk hoI hoO hW t ht hl2
  have hkd:=hwt.kinds _ (List.getElem_mem hl2)
  have h9:=one_any (es[o[t]].fd) es[o[t]].x I IA ic O OA oc (kfs (es.map toW) a (o.take t)) KA kc V (by
    have e:(es.map toW)[o[t]].kind=es[o[t]].kind:=by rw [List.getElem_map]; rfl
    rw [e] at hkd
    show es[o[t]].kind=1 ∨ es[o[t]].kind=2 ∨ es[o[t]].kind=3
    omega) (hi.fc.below hV) hi.len (ho.fc.below hV) ho.len hk (by rw [hlen]; omega) (fun g hg => by
    unfold kfs at hg
    obtain ⟨i,hi',rfl⟩:=List.mem_map.1 hg
    have hil:=hW.lt i (List.mem_of_mem_take hi')
    show (nmW (es.map toW) i).size<=maxLen
    rw [nmW_at _ i hil,List.getElem_map]
    have:=(h.fin.fx i (by rw [List.length_map] at hil ⊢; exact hil)).1
    rw [List.getElem_map] at this
    exact this) ((h.fis o[t] hl).below hV) (hT.below hV)
  rw [hlen,kfs_fcs] at h9
  have e2:(⟨es[o[t]].fd.nm,es[o[t]].fd.kind,es[o[t]].fd.ty,es[o[t]].x⟩:Fw)=(es.map toW)[o[t]]:=by rw [List.getElem_map]; rfl
  rw [e2,← ha,hk9,ha] at h9
  exact h9
 have hfld:∀ V,Below w.heap.size w V->∀ (i:Nat) (hi:i < es.length),∃ ad,FA=some ad/\FdAt V (ad.add (i * 9)) es[i].fd:=fun V hV i hi => by
  obtain ⟨ad,e,hat⟩:=h.fin.fl.below hV i (by rw [List.length_map]; exact hi)
  exact ⟨ad,e,by rw [List.getElem_map] at hat; exact hat⟩
 have hnmw:∀ (i:Nat) (hi:i < es.length),nmW (es.map toW) i=es[i].nm:=fun i hi => by rw [nmW_at _ i (by rw [List.length_map]; exact hi),List.getElem_map]; rfl
 have hfin:∀ (o:List Nat),OrdL (rankF (needsF (es.map FE.fd) X)) es.length o->vsO es.length a (o.take es.length)=allV (I.map toO) (O.map toO) (es.map toW):=fun o ho' => by
  have hW:=ordW_of h.src h.fis h.check h.ranks ho'
  have:=vsO_all hW (vs:=allV (I.map toO) (O.map toO) (es.map toW)) (by rw [hal,List.length_map])
  rw [List.length_map,ho'.len,ha] at this
  exact this
 have hlt14:∀ (o:List Nat),OrdL (rankF (needsF (es.map FE.fd) X)) es.length o->o.length=es.length/\∀ (t:Nat) (ht:t < o.length),o[t] < es.length:=fun o ho' => ⟨ho'.len,fun t ht => RkF.ordL_lt ho' t ht⟩
 obtain ⟨vs,hvs⟩:∃ vs,allV (I.map toO) (O.map toO) (es.map toW)=vs:=⟨_,rfl⟩
 rw [hvs] at hal hfin ⊢
 obtain ⟨n,hn⟩:∃ n,es.length=n:=⟨_,rfl⟩
 obtain ⟨Fl,hFl⟩:∃ F,es.map toW=F:=⟨_,rfl⟩
 rw [hFl] at hone hnmw
 rw [hn] at hck hord1 hal hn14 hfin hW1 hcell x0 ⊢
 simp only [hn] at hone hfld hnmw hlt14
 have HCk:=Lib.hid hck
 have HOrd:=Lib.hid hord1
 have HOne:=Lib.hid hone
 have HFld:=Lib.hid hfld
 have HNmw:=Lib.hid hnmw
 have HFin:=Lib.hid hfin
 have HLt:=Lib.hid hlt14
 have HAl:=Lib.hid hal
 have HCell:=Lib.hid hcell
 have HW1:=Lib.hid hW1
 have HB1:=Lib.hid hB1
 have Hb1:=Lib.hid hb1
 clear hck hord hord1 hone hfld hnmw hfin hal hcell hW1 hB1 hb1 h hi ho hin hor hT hwt hoI hoO hz hvs hlt14 ha hFl
 unfold ShF.frBox at HW1
 unfold AllOut
 rw [HAl.out]
 unfold OrdOut at HOrd
 go_enter Tryz.func15,Tryz.ntmps15
 go_upto_region 1 with fail
 rw [HW1.out,HB1.out]
 go_wp2_with fail
 refine HCk.out.mono ?_; rintro e w2 ⟨rfl,hb2⟩
 obtain ⟨x0,x1⟩:=HCell.out w2 hb2
 have HB2:=Lib.hid hb2
 clear hb2
 go_wp2_with fail
 refine (HOrd.out w2 HB2.out).mono ?_; rintro e w3 ⟨A3,cap3,o,rfl,hoL,hocell,hb3⟩
 obtain ⟨hol,holt⟩:=HLt.out o hoL
 have hb13:=b_trans HB2.out hb3
 obtain ⟨x0,x1⟩:=HCell.out w3 hb13
 have HB3:=Lib.hid hb13
 have HOC:=Lib.hid hocell
 have HOlt:=Lib.hid holt
 have HOL:=Lib.hid hoL
 have HOl:=Lib.hid hol
 clear hb3 hb13 hocell holt hoL hol
 have hr0:∀ (V W9:World) (g:Nat),V.heap.size=g->W9.ownsRow V.heap.size 38 3 (.slice (some ⟨g,0,none⟩) n n) n (madeCells (Value.agg #[.int .i64 0,.int .i64 0,.string ⟨#[]⟩]).cells (n * 3)).toList->RowV W9 g (vsO n a (o.take 0)):=fun V W9 g _ h1 => by
  have:=row_of h1
  rw [List.take_zero,vsO_zero]; exact this
 have HR0:=Lib.hid hr0
 clear hr0
 go_wp2_with ((at_make; refine wpList_make_full _ rfl _ _ 32 rfl w3.heap.size 38 v0 _ 3 Tryz.underlying32 hvi0 hvz0 hvz1 .i64 .i64 _ _ n rfl rfl rfl rfl (by rw [hvz2]; omega) (by unfold maxLen; omega) (by simp) ?_; intro w4 hown4 hgrow4))
 have hb34:Below w3.heap.size w3 w4:=⟨hgrow4.os,hgrow4.tape,hgrow4.output,hgrow4.size,fun k hk => hgrow4.block k hk (by simp)⟩
 obtain ⟨g,hg⟩:∃ g,w3.heap.size=g:=⟨_,rfl⟩
 have hrow4:=HR0.out w3 w4 _ rfl hown4
 have hgl4:=hrow4.lt
 rw [hg] at hrow4 hgl4 ⊢
 have HSt:=Lib.hid (And.intro hrow4 hb34)
 have HG:=Lib.hid hg
 have hgl:g + 1<=w4.heap.size:=hgl4
 clear hown4 hgrow4 hrow4 hb34 hg HR0 hgl4 x0 x1
 go_loopw [12,14,15,38] (fun s12 _ _ ii wr => ∃ (t:Nat) (v:Value),v=s12/\ii=.int .i64 t/\t<=n/\RowV wr g (vsO n a (o.take t))/\wr.ownsRow (g + 1) 57 7 v t (fcR (kfs Fl a (o.take t)))/\Below w3.heap.size w3 wr) (fun _ _ _ ii _ => n - (intOf ii).toNat)
 case atStart => exact ⟨0,_,rfl,rfl,Nat.zero_le _,HSt.out.1,by rw [List.take_zero]; exact World.ownsRow_nil _ _ _ _,HSt.out.2⟩
 case round =>
  obtain ⟨t,v,rfl,rfl,ht,hrow,hown,hb⟩:=hrel
  obtain ⟨wa,rfl⟩:∃ V,V=wr:=⟨_,rfl⟩
  by_cases hlt:t < n
  ·have hto:t < o.length:=by have:=HOl.out; omega
   have hil:=HOlt.out t hto
   obtain ⟨go,rfl,hoc⟩:=HOC.out t hto
   have hoc9:wa.cell? ⟨go,t,none⟩=some (.int .i64 (o[t]:Int)):=(hb.cell (p:=⟨go,t,none⟩) (cell_lt' hoc)).trans hoc
   have hbw:Below w.heap.size w wa:=b_trans Hb1.out (b_trans HB3.out hb)
   have hlen:(kfs Fl a (o.take t)).length=t:=by rw [kfs_len,List.length_take]; omega
   have honeT:=fun V (hV:Below w.heap.size w V) KA kc hk => HOne.out o HOL.out t hto hil V hV KA kc hk
   have hfd:=HFld.out wa hbw o[t] hil
   have hnm:=HNmw.out o[t] hil
   have hksu:=kfs_succ Fl a o t hto
   have hvset:=vsO_set n a o t hto
   have hvat:∀ (h:o[t] < (vsO n a (o.take (t + 1))).length),(vsO n a (o.take (t + 1)))[o[t]]=a o[t]:=fun h => by
    have hte:o.take (t + 1)=o.take t ++ [o[t]]:=List.take_succ_eq_append_getElem hto
    rw [vsO_at,if_pos (by rw [hte]; exact List.mem_append.2 (.inr (List.mem_singleton.2 rfl)))]
   obtain ⟨i,hi⟩:∃ i,o[t]=i:=⟨_,rfl⟩
   simp only [hi] at hil hoc9 honeT hfd hnm hksu hvset hvat
   obtain ⟨ad,rfl,hat⟩:=hfd
   obtain ⟨f,hf⟩:∃ f,es[i].fd=f:=⟨_,rfl⟩
   have hnm2:nmW Fl i=f.nm:=by rw [hnm,← hf]; rfl
   simp only [hf] at honeT hat
   rw [hnm2] at hksu
   obtain ⟨q0,q1,q2,q3,q4,q5,q6,q7,q8⟩:=hat
   obtain ⟨x0,x1⟩:=HCell.out wa (b_trans HB3.out hb)
   obtain ⟨W5,hW5⟩:∃ V,wa.alloc (ShF.fdBox f)=V:=⟨_,rfl⟩
   obtain ⟨B15,hB15⟩:∃ B,wa.heap.size=B:=⟨_,rfl⟩
   have hb5:=b_new wa (ShF.fdBox f)
   have hcf:=fd_cells9 wa f
   have hown5:=hown.alloc (ShF.fdBox f)
   rw [hW5] at hb5 hcf hown5
   rw [hB15] at hcf
   obtain ⟨y0,y1,y2,y3,y4,y5,y6,y7,y8⟩:=hcf W5 (Below.refl _ _)
   obtain ⟨KA,kc,hv,hfcs⟩:=own_fcs hown5 hlen
   rw [hlen] at hv
   subst hv
   have hgB:g < B15:=by have:=hrow.lt; omega
   have hob:∀ q,(Value.slice KA t kc).ownBlock=some q->g + 1<=q/\q < B15:=fun q e => by have:=hown.lt q e; omega
   have hcall:=honeT W5 (b_trans hbw hb5) KA kc hfcs
   unfold vlA at hcall
   obtain ⟨ai,hai⟩:∃ ai,a i=ai:=⟨_,rfl⟩
   rw [hai] at hcall hksu hvset hvat
   obtain ⟨ak,an,az⟩:=ai
   have hge3:w3.heap.size<=g:=Nat.le_of_eq HG.out
   have hfin8:∀ w6,Below W5.heap.size W5 w6->∀ W8,W8=((w6.setCell ⟨g,i * 3,none⟩ (.int .i64 ak)).setCell ⟨g,i * 3 + 1,none⟩ (.int .i64 an)).setCell ⟨g,i * 3 + 2,none⟩ (.string az) →
     RowV W8 g (vsO n a (o.take (t + 1)))/\W8.ownsRow (g + 1) 57 7 (.slice KA t kc) t (fcR (kfs Fl a (o.take t)))/\W8.cell? ⟨B15,0,none⟩=some (.string f.nm)/\Below w3.heap.size w3 W8/\B15 < W8.heap.size/\g + 1<=W8.heap.size:=fun w6 hb6 W8 hW8 => by
    have hr6:RowV w6 g (vsO n a (o.take t)):=(hrow.below hb5).below hb6
    have hr8:=hr6.set i (by rw [vsO_len]; exact hil) ⟨ak,an,az⟩
    have hbl8:Below g w6 W8:=by
     rw [hW8]
     exact (((Below.refl g w6).setCell (p:=⟨g,i * 3,none⟩) (Nat.le_refl g) _).setCell (p:=⟨g,i * 3 + 1,none⟩) (Nat.le_refl g) _).setCell (p:=⟨g,i * 3 + 2,none⟩) (Nat.le_refl g) _
    have hkb:∀ q,q ≠ g->W8.heap[q]?=w6.heap[q]?:=fun q hq => by
     rw [hW8,Below.heap_setCell _ _ _ _ hq,Below.heap_setCell _ _ _ _ hq,Below.heap_setCell _ _ _ _ hq]
    have hgr:w6.grownBy W8 (some g):=⟨hbl8.os,hbl8.tape,hbl8.output,hbl8.size,fun q _ hq => hkb q (fun e => hq (by rw [e]))⟩
    have h6:w6.ownsRow (g + 1) 57 7 (.slice KA t kc) t (fcR (kfs Fl a (o.take t))):=own_below hown5 hb6
    have hc8:W8.cell? ⟨B15,0,none⟩=w6.cell? ⟨B15,0,none⟩:=World.cell?_of_block (a:=⟨B15,0,none⟩) (hkb B15 (by omega))
    have hb36:Below w3.heap.size w3 w6:=b_trans hb (b_trans hb5 hb6)
    have hB15l:B15 < w6.heap.size:=by
     have h1:=hb6.size
     have h2:B15 < W5.heap.size:=by rw [← hW5,World.size_alloc,hB15]; omega
     omega
    refine ⟨?_,h6.kept hgr (.inr fun e => by have:=hob _ e; omega),?_,?_,Nat.lt_of_lt_of_le hB15l hbl8.size,by have:=hbl8.size; omega⟩
    ·rw [hW8,← hvset]; exact hr8
    ·rw [hc8]; exact (hcf w6 hb6).1
    ·exact hb36.trans (hbl8.mono hge3)
   have HHv:=Lib.hid hvat
   have hend:∀ (W8:World),RowV W8 g (vsO n a (o.take (t + 1)))->W8.cell? ⟨B15,0,none⟩=some (.string f.nm)->Below w3.heap.size w3 W8->B15 < W8.heap.size->∀ (Wz w9:World),Below W8.heap.size W8 Wz->Wz.grownBy w9 (Value.slice KA t kc).ownBlock->(w9.cell? ⟨B15,0,none⟩=some (.string f.nm)/\w9.cell? ⟨g,i * 3,none⟩=some (.int .i64 ak)/\w9.cell? ⟨g,i * 3 + 1,none⟩=some (.int .i64 an)/\w9.cell? ⟨g,i * 3 + 2,none⟩=some (.string az))/\RowV w9 g (vsO n a (o.take (t + 1)))/\Below w3.heap.size w3 w9:=fun W8 h1 h2 h3 h4 Wz w9 hz hgw => by
    have hk:∀ q,q < W8.heap.size->(q=B15 ∨ q=g)->w9.heap[q]?=W8.heap[q]?:=fun q hq he => by
     have e1:=hgw.block q (Nat.lt_of_lt_of_le hq hz.size) (fun e => by have:=hob q e.symm; omega)
     exact e1.trans (hz.block q hq)
    have hr9:RowV w9 g (vsO n a (o.take (t + 1))):=(hk g h1.lt (.inr rfl)).trans h1
    have hl9:i < (vsO n a (o.take (t + 1))).length:=by rw [vsO_len]; exact hil
    have hat9:=hr9.at i hl9
    rw [HHv.out hl9] at hat9
    refine ⟨⟨?_,hat9⟩,hr9,?_⟩
    ·exact (World.cell?_of_block (a:=⟨B15,0,none⟩) (hk B15 h4 (.inl rfl))).trans h2
    ·have hba:Below w3.heap.size w3 Wz:=h3.trans (hz.mono h3.size)
     exact hba.grown hgw hba.size (fun q e => by have:=hob q e; omega)
   have hc8:∀ (W8:World),RowV W8 g (vsO n a (o.take (t + 1)))->W8.cell? ⟨B15,0,none⟩=some (.string f.nm)->∀ V,Below W8.heap.size W8 V->V.cell? ⟨B15,0,none⟩=some (.string f.nm)/\V.cell? ⟨g,i * 3,none⟩=some (.int .i64 ak)/\V.cell? ⟨g,i * 3 + 1,none⟩=some (.int .i64 an)/\V.cell? ⟨g,i * 3 + 2,none⟩=some (.string az):=fun W8 h1 h2 V hV => by
    have hl9:i < (vsO n a (o.take (t + 1))).length:=by rw [vsO_len]; exact hil
    have hat9:=(h1.below hV).at i hl9
    rw [HHv.out hl9] at hat9
    exact ⟨(hV.cell (p:=⟨B15,0,none⟩) (cell_lt' h2)).trans h2,hat9⟩
   have hrow5:=hrow.below hb5
   have HRow5:=Lib.hid hrow5
   have HEnd:=Lib.hid hend
   have HC8:=Lib.hid hc8
   have HFin8:=Lib.hid hfin8
   have HCall:=Lib.hid hcall
   have HKs:=Lib.hid hksu
   have HW5:=Lib.hid hW5
   have HB15:=Lib.hid hB15
   have ilt:(i:Int) < (n:Int):=by omega
   clear HHv hrow5 hend hc8 hfin8 hcall hksu hW5 hB15 hvset hvat hfcs hown5 hcf hb5 hown hrow hb honeT hai hf hnm hnm2 hoc hi hob hlen hbw
   unfold ShF.fdBox at HW5
   go_upto_region 13 with fail
   rw [HW5.out,HB15.out]
   go_wp2_with fail
   refine HCall.out.mono ?_; rintro e w6 ⟨rfl,hb6⟩
   obtain ⟨z0,z1,z2⟩:=(HRow5.out.below hb6).at i (by rw [vsO_len]; omega)
   have zf:=(HRow5.out.below hb6).frozen
   have zl:=(HRow5.out.below hb6).lt
   obtain ⟨W8,hW8⟩:∃ V,((w6.setCell ⟨g,i * 3,none⟩ (.int .i64 ak)).setCell ⟨g,i * 3 + 1,none⟩ (.int .i64 an)).setCell ⟨g,i * 3 + 2,none⟩ (.string az)=V:=⟨_,rfl⟩
   have h8:=HFin8.out w6 hb6 W8 hW8.symm
   have HW8:=Lib.hid hW8
   have H8:=Lib.hid h8
   clear hW8 hb6 h8
   go_upto_region 14 with fail
   rw [HW8.out]
   have hcl:=HC8.out W8 H8.out.1 H8.out.2.2.1
   have hend8:=HEnd.out W8 H8.out.1 H8.out.2.2.1 H8.out.2.2.2.1 H8.out.2.2.2.2.1
   have own8d:W8.drew.ownsRow (g + 1) 57 7 (.slice KA t kc) t (fcR (kfs Fl a (o.take t))):=H8.out.2.1
   have own8:W8.ownsRow (g + 1) 57 7 (.slice KA t kc) t (fcR (kfs Fl a (o.take t))):=H8.out.2.1
   obtain ⟨LL,hLL⟩:∃ l,fcR (kfs Fl a (o.take t))=l:=⟨_,rfl⟩
   rw [hLL] at own8d own8
   have hz9:∀ ob:Obj,g + 1<=(W8.alloc ob).heap.size:=fun ob => by rw [World.size_alloc]; have:=H8.out.2.2.2.2.2; omega
   have hz9d:∀ ob:Obj,g + 1<=(W8.drew.alloc ob).heap.size:=fun ob => by rw [World.size_alloc]; have:=H8.out.2.2.2.2.2; show g + 1<=W8.heap.size + 1; omega
   obtain ⟨u0,u1,u2,u3⟩:=hcl W8 (Below.refl _ _)
   have HCl:=Lib.hid hcl
   have HEnd8:=Lib.hid hend8
   have HLL:=Lib.hid hLL
   have hbl:Below W8.heap.size W8 W8:=Below.refl _ _
   clear hcl hend8 hLL z0 z1 z2 zf zl
   go_region_held3 (fun V => V.cell? ⟨B15,0,none⟩=some (.string f.nm)/\V.cell? ⟨g,i * 3,none⟩=some (.int .i64 ak)/\V.cell? ⟨g,i * 3 + 1,none⟩=some (.int .i64 an)/\V.cell? ⟨g,i * 3 + 2,none⟩=some (.string az)) (first | (with_reducible exact hS7) | (with_reducible exact HCl.out _ hbl) | (with_reducible exact HCl.out _ (b_drew hbl)) | (with_reducible exact HCl.out _ (b_more hbl _)) | (with_reducible exact HCl.out _ (b_more (b_drew hbl) _)) | (with_reducible exact HCl.out _ (b_drew (b_more hbl _))))
    (first | (refine step_append_lies _ (by rfl) _ _ _ (by rfl) (g + 1) 57 f0 _ 7 80 Tryz.underlying28 hfi0 hfz0 hfz1 hfz2 rfl (by omega) (.slice KA t kc) t LL (by rfl) (own_drew (own8.alloc _)) ⟨W8.heap.size,0,none⟩ 1 1 [.string f.nm,.int .i64 0,.int .i64 0,.string ⟨#[]⟩,.int .i64 ak,.int .i64 an,.string az] (by rfl) (by rfl) (World.news_of_block (cs:=#[.string f.nm,.int .i64 0,.int .i64 0,.string ⟨#[]⟩,.int .i64 ak,.int .i64 an,.string az]) (t:=57) (fr:=(0,0)) (World.alloc_heap_new W8 _)) (by simp [Value.oneCell']) (by omega) (by unfold maxLen; omega) (by omega) (hz9 _) (W8.heap.size + 1) (by first | simp | exact World.size_alloc _ _) ?_; intro gg cap w9 hown9 hgrow9 hat9 hlt9; have hz8:=b_drew (b_more hbl (.cells #[.string f.nm,.int .i64 0,.int .i64 0,.string ⟨#[]⟩,.int .i64 ak,.int .i64 an,.string az] 57)); have hS7:=(HEnd8.out _ w9 hz8 hgrow9).1; have H9:=Lib.hid (And.intro hown9 (HEnd8.out _ w9 hz8 hgrow9).2); clear hown9 hgrow9 hat9 hlt9))
   all_goals
    have h9:=H9.out.1
    rw [← HLL.out,← HKs.out] at h9
    have HN:=Lib.hid (And.intro H9.out.2.1 (And.intro h9 H9.out.2.2))
    clear h9
    go_wp2_with fail
    go_roundw
    case rel => exact ⟨t + 1,_,rfl,by go_num,by omega,HN.out.1,HN.out.2.1,HN.out.2.2⟩
    case measure => simp [intOf]; omega
  ·have hr9:=hrow
   rw [show t=n by omega,HFin.out o HOL.out] at hr9
   have HN:=Lib.hid (And.intro hr9 (b_trans Hb1.out (b_trans HB3.out hb)))
   have hg9:w.heap.size<=g:=by have h1:=(b_trans Hb1.out HB3.out).size; have h2:=HG.out; omega
   clear hr9 hrow hown hb
   go_wp2_with fail
   go_ret2
   exact ⟨g,rfl,hg9,HN.out.1,HN.out.2⟩
end Wh5
namespace WhA
open Go.RowKit
open ValM LexM NumM ExM NmM StrM EvM EvP FoM Kit ExL RawV Within RawL RawN GenL TyM WhM TxM TxR
set_option linter.unusedVariables false
def abc:ByteArray:=⟨#[97,98,99,100,101,102,103,104,105]⟩
def ansN (f:Fw) (key:Vl):Int:=Int.tmod key.n 9 + 3 * key.s.size + f.nm.size
def abcK (n:Int):ByteArray:=abc.extract 0 (pick n 9).toNat
def ansV (f:Fw) (key:Vl):Vl:=if f.ty=1 then ⟨1,ansN f key,e0⟩ else if f.ty=2 then ⟨2,pick (ansN f key) 2,e0⟩ else ⟨3,0,f.nm ++ abcK (ansN f key)⟩
theorem tmod_bd (n:Int):-8<=Int.tmod n 9/\Int.tmod n 9<=8:=by
 rcases Int.le_total 0 n with h | h
 ·rw [Int.tmod_eq_emod_of_nonneg h]; omega
 ·have e:Int.tmod n 9=-(Int.tmod (-n) 9):=by rw [Int.neg_tmod]; omega
  rw [e,Int.tmod_eq_emod_of_nonneg (by omega)]; omega
theorem ansN_bd {f:Fw} {key:Vl} (hk:key.s.size<=40) (hn:f.nm.size<=10):-8<=ansN f key/\ansN f key<=138:=by
 unfold ansN
 have:=tmod_bd key.n
 omega
theorem abc_clean:∀ k,k<=9->cleanL (abc.extract 0 k).data.toList=true:=by decide
theorem abc_size:∀ k,k<=9->(abc.extract 0 k).size=k:=by decide
theorem kn_size {v:Vl} (h:knV v=true):v.s.size<=40:=by
 have hok:v.ok:=by
  unfold knV knownB at h
  rw [Bool.and_eq_true,decide_eq_true_eq] at h
  exact h.2
 rcases ok_cases hok with ⟨_,_,e⟩ | ⟨_,_,e⟩ | ⟨_,_,e,_⟩ | h4
 ·rw [e]; decide
 ·rw [e]; decide
 ·exact e
 ·have:=kn_kind h
  rcases h4 with h4 | h4 <;> omega
theorem ans_ok {F:List Fw} {ρ:ByteArray->Nat} (hF:Wt F ρ) (hnm:∀ f ∈ F,nmB f.nm.data.toList=true):AnOk ansV F:=fun f hf h3 key hk => by
 have hn:=hnm f hf
 have hnl:f.nm.size<=10:=by
  unfold nmB at hn
  simp only [Bool.and_eq_true,decide_eq_true_eq] at hn
  have:=hn.1.1.2
  rw [ValM.len_size] at this
  exact this
 have hb:=ansN_bd (f:=f) (kn_size hk) hnl
 have ht:=hF.ty f hf
 have p2:=pick_bd (ansN f key) 2 (by omega)
 have p9:=pick_bd (ansN f key) 9 (by omega)
 unfold ansV
 by_cases t1:f.ty=1
 ·rw [if_pos t1]
  refine ⟨?_,t1.symm⟩
  show valE 1 (ansN f key) []=0
  have hn1:numE 1 (ansN f key)=0:=by
   unfold numE okN
   simp
   omega
  unfold valE
  rw [if_pos hn1]
  rfl
 ·rw [if_neg t1]
  by_cases t2:f.ty=2
  ·rw [if_pos t2]
   refine ⟨?_,t2.symm⟩
   show valE 2 (pick (ansN f key) 2) []=0
   have hn2:numE 2 (pick (ansN f key) 2)=0:=by
    unfold numE
    rw [if_neg (by decide),if_pos rfl,if_pos (by omega)]
   unfold valE
   rw [if_pos hn2]
   rfl
  ·rw [if_neg t2]
   refine ⟨ok_text ?_ ?_,by show (3:Int)=f.ty; omega⟩
   ·rw [ByteArray.size_append]
    unfold abcK
    rw [abc_size _ (by omega)]
    omega
   ·rw [ByteArray.data_append,Array.toList_append,cleanL_app,cl_name hn]
    unfold abcK
    rw [abc_clean _ (by omega)]
    rfl
end WhA
end Go.Proofs.YtonlkmkfcaadlaaGreatDoor
