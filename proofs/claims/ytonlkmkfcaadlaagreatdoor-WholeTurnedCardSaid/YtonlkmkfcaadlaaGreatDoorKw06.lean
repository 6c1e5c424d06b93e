/- WhOrc WhO SMap ShFacts: what these laws name of them. -/
import Derived.StringKeys
import Derived.Deep.CutBlock
import Derived.Test.YtonlkmkfcaadlaaGreatDoorKw05
namespace Go.Proofs.YtonlkmkfcaadlaaGreatDoor
set_option linter.unusedVariables false
namespace WhM
open NumM ValM ExM NmM TyM StrM EvM EvP FoM
set_option linter.unusedVariables false
theorem ev_nop {fs:List (ByteArray × Vl)} (hz:∀ f ∈ fs,f.2.ok):∀ x:Ex,x.okN->(∀ s ∈ Ex.refs x,(factV fs s).k ≠ 4)->(Ex.ev fs x).k ≠ 4:=by
 refine Ex.ind fun d l ih => ?_
 intro h hr
 obtain ⟨o1,o2,o3⟩:=okN_op h
 have hl:=((okN_mk d l).1 h).2
 have hv:∀ v ∈ evL fs l,v.k ≠ 4:=fun v hv => by
  rw [evL_map] at hv
  obtain ⟨x,hx,rfl⟩:=List.mem_map.1 hv
  refine ih x hx (hl x hx) fun s hs => hr s ?_
  rw [refs_mk,List.mem_append]
  exact .inr (mem_refsL hx hs)
 have hok:∀ v ∈ evL fs l,v.ok:=fun v hv => by
  rw [evL_map] at hv
  obtain ⟨x,hx,rfl⟩:=List.mem_map.1 hv
  exact ev_ok hz x (hl x hx)
 have hn:=evL_len fs l
 obtain ⟨a1,a2,a3,_⟩:=arity_cases d.op
 have hg:∀ i,((evL fs l).getD i zeroV).k ≠ 4:=fun i => by
  by_cases hi:i < (evL fs l).length
  ·rw [List.getD_eq_getElem?_getD,List.getElem?_eq_getElem hi]; exact hv _ (List.getElem_mem hi)
  ·rw [List.getD_eq_getElem?_getD,List.getElem?_eq_none (by omega)]; exact (by decide:(0:Int) ≠ 4)
 rw [ev_mk]
 unfold evN
 split
 ·rename_i g
  have:=known_kind (okN_const h g)
  show d.k ≠ 4
  omega
 split
 ·rename_i g
  exact hr _ (by rw [refs_mk_pos d l g]; simp)
 split
 ·unfold choV
  split
  ·split
   ·exact hg 1
   ·exact hg 2
  ·exact cond_four (hg 0)
 split
 ·unfold conV
  split
  ·exact cond_four (hg 1)
  ·exact cond_four (hg 0)
 split
 ·unfold conV
  split
  ·exact cond_four (hg 1)
  ·exact cond_four (hg 0)
 ·have h1:1<=(evL fs l).length:=by rw [hn,o3]; exact (a3 (by assumption) (by assumption)).1
  unfold opV
  cases e5:firstK 5 (evL fs l) with
  | some v => exact hv v (firstK_some e5).1
  | none =>
   cases e4:firstK 4 (evL fs l) with
   | some v => exact hv v (firstK_some e4).1
   | none => exact comp_four _ (getD_ok hok 0 (by omega)) (getD_ok hok _ (by omega))
theorem kn_of {v:Vl} (h:v.ok) (hk:1<=v.k/\v.k<=3):knV v=true:=by
 unfold knV knownB isT
 have:v.k=1 ∨ v.k=2 ∨ v.k=3:=by omega
 have h0:valE v.k v.n v.s.data.toList=0:=h
 rw [h0]
 rcases this with e | e | e <;> simp [e]
def ftsW (F:List Fw):List (ByteArray × Int):=F.map fun f => (f.nm,f.ty)
def TyV (F:List Fw) (vs:List Vl):Prop:=∀ (i:Nat) (h:i < F.length) (h1:i < vs.length),vs[i].k=F[i].ty ∨ vs[i].k=4 ∨ vs[i].k=5
theorem type_at {F:List Fw} (ha:Apart F) (j:Nat) (hj:j < F.length):fieldT (ftsW F) F[j].nm=(F[j].ty,0):=by
 have:=fieldT_hit (ftsW F) F[j].nm j (by unfold ftsW; rw [List.length_map]; exact hj) (fun i hi hij => by
  unfold ftsW at hi ⊢
  rw [List.length_map] at hi
  rw [List.getElem_map]
  intro e
  have:=ha i j hi hj e
  omega) (by unfold ftsW; rw [List.getElem_map])
 rw [this]
 unfold ftsW
 rw [List.getElem_map]
theorem type_no {F:List Fw} {s:ByteArray} (hs:∀ f ∈ F,f.nm ≠ s):fieldT (ftsW F) s=(0,5) :=
 fieldT_none (ftsW F) s fun j hj => by
  unfold ftsW at hj ⊢
  rw [List.length_map] at hj
  rw [List.getElem_map]
  exact hs _ (List.getElem_mem hj)
def fixV (f:Fw) (v:Vl):Vl:=if v.k=4 then ⟨f.ty,0,e0⟩ else if v.k=5 then flt 7 else v
theorem fix_gro (f:Fw) (v:Vl):Gro (fixV f v) v:=by
 unfold fixV
 by_cases h4:v.k=4
 ·exact .inl h4
 ·rw [if_neg h4]
  by_cases h5:v.k=5
  ·rw [if_pos h5]; exact .inr (.inr ⟨rfl,h5⟩)
  ·rw [if_neg h5]; exact gro_refl v
theorem fix_snd {f:Fw} {v:Vl} (ht:1<=f.ty/\f.ty<=3) (hv:v.ok) (h:v.k=f.ty ∨ v.k=4 ∨ v.k=5):Snd f.ty (fixV f v):=by
 unfold fixV
 by_cases h4:v.k=4
 ·rw [if_pos h4]; exact ⟨ty_ok ht,.inl rfl⟩
 ·rw [if_neg h4]
  by_cases h5:v.k=5
  ·rw [if_pos h5]; exact ⟨ok_flt (by decide) (by decide),.inr ⟨rfl,.inl rfl⟩⟩
  ·rw [if_neg h5]
   refine ⟨hv,.inl ?_⟩
   rcases h with h | h | h
   ·exact h
   ·exact absurd h h4
   ·exact absurd h h5
theorem ev_kind {F:List Fw} {ρ:ByteArray->Nat} {vs:List Vl} (hF:Wk F ρ) (lv:vs.length=F.length) (hv:OkL vs) (ht:TyV F vs) {x:Ex} {t:Int} (hx:x.okN) (h:Ex.ty (ftsW F) x=(t,0)) :
  (Ex.ev (named F vs) x).k=t ∨ (Ex.ev (named F vs) x).k=4 ∨ (Ex.ev (named F vs) x).k=5:=by
 obtain ⟨us,hus⟩:∃ us,List.zipWith fixV F vs=us:=⟨_,rfl⟩
 have lu:us.length=F.length:=by rw [← hus,List.length_zipWith]; omega
 have hua:∀ (i:Nat) (h:i < F.length),us[i]'(by omega)=fixV F[i] (vs[i]'(by omega)):=fun i h => by
  subst hus
  rw [List.getElem_zipWith]
 have hg:GroAll F us vs:=fun i h h1 h2 => by rw [hua i h]; exact fix_gro _ _
 have hty:Typed (ftsW F) (named F us):=fun s t hs => by
  by_cases hex:∃ g ∈ F,g.nm=s
  ·obtain ⟨g,hg,rfl⟩:=hex
   obtain ⟨j,hj,rfl⟩:=List.getElem_of_mem hg
   rw [type_at hF.apart j hj] at hs
   injection hs with hs _
   rw [named_fact hF.apart lu j hj,hua j hj,← hs]
   exact fix_snd (hF.ty _ (List.getElem_mem hj)) (hv _ (List.getElem_mem _)) (ht j hj (by omega))
  ·rw [type_no fun f hf e => hex ⟨f,hf,e⟩] at hs
   injection hs with _ hs
   exact absurd hs (by decide)
 have hfs:∀ s t,fieldT (ftsW F) s=(t,0)->1<=t/\t<=3:=fun s t hs => by
  by_cases hex:∃ g ∈ F,g.nm=s
  ·obtain ⟨g,hg,rfl⟩:=hex
   obtain ⟨j,hj,rfl⟩:=List.getElem_of_mem hg
   rw [type_at hF.apart j hj] at hs
   injection hs with hs _
   rw [← hs]
   exact hF.ty _ (List.getElem_mem hj)
  ·rw [type_no fun f hf e => hex ⟨f,hf,e⟩] at hs
   injection hs with _ hs
   exact absurd hs (by decide)
 have h1:=ev_snd hfs hty x t hx h
 rcases ev_gro (fun s => named_gro hF.apart lu lv hg s) x with e | e | ⟨_,e⟩
 ·exact .inr (.inl e)
 ·rw [← e]
  rcases h1.2 with h2 | ⟨h2,_⟩
  ·exact .inl h2
  ·exact .inr (.inr h2)
 ·exact .inr (.inr e)
structure Wt (F:List Fw) (ρ:ByteArray->Nat):Prop extends Wk F ρ where
 kinds:∀ f ∈ F,1<=f.kind/\f.kind<=3
 form:∀ f ∈ F,f.kind=2->Ex.ty (ftsW F) f.x=(f.ty,0)
 look:∀ f ∈ F,f.kind=3->(Ex.ty (ftsW F) f.x).2=0
def TyIn (F:List Fw) (ins:List Fo):Prop:=∀ f ∈ F,f.kind=1->∀ o ∈ ins,o.nm=f.nm->o.has.k=f.ty ∨ o.has.k=4 ∨ o.has.k=5
def TyOr (F:List Fw) (orc:List Fo):Prop:=∀ f ∈ F,f.kind=3->∀ o ∈ orc,o.nm=f.nm->o.has.k=f.ty ∨ o.has.k=4 ∨ o.has.k=5
theorem in_ty {ins:List Fo} {f:Fw} (h:∀ o ∈ ins,o.nm=f.nm->o.has.k=f.ty ∨ o.has.k=4 ∨ o.has.k=5):(inV ins f).k=f.ty ∨ (inV ins f).k=4 ∨ (inV ins f).k=5:=by
 induction ins with
 | nil => exact .inl rfl
 | cons o l ih =>
  unfold inV
  by_cases e:o.nm=f.nm
  ·rw [if_pos e]; exact h o (by simp) e
  ·rw [if_neg e]; exact ih fun p hp => h p (by simp [hp])
theorem hit_iff {nm:ByteArray} {key:Vl} {o:Fo}:hitB nm key o=true ↔ o.nm=nm/\o.key=key:=by
 unfold hitB; rw [Bool.and_eq_true,decide_eq_true_eq,sameV_iff]
theorem askF_ty {orc:List Fo} {f:Fw} (h:∀ o ∈ orc,o.nm=f.nm->o.has.k=f.ty ∨ o.has.k=4 ∨ o.has.k=5) (key:Vl):(askF orc f.nm key).k=f.ty ∨ (askF orc f.nm key).k=4 ∨ (askF orc f.nm key).k=5:=by
 induction orc with
 | nil => exact .inr (.inl rfl)
 | cons o l ih =>
  unfold askF
  by_cases e:hitB f.nm key o=true
  ·rw [if_pos e]; exact h o (by simp) (hit_iff.1 e).1
  ·rw [if_neg e]; exact ih fun p hp => h p (by simp [hp])
theorem next_ty {ins orc:List Fo} {F:List Fw} {ρ:ByteArray->Nat} {vs:List Vl} (hF:Wt F ρ) (hi:TyIn F ins) (ho:TyOr F orc) (lv:vs.length=F.length) (hv:OkL vs) (h:TyV F vs):TyV F (nextV ins orc F vs):=fun i h0 h1 => by
 have hm:=List.getElem_mem h0
 rw [next_at _ _ _ _ i h0]
 unfold oneV
 by_cases k1:F[i].kind=1
 ·rw [if_pos k1]; exact in_ty (hi _ hm k1)
 ·rw [if_neg k1]
  have hs:=hF.src _ hm k1
  have hx:=(checkE_zero hs).2.2
  rw [of_ev hv hs]
  by_cases k3:F[i].kind=3
  ·rw [if_pos k3]
   have he:=ev_kind hF.toWk lv hv h hx (t:=(Ex.ty (ftsW F) F[i].x).1) (Prod.ext rfl (hF.look _ hm k3))
   unfold askV
   by_cases hk:knV (Ex.ev (named F vs) F[i].x)=true
   ·rw [if_pos hk]; exact askF_ty (ho _ hm k3) _
   ·rw [if_neg hk]
    have hok:(Ex.ev (named F vs) F[i].x).ok:=ev_ok (named_ok (F:=F) hv) F[i].x hx
    rcases he with e | e | e
    ·exfalso
     apply hk
     have ht:=ty_le (fs:=ftsW F) (fun s t hs => by
      by_cases hex:∃ g ∈ F,g.nm=s
      ·obtain ⟨g,hg,rfl⟩:=hex
       obtain ⟨j,hj,rfl⟩:=List.getElem_of_mem hg
       rw [type_at hF.apart j hj] at hs
       injection hs with hs _
       rw [← hs]
       exact hF.ty _ (List.getElem_mem hj)
      ·rw [type_no fun f hf e => hex ⟨f,hf,e⟩] at hs
       injection hs with _ hs
       exact absurd hs (by decide)) F[i].x _ hx (Prod.ext rfl (hF.look _ hm k3))
     exact kn_of hok (by rw [e]; exact ht)
    ·exact .inr (.inl e)
    ·exact .inr (.inr e)
  ·rw [if_neg k3]
   have k2:F[i].kind=2:=by have:=hF.kinds _ hm; omega
   exact ev_kind hF.toWk lv hv h hx (hF.form _ hm k2)
theorem iter_ty {ins orc:List Fo} {F:List Fw} {ρ:ByteArray->Nat} (hF:Wt F ρ) (hi:TyIn F ins) (ho:TyOr F orc) (oi:Oks ins) (oo:Oks orc):∀ t,TyV F (iterV ins orc F t)
 | 0 => fun i h h1 => by
  right; left
  have e:((F.map fun _ => pen)[i]'(by rw [List.length_map]; exact h)).k=4:=by rw [List.getElem_map]; rfl
  exact e
 | t + 1 => next_ty hF hi ho (iter_len _ _ _ _) (iter_ok hF.toWk oi oo t) (iter_ty hF hi ho oi oo t)
theorem all_ty {ins orc:List Fo} {F:List Fw} {ρ:ByteArray->Nat} (hF:Wt F ρ) (hi:TyIn F ins) (ho:TyOr F orc) (oi:Oks ins) (oo:Oks orc):TyV F (allV ins orc F):=iter_ty hF hi ho oi oo _
end WhM
namespace WhQ
open Go.RowKit
open NumM ValM StrM ExM NmM TyM EvM FoM Kit ExL GenL FldP Ty EvF FcM WhM WhU
set_option linter.unusedVariables false
def keyV (f:Fc):Vl:=⟨f.kk,f.kn,f.ks⟩
def toO (f:Fc):Fo:=⟨f.nm,keyV f,f.v⟩
def keyT (F:List GenL.Fd) (X:Nat->Ex) (j:Nat):Int:=(ofT (fts F) (X j)).1
def kyB (v:Vl) (t:Int):Bool:=knV v && decide (v.k=t)
def ansB (v:Vl) (t:Int):Bool:=decide (valE v.k v.n v.s.data.toList=0) && (decide (v.k=t) || decide (v.k=5))
def metO (L:List Fc) (i:Nat) (f:Fc):Bool:=(L.take i).any fun g => decide (g.nm=f.nm) && sameV (keyV g) (keyV f)
def orc1 (F:List GenL.Fd) (X:Nat->Ex) (L:List Fc) (i:Nat):Int :=
 if h:i < L.length then
  (if h2:atF F L[i].nm < F.length then
   (if F[atF F L[i].nm].kind=3 then
    (if (kyB (keyV L[i]) (keyT F X (atF F L[i].nm)) && ansB L[i].v F[atF F L[i].nm].ty)=true then (if metO L i L[i]=true then 6 else 0) else 9)
   else 2)
  else 5)
 else 0
def orcE (F:List GenL.Fd) (X:Nat->Ex) (L:List Fc):Int:=firstI (orc1 F X L) L.length
theorem orc_stop {F:List GenL.Fd} {X:Nat->Ex} {L:List Fc} {k:Nat} (hk:k < L.length) (h:∀ j,j < k->orc1 F X L j=0) (h0:orc1 F X L k ≠ 0):orcE F X L=orc1 F X L k:=firstI_hit hk h h0
theorem orc_all {F:List GenL.Fd} {X:Nat->Ex} {L:List Fc} (h:∀ j,j < L.length->orc1 F X L j=0):orcE F X L=0:=firstI_zero h
theorem orc_zero {F:List GenL.Fd} {X:Nat->Ex} {L:List Fc} (h:orcE F X L=0):∀ j,j < L.length->orc1 F X L j=0:=by
 have key:∀ n,n<=L.length->firstI (orc1 F X L) n=0->∀ j,j < n->orc1 F X L j=0:=by
  intro n
  induction n with
  | zero => intro _ _ j hj; omega
  | succ n ih =>
   intro hn h j hj
   unfold firstI at h
   by_cases h1:firstI (orc1 F X L) n=0
   ·rw [if_pos h1] at h
    by_cases e:j=n
    ·subst e; exact h
    ·exact ih (by omega) h1 j (by omega)
   ·rw [if_neg h1] at h; exact absurd h h1
 exact key L.length (Nat.le_refl _) h
theorem orc_in {F:List GenL.Fd} {X:Nat->Ex} {L:List Fc} (h:orcE F X L=0) (i:Nat) (hi:i < L.length):∃ h2:atF F L[i].nm < F.length,F[atF F L[i].nm].kind=3/\kyB (keyV L[i]) (keyT F X (atF F L[i].nm))=true/\ansB L[i].v F[atF F L[i].nm].ty=true/\metO L i L[i]=false:=by
 have h1:=orc_zero h i hi
 unfold orc1 at h1
 rw [dif_pos hi] at h1
 by_cases h2:atF F L[i].nm < F.length
 ·rw [dif_pos h2] at h1
  by_cases h3:F[atF F L[i].nm].kind=3
  ·rw [if_pos h3] at h1
   by_cases h4:(kyB (keyV L[i]) (keyT F X (atF F L[i].nm)) && ansB L[i].v F[atF F L[i].nm].ty)=true
   ·rw [if_pos h4] at h1
    rw [Bool.and_eq_true] at h4
    by_cases h5:metO L i L[i]=true
    ·rw [if_pos h5] at h1; exact absurd h1 (by decide)
    ·exact ⟨h2,h3,h4.1,h4.2,by simpa using h5⟩
   ·rw [if_neg h4] at h1; exact absurd h1 (by decide)
  ·rw [if_neg h3] at h1; exact absurd h1 (by decide)
 ·rw [dif_neg h2] at h1; exact absurd h1 (by decide)
theorem orc_oks {F:List GenL.Fd} {X:Nat->Ex} {L:List Fc} (h:orcE F X L=0):Oks (L.map toO):=fun o ho => by
 obtain ⟨f,hf,rfl⟩:=List.mem_map.1 ho
 obtain ⟨i,hi,rfl⟩:=List.getElem_of_mem hf
 obtain ⟨_,_,_,h4,_⟩:=orc_in h i hi
 unfold ansB at h4
 rw [Bool.and_eq_true,decide_eq_true_eq] at h4
 exact h4.1
end WhQ
namespace SMp
open Go.RowKit Go.Maps Kit
set_option linter.unusedVariables false
def hv (v:Value):Option (DataW Value × List MemPlace):=some (.held v,[])
theorem strKeyed:Keyed Tryz.prog 9:=string_keyed Tryz.underlying9
theorem keyS {s:ByteArray} (h:s.size<=maxLen):keyOf Tryz.prog 9 (.string s)=some (.string s.data.toList):=WideMaps.keyOf_string_mk Tryz.underlying9 h
theorem bytes_inj {s t:ByteArray} (h:s.data.toList=t.data.toList):s=t:=by
 cases s; cases t; congr; exact Array.toList_inj.1 h
def Reads (D:DataW Value) (M:ByteArray->Option Value):Prop:=∀ s:ByteArray,has D (.string s.data.toList)=(M s).isSome/\∀ v,M s=some v->∀ z,D.atKey (.string s.data.toList) z=.held v
structure SM (W:World) (m n:Nat) (M:ByteArray->Option Value):Prop where
 own:∃ D,W.ownsMap Tryz.prog 9 hv m n D/\Reads D M
theorem SM.made (w:World):SM (w.alloc (.map #[] 0)) w.heap.size 0 (fun _ => none):=⟨_,World.ownsMap_made w _ _ _,fun s => ⟨rfl,fun v h => by cases h⟩⟩
theorem SM.lt {W:World} {m n:Nat} {M:ByteArray->Option Value} (h:SM W m n M):m < W.heap.size:=by
 obtain ⟨D,hD,_⟩:=h.own
 exact hD.lt
theorem SM.kept {W W':World} {m n:Nat} {M:ByteArray->Option Value} {row:Option Nat} (h:SM W m n M) (hg:W.grownBy W' row) (hne:some m ≠ row):SM W' m n M:=by
 obtain ⟨D,hD,hall⟩:=h.own
 exact ⟨D,hD.kept hg hne,hall⟩
theorem grown_of_below {W W':World} (hb:Below W.heap.size W W'):W.grownBy W' none:=⟨hb.os,hb.tape,hb.output,hb.size,fun k hk _ => hb.block k hk⟩
theorem SM.below {W W':World} {m n:Nat} {M:ByteArray->Option Value} (h:SM W m n M) (hb:Below W.heap.size W W'):SM W' m n M:=h.kept (grown_of_below hb) (by simp)
theorem SM.alloc {W:World} {m n:Nat} {M:ByteArray->Option Value} (h:SM W m n M) (o:Obj):SM (W.alloc o) m n M:=h.kept (World.grownBy_alloc W o none) (by simp)
theorem SM.mono {W:World} {m n n':Nat} {M:ByteArray->Option Value} (h:SM W m n M) (hn:n<=n'):SM W m n' M:=by
 obtain ⟨D,hD,hall⟩:=h.own
 exact ⟨D,hD.mono hn,hall⟩
theorem SM.to {W:World} {m n:Nat} {M M':ByteArray->Option Value} (h:SM W m n M) (e:∀ s,M s=M' s):SM W m n M':=by
 obtain rfl:M=M':=funext e
 exact h
set_option maxRecDepth 100000 in
theorem look_gen {W:World} {m n:Nat} {M:ByteArray->Option Value} (c:Bool) (h:SM W m n M) {T te:TypeId} (ht:Tryz.prog.underlying T=some (.map 9 te)) {z:Value} (hz:(zeroValue te).run Tryz.prog W=.ok z W) (s:ByteArray) (hs:s.size<=maxLen) :
  (Instr.lookup T (.map (some m)) (.string s) c).run Tryz.prog W=.ok (if c then .tuple #[(M s).getD z,.bool (M s).isSome] else (M s).getD z) W:=by
 obtain ⟨D,hD,hall⟩:=h.own
 obtain ⟨hh,hat⟩:=hall s
 obtain ⟨es,clock,hb,F,_,rfl⟩:=hD
 rcases Maps.fit_look c strKeyed ht hz hb F (keyS hs) with ⟨hrun,_,h1⟩ | ⟨q,y,_,_,hrun,hRv,h1,_⟩
 ·rw [has_false_of_atKey h1] at hh
  rcases hf:M s with _ | v
  ·rw [hrun]; cases c <;> rfl
  ·rw [hf] at hh; cases hh
 ·rw [has_true_of_atKey h1] at hh
  rcases hf:M s with _ | v
  ·rw [hf] at hh; cases hh
  ·have e1:=(hat v hf .nil).symm.trans (h1 .nil)
   have hy:hv q.val=some y:=hRv
   unfold hv at hy
   injection hy with hy
   subst hy
   injection e1 with e1
   subst e1
   rw [hrun]; cases c <;> rfl
theorem SM.look {W:World} {m n:Nat} {M:ByteArray->Option Value} (h:SM W m n M) {T te:TypeId} (ht:Tryz.prog.underlying T=some (.map 9 te)) {z:Value} (hz:(zeroValue te).run Tryz.prog W=.ok z W) (s:ByteArray) (hs:s.size<=maxLen) :
  (Instr.lookup T (.map (some m)) (.string s) true).run Tryz.prog W=.ok (.tuple #[(M s).getD z,.bool (M s).isSome]) W:=look_gen true h ht hz s hs
theorem SM.look1 {W:World} {m n:Nat} {M:ByteArray->Option Value} (h:SM W m n M) {T te:TypeId} (ht:Tryz.prog.underlying T=some (.map 9 te)) {z:Value} (hz:(zeroValue te).run Tryz.prog W=.ok z W) (s:ByteArray) (hs:s.size<=maxLen) :
  (Instr.lookup T (.map (some m)) (.string s) false).run Tryz.prog W=.ok ((M s).getD z) W:=look_gen false h ht hz s hs
theorem Reads.put {D:DataW Value} {M:ByteArray->Option Value} (h:Reads D M) (hm:IsMap D) (s:ByteArray) (v:Value):Reads (D.put (.string s.data.toList) (.held v)) (fun t => if t=s then some v else M t):=fun t => by
 by_cases he:t=s
 ·subst he
  simp only [if_pos trivial]
  exact ⟨has_put_same (k:=.string t.data.toList) hm (by trivial) _,fun u hu z => by injection hu with hu; subst hu; exact atKey_put_same (k:=.string t.data.toList) hm (by trivial) _ _⟩
 ·simp only [if_neg he]
  have hne:Lit.string t.data.toList ≠ Lit.string s.data.toList:=fun e => he (bytes_inj (by injection e))
  exact ⟨(has_put_other hne _).trans (h t).1,fun u hu z => (atKey_put_other hne _ _).trans ((h t).2 u hu z)⟩
theorem SM.put {W:World} {m n:Nat} {M:ByteArray->Option Value} (h:SM W m n M) {T te:TypeId} (ht:Tryz.prog.underlying T=some (.map 9 te)) (s:ByteArray) (hs:s.size<=maxLen) (v:Value) (hn:n < maxLen) :
  ∃ w',(Instr.mapUpdate T (.map (some m)) (.string s) v).run Tryz.prog W=.ok () w'/\SM w' m (n + 1) (fun t => if t=s then some v else M t)/\W.grownBy w' (some m):=by
 obtain ⟨D,hD,hall⟩:=h.own
 obtain ⟨w',hrun,r1,r2⟩:=hD.update strKeyed ht hn (keyS hs) (val:=v) (d:=.held v) (ps:=[]) rfl
 exact ⟨w',hrun,⟨_,r1,hall.put hD.isMap s v⟩,r2⟩

end SMp
namespace ShF
open Go.RowKit Go.Maps
open ValM LexM NumM ExM TyM EvM Kit ExL RawV Within RawL GenL FldP EvF FcM SMp
set_option linter.unusedVariables false
theorem look_bool1 {W:World} {m n:Nat} {M:ByteArray->Option Value} (h:SM W m n M) (s:ByteArray) (hs:s.size<=maxLen) :
  (Instr.lookup 145 (.map (some m)) (.string s) false).run Tryz.prog W=.ok ((M s).getD (.bool false)) W:=h.look1 Tryz.underlying145 (by kernel_rfl) s hs
theorem put_bool {W:World} {m n:Nat} {M:ByteArray->Option Value} (h:SM W m n M) (s:ByteArray) (hs:s.size<=maxLen) (v:Value) (hn:n < maxLen) :
  ∃ w',(Instr.mapUpdate 145 (.map (some m)) (.string s) v).run Tryz.prog W=.ok () w'/\SM w' m (n + 1) (fun t => if t=s then some v else M t)/\W.grownBy w' (some m):=h.put Tryz.underlying145 s hs v hn
theorem look_flds {W:World} {m n:Nat} {M:ByteArray->Option Value} (h:SM W m n M) (s:ByteArray) (hs:s.size<=maxLen) :
  (Instr.lookup 143 (.map (some m)) (.string s) false).run Tryz.prog W=.ok ((M s).getD (.slice none 0 0)) W:=h.look1 Tryz.underlying143 (by kernel_rfl) s hs
theorem put_flds {W:World} {m n:Nat} {M:ByteArray->Option Value} (h:SM W m n M) (s:ByteArray) (hs:s.size<=maxLen) (v:Value) (hn:n < maxLen) :
  ∃ w',(Instr.mapUpdate 143 (.map (some m)) (.string s) v).run Tryz.prog W=.ok () w'/\SM w' m (n + 1) (fun t => if t=s then some v else M t)/\W.grownBy w' (some m):=h.put Tryz.underlying143 s hs v hn
theorem b_grown {B:Nat} {a w w':World} {m:Nat} (h:Below B a w) (hg:w.grownBy w' (some m)) (hB:B<=w.heap.size) (hm:B<=m):Below B a w':=h.grown hg hB (fun k e => by injection e with e; omega)
def fdBox (f:GenL.Fd):Obj:=.cells #[.string f.nm,.int .i64 f.kind,.int .i64 f.ty,.int .i64 f.d.op,.int .i64 f.d.k,.int .i64 f.d.n,.string f.d.s,.string f.d.nm,.slice f.A f.n f.c] 43
theorem fd_cells (w:World) (f:GenL.Fd) (V:World) (hV:Below (w.alloc (fdBox f)).heap.size (w.alloc (fdBox f)) V):V.cell? ⟨w.heap.size,0,none⟩=some (.string f.nm)/\V.cell? ⟨w.heap.size,1,none⟩=some (.int .i64 f.kind)/\V.cell? ⟨w.heap.size,2,none⟩=some (.int .i64 f.ty):=by
 have e1:V.heap[w.heap.size]?=_:=(hV.block _ (by simp)).trans (World.alloc_heap_new w (fdBox f))
 unfold fdBox at e1
 exact ⟨by simp [World.cell?,e1],by simp [World.cell?,e1],by simp [World.cell?,e1]⟩
set_option maxRecDepth 100000 in
set_option maxHeartbeats 4000000 in
theorem byName_any (fs:List GenL.Fd) (FA:Option Addr) (fc:Nat) (w:World) (hm:fs.length<=maxLen) (hc:fs.length<=fc/\fc<=maxLen) (hf:Flds w FA fs) (hz:∀ (k:Nat) (h:k < fs.length),fs[k].nm.size<=maxLen) :
  Calls Tryz.prog 98 #[.slice FA fs.length fc] w fun r w' => ∃ m,r=.returned (.map (some m))/\w.heap.size<=m/\SM w' m fs.length (byM fs FA fc fs.length)/\Below w.heap.size w w':=by
 have hmm:=@run_makeMap Tryz.prog
 obtain ⟨W1,hW1⟩:∃ V,w.alloc (.map #[] 0)=V:=⟨_,rfl⟩
 have hs0:SM W1 w.heap.size 0 (byM fs FA fc 0):=by rw [← hW1]; exact (SM.made w).to fun s => (byM_zero fs FA fc s).symm
 have hb1:Below w.heap.size w W1:=by rw [← hW1]; exact b_new w _
 have HS0:=Lib.hid hs0
 have HB1:=Lib.hid hb1
 have HW1:=Lib.hid hW1
 have HF:=Lib.hid hf
 have HZ:=Lib.hid hz
 obtain ⟨m,hmm2⟩:∃ m,w.heap.size=m:=⟨_,rfl⟩
 have hwm:w.heap.size<=m:=Nat.le_of_eq hmm2
 rw [hmm2] at HS0
 have HM:=Lib.hid hmm2
 have hfl:fs.length<=9223372036854775807:=Nat.le_trans hm (by unfold maxLen; decide)
 have hfcl:fc<=9223372036854775807:=Nat.le_trans hc.2 (by unfold maxLen; decide)
 have hcp:=hc.1
 have HMx:=Lib.hid hm
 clear hs0 hb1 hW1 hf hz hmm2 hm hc
 go_enter Tryz.func98,Tryz.ntmps98
 go_wp2_with fail
 rw [HW1.out,HM.out]
 go_loopw [4,5,9] (fun _ _ ii wr => ∃ k:Nat,ii=.int .i64 k/\k<=fs.length/\SM wr m k (byM fs FA fc k)/\Below w.heap.size w wr) (fun _ _ ii _ => fs.length - (intOf ii).toNat)
 case atStart => exact ⟨0,rfl,Nat.zero_le _,HS0.out,HB1.out⟩
 case round =>
  obtain ⟨k,rfl,hk,hsm,hb⟩:=hrel
  by_cases hlt:k < fs.length
  ·obtain ⟨ad,rfl,hat⟩:=HF.out.below hb k hlt
   have hnz:=HZ.out k hlt
   have hput:=fun h => byM_put (F:=fs) (some ad) fc hlt h
   have hskip:=fun h => byM_skip (F:=fs) (some ad) fc hlt h
   obtain ⟨f,hfk⟩:∃ f,fs[k]=f:=⟨_,rfl⟩
   rw [hfk] at hat hnz hput hskip
   obtain ⟨q0,q1,q2,q3,q4,q5,q6,q7,q8⟩:=hat
   obtain ⟨W5,hW5⟩:∃ V,wr.alloc (fdBox f)=V:=⟨_,rfl⟩
   obtain ⟨B9,hB9⟩:∃ B,wr.heap.size=B:=⟨_,rfl⟩
   have hb5:=b_new wr (fdBox f)
   have hcell:=fd_cells wr f
   rw [hW5,hB9] at hcell
   rw [hW5] at hb5
   obtain ⟨x0,_⟩:=hcell W5 (Below.refl _ _)
   obtain ⟨x0d,_⟩:=hcell W5.drew (b_drew (Below.refl _ _))
   have hsm5:=hsm.below hb5
   have hlk:=look_flds hsm5 f.nm hnz
   have hbw:=b_trans hb hb5
   by_cases hd:atF fs f.nm < k
   ·have hM:byM fs (some ad) fc k f.nm=some (.slice (some (ad.add (atF fs f.nm * 9))) 1 (fc - atF fs f.nm)):=by unfold byM; rw [if_pos hd]; rfl
    rw [hM] at hlk
    have hlk2:(Instr.lookup 143 (.map (some m)) (.string f.nm) false).run Tryz.prog W5=.ok (.slice (some (ad.add (atF fs f.nm * 9))) 1 (fc - atF fs f.nm)) W5:=hlk
    have HN:=Lib.hid (And.intro ((hsm5.to (hskip hd)).mono (Nat.le_succ _)) hbw)
    have HW5:=Lib.hid hW5
    have HB9:=Lib.hid hB9
    generalize fc - atF fs f.nm=c9 at hlk2
    generalize ad.add (atF fs f.nm * 9)=a9 at hlk2
    clear hsm hb hnz hput hskip hfk hb5 hcell hbw hW5 hB9 hlk hM hd hsm5 x0d
    unfold fdBox at HW5
    go_upto_region 5 with fail
    rw [HW5.out,HB9.out]
    go_wp2_with fail
    go_roundw
    case rel => exact ⟨k + 1,by go_num,by omega,HN.out.1,HN.out.2⟩
    case measure => simp [intOf]; omega
   ·have hM:byM fs (some ad) fc k f.nm=none:=by unfold byM; rw [if_neg hd]
    rw [hM] at hlk
    have hlk2:(Instr.lookup 143 (.map (some m)) (.string f.nm) false).run Tryz.prog W5=.ok (.slice none 0 0) W5:=hlk
    obtain ⟨w7,hput7,hs7,hg7⟩:=put_flds (hsm5.below (b_drew (Below.refl _ _))) f.nm hnz (.slice (some (ad.add (k * 9))) 1 (fc - k)) (by have:=HMx.out; omega)
    have hsl:∀ V:World,(Instr.sliceAt 23 (.slice (some ad) fs.length fc) (some (.int .i64 k)) (some (.int .i64 ((k:Int) + 1))) none).run Tryz.prog V=.ok (.slice (some (ad.add (k * 9))) 1 (fc - k)) V:=fun V => by
     have e1:((k:Int) + 1).toNat=k + 1:=by omega
     have e2:¬ (fs.length:Int) < (k:Int) + 1:=by omega
     have e3:¬ (fc:Int) < (k:Int) + 1:=by omega
     have e4:(k:Int)<=(k:Int) + 1:=by omega
     have e5:¬ fc=k:=by omega
     have e6:k<=fc:=by omega
     simp [go_sem,Tryz.underlying23,e1,e3,e4,e5]
     intro h
     omega
    have hkw:IntKind.i64.wrap ((k:Int) + 1)=(k:Int) + 1:=IntWalk.i64_in _ (by omega)
    have HN:=Lib.hid (And.intro (hs7.to (hput hd)) (b_grown (b_trans hbw (b_drew (Below.refl _ _))) hg7 (by have:=hbw.size; simpa using this) hwm))
    have HW5:=Lib.hid hW5
    have HB9:=Lib.hid hB9
    clear hsm hb hnz hput hskip hfk hb5 hcell hbw hW5 hB9 hlk hM hd hsm5 hs7 hg7
    unfold fdBox at HW5
    go_upto_region 5 with fail
    rw [HW5.out,HB9.out]
    go_wp2_with fail
    go_region
    go_wp2_with fail
    go_roundw
    case rel => exact ⟨k + 1,by go_num,by omega,HN.out.1,HN.out.2⟩
    case measure => simp [intOf]; omega
  ·have ek:k=fs.length:=by omega
   have HN:=Lib.hid (show SM wr m fs.length (byM fs FA fc fs.length)/\Below w.heap.size w wr from ⟨by rw [ek] at hsm; exact hsm,hb⟩)
   clear hsm hb ek
   go_wp2_with fail
   go_ret
   exact ⟨m,rfl,hwm,HN.out.1,HN.out.2⟩
theorem told_named (F:List GenL.Fd) (FA:Option Addr) (fc:Nat) (s:ByteArray) (w:World) (hf:Flds w FA F) (hm:F.length<=9223372036854775807) :
  ∃ (A:Option Addr) (n c:Nat),(byM F FA fc F.length s).getD (.slice none 0 0)=.slice A n c/\∀ (k m:Int) (t:ByteArray) (V:World),Below w.heap.size w V->Calls Tryz.prog 99 #[.slice A n c,.string s,.agg #[.int .i64 k,.int .i64 m,.string t]] V fun e w' => e=.returned (.int .i64 (toldE F s k m t))/\Below V.heap.size V w':=by
 by_cases h:atF F s < F.length
 ·obtain ⟨ad,rfl,hat⟩:=hf _ h
  refine ⟨some (ad.add (atF F s * 9)),1,fc - atF F s,by unfold byM; rw [if_pos h]; rfl,fun k m t V hV => ?_⟩
  have h1:Flds V (some (ad.add (atF F s * 9))) [F[atF F s]]:=fun i hi => by
   obtain rfl:i=0:=by simpa using hi
   refine ⟨_,rfl,?_⟩
   have e:(ad.add (atF F s * 9)).add (0 * 9)=ad.add (atF F s * 9):=by rw [Nat.zero_mul]; unfold Addr.add; rw [if_pos rfl]
   rw [e]
   exact hat.of_block (hV.block _ hat.lt)
  have:=told_any s k m t [F[atF F s]] (some (ad.add (atF F s * 9))) (fc - atF F s) V h1 (Nat.le_of_lt (show 1 < 9223372036854775807 by decide))
  rw [told_one k m t h] at this
  exact this
 ·refine ⟨none,0,0,by unfold byM; rw [if_neg h]; rfl,fun k m t V hV => ?_⟩
  have:=told_any s k m t [] none 0 V (fun i hi => absurd hi (by simp)) (by decide)
  rw [told_no k m t h] at this
  exact this
def fcBox (f:Fc):Obj:=.cells #[.string f.nm,.int .i64 f.kk,.int .i64 f.kn,.string f.ks,.int .i64 f.v.k,.int .i64 f.v.n,.string f.v.s] 57
theorem fc_cells (w:World) (f:Fc) (V:World) (hV:Below (w.alloc (fcBox f)).heap.size (w.alloc (fcBox f)) V):V.cell? ⟨w.heap.size,0,none⟩=some (.string f.nm)/\V.cell? ⟨w.heap.size,1,none⟩=some (.int .i64 f.kk)/\V.cell? ⟨w.heap.size,2,none⟩=some (.int .i64 f.kn)/\V.cell? ⟨w.heap.size,3,none⟩=some (.string f.ks)/\V.cell? ⟨w.heap.size,4,none⟩=some (.int .i64 f.v.k)/\V.cell? ⟨w.heap.size,5,none⟩=some (.int .i64 f.v.n)/\V.cell? ⟨w.heap.size,6,none⟩=some (.string f.v.s):=by
 have e1:V.heap[w.heap.size]?=_:=(hV.block _ (by simp)).trans (World.alloc_heap_new w (fcBox f))
 unfold fcBox at e1
 exact ⟨by simp [World.cell?,e1],by simp [World.cell?,e1],by simp [World.cell?,e1],by simp [World.cell?,e1],by simp [World.cell?,e1],by simp [World.cell?,e1],by simp [World.cell?,e1]⟩
theorem txt_nil {s:ByteArray} (h:s.toList=[]):s=⟨#[]⟩:=by
 rw [ByteArray.toList_eq] at h
 exact ByteArray.ext (Array.ext' h)
def frBox (FA:Option Addr) (n fc:Nat) (PA:Option Addr) (pn pc:Nat):Obj:=.cells #[.slice FA n fc,.slice PA pn pc] 26
theorem fr_cells (w:World) (FA:Option Addr) (n fc:Nat) (PA:Option Addr) (pn pc:Nat) (V:World) (hV:Below (w.alloc (frBox FA n fc PA pn pc)).heap.size (w.alloc (frBox FA n fc PA pn pc)) V):V.cell? ⟨w.heap.size,0,none⟩=some (.slice FA n fc)/\V.cell? ⟨w.heap.size,1,none⟩=some (.slice PA pn pc):=by
 have e1:V.heap[w.heap.size]?=_:=(hV.block _ (by simp)).trans (World.alloc_heap_new w (frBox FA n fc PA pn pc))
 unfold frBox at e1
 exact ⟨by simp [World.cell?,e1],by simp [World.cell?,e1]⟩
set_option maxRecDepth 100000 in
set_option maxHeartbeats 8000000 in
theorem facts_any (F:List GenL.Fd) (FA:Option Addr) (fc:Nat) (PA:Option Addr) (pn pc:Nat) (L:List Fc) (A:Option Addr) (c:Nat) (w:World) (hm:F.length<=maxLen) (hc:F.length<=fc/\fc<=maxLen) (hf:Flds w FA F) (hz:∀ (k:Nat) (h:k < F.length),F[k].nm.size<=maxLen) (hl:Fcs w A L) (hlz:∀ f ∈ L,f.nm.size<=maxLen) (hln:L.length<=maxLen) :
  Calls Tryz.prog 76 #[.agg #[.slice FA F.length fc,.slice PA pn pc],.slice A L.length c] w fun r w' => r=.returned (.int .i64 (factsE F L))/\Below w.heap.size w w':=by
 have hmm:=@run_makeMap Tryz.prog
 obtain ⟨W1,hW1⟩:∃ V,w.alloc (frBox FA F.length fc PA pn pc)=V:=⟨_,rfl⟩
 obtain ⟨B1,hB1⟩:∃ B,w.heap.size=B:=⟨_,rfl⟩
 have hb1:=b_new w (frBox FA F.length fc PA pn pc)
 have hcell:=fr_cells w FA F.length fc PA pn pc
 rw [hW1] at hb1 hcell
 have hbn:=byName_any F FA fc W1 hm hc (hf.below hb1) hz
 obtain ⟨x0,x1⟩:=hcell W1 (Below.refl _ _)
 rw [hB1] at x0 x1
 obtain ⟨R,hR⟩:∃ R,factsE F L=R:=⟨_,rfl⟩
 rw [hR]
 have hstop:∀ k,k < L.length->(∀ j,j < k->factE F L j=0)->factE F L k ≠ 0->R=factE F L k:=fun k hk h h0 => by rw [← hR]; exact facts_stop hk h h0
 have hall:(∀ j,j < L.length->factE F L j=0)->R=0:=fun h => by rw [← hR]; exact facts_all h
 have hll:L.length<=9223372036854775807:=Nat.le_trans hln (by unfold maxLen; decide)
 have HBn:=Lib.hid hbn
 have HStop:=Lib.hid hstop
 have HAll:=Lib.hid hall
 have HF:=Lib.hid hf
 have HL:=Lib.hid hl
 have HLz:=Lib.hid hlz
 have HLn:=Lib.hid hln
 have HM:=Lib.hid hm
 have HW1:=Lib.hid hW1
 have HB1:=Lib.hid hB1
 have Hb1:=Lib.hid hb1
 clear hbn hstop hall hf hl hlz hln hm hc hz hW1 hB1 hb1 hcell hR
 unfold frBox at HW1
 go_enter Tryz.func76,Tryz.ntmps76
 go_upto_region 1 with fail
 rw [HW1.out,HB1.out]
 go_wp2_with fail
 refine HBn.out.mono ?_; rintro r w2 ⟨m1,rfl,hm1,hsm1,hb2⟩
 have hbw2:=b_trans Hb1.out hb2
 obtain ⟨W3,hW3⟩:∃ V,w2.alloc (.map #[] 0)=V:=⟨_,rfl⟩
 obtain ⟨m2,hm2⟩:∃ m,w2.heap.size=m:=⟨_,rfl⟩
 have hb3:=b_new w2 (.map #[] 0)
 have hsm2:SM W3 m2 0 (toldM L 0):=by rw [← hW3,← hm2]; exact (SM.made w2).to fun s => (toldM_zero L s).symm
 rw [hW3] at hb3
 have hsm1':=hsm1.below hb3
 have hne:m1 ≠ m2:=by have:=hsm1.lt; omega
 have hge:w.heap.size<=m2:=by have:=hbw2.size; omega
 have HSt:=Lib.hid (And.intro hsm1' (And.intro hsm2 (b_trans hbw2 hb3)))
 have HW3:=Lib.hid hW3
 have HM2:=Lib.hid hm2
 clear hm1 hsm1 hb2 hbw2 hb3 hsm2 hsm1' hW3 hm2
 go_upto_region 2 with fail
 rw [HW3.out,HM2.out]
 go_wp2_with fail
 go_loopw [8,9,16] (fun _ _ ii wr => ∃ k:Nat,ii=.int .i64 k/\k<=L.length/\(∀ j,j < k->factE F L j=0)/\SM wr m1 F.length (byM F FA fc F.length)/\SM wr m2 k (toldM L k)/\Below w.heap.size w wr) (fun _ _ ii _ => L.length - (intOf ii).toNat)
 case atStart => exact ⟨0,rfl,Nat.zero_le _,fun j hj => absurd hj (by omega),HSt.out.1,HSt.out.2.1,HSt.out.2.2⟩
 case round =>
  obtain ⟨k,rfl,hk,hzr,hs1,hs2,hb⟩:=hrel
  obtain ⟨wa,rfl⟩:∃ V,V=wr:=⟨_,rfl⟩
  by_cases hlt:k < L.length
  ·obtain ⟨ad,rfl,hat⟩:=HL.out.below hb k hlt
   have hnz:=HLz.out L[k] (List.getElem_mem hlt)
   have hput:=toldM_put hlt
   have hfe:factE F L k=(if toldE F L[k].nm L[k].v.k L[k].v.n L[k].v.s=0 then (if keyZ L[k]=true then (if metB L k L[k].nm=true then 6 else 0) else 3) else toldE F L[k].nm L[k].v.k L[k].v.n L[k].v.s):=by unfold factE; rw [dif_pos hlt]
   have hstop:=HStop.out k hlt hzr
   have hnext:factE F L k=0->∀ j,j < k + 1->factE F L j=0:=fun e j hj => by
    by_cases h:j=k
    ·subst h; exact e
    ·exact hzr j (by omega)
   obtain ⟨f,hfk⟩:∃ f,L[k]=f:=⟨_,rfl⟩
   rw [hfk] at hat hnz hput hfe
   obtain ⟨q0,q1,q2,q3,q4,q5,q6⟩:=hat
   obtain ⟨W5,hW5⟩:∃ V,wa.alloc (fcBox f)=V:=⟨_,rfl⟩
   obtain ⟨B9,hB9⟩:∃ B,wa.heap.size=B:=⟨_,rfl⟩
   have hb5:=b_new wa (fcBox f)
   have hcell:=fc_cells wa f
   rw [hW5,hB9] at hcell
   rw [hW5] at hb5
   obtain ⟨x0,x1,x2,x3,x4,x5,x6⟩:=hcell W5 (Below.refl _ _)
   have hbw5:=b_trans hb hb5
   have hs15:=hs1.below hb5
   have hs25:=hs2.below hb5
   obtain ⟨A2,n2,c2,hv,htold⟩:=told_named F FA fc f.nm w HF.out (Nat.le_trans HM.out (by unfold maxLen; decide))
   have hlk:=look_flds hs15 f.nm hnz
   rw [hv] at hlk
   have htold5:=htold f.v.k f.v.n f.v.s W5 hbw5
   generalize toldE F f.nm f.v.k f.v.n f.v.s=T at htold5 hfe
   have HT:=Lib.hid htold5
   have HCell:=Lib.hid hcell
   have HSt5:=Lib.hid (And.intro hs15 (And.intro hs25 hbw5))
   have HPut:=Lib.hid hput
   have HFe:=Lib.hid hfe
   have HStop2:=Lib.hid hstop
   have HNx:=Lib.hid hnext
   have HW5:=Lib.hid hW5
   have HB9:=Lib.hid hB9
   have HNz:=Lib.hid hnz
   clear htold5 htold hv hcell hs15 hs25 hbw5 hb5 hput hfe hstop hnext hW5 hB9 hnz hs1 hs2 hb hzr hfk
   unfold fcBox at HW5
   go_upto_region 5 with fail
   rw [HW5.out,HB9.out]
   go_wp2_with fail
   refine HT.out.mono ?_; rintro r w6 ⟨rfl,hb6⟩
   obtain ⟨x0,x1,x2,x3,x4,x5,x6⟩:=HCell.out w6 hb6
   have hs26:=HSt5.out.2.1.below hb6
   have hlk6:=look_bool1 hs26 f.nm HNz.out
   rw [toldM_get] at hlk6
   have HS6:=Lib.hid (And.intro (HSt5.out.1.below hb6) (And.intro hs26 (b_trans HSt5.out.2.2 hb6)))
   clear hb6 hs26
   by_cases h0:T=0
   ·subst h0
    have hfe2:factE F L k=(if keyZ f=true then (if metB L k f.nm=true then 6 else 0) else 3):=HFe.out.trans (if_pos rfl)
    by_cases hkey:keyZ f=true
    ·rw [if_pos hkey] at hfe2
     have hkk:f.kk=0/\f.kn=0/\f.ks=⟨#[]⟩:=by
      unfold keyZ at hkey
      simp only [Bool.and_eq_true,decide_eq_true_eq] at hkey
      exact ⟨hkey.1.1,hkey.1.2,hkey.2⟩
     obtain ⟨hk1,hk2,hk3⟩:=hkk
     rw [hk1] at x1
     rw [hk2] at x2
     rw [hk3] at x3
     cases hmet:metB L k f.nm with
     | true =>
      rw [hmet] at hlk6 hfe2
      have h6:factE F L k=6:=hfe2.trans (if_pos rfl)
      obtain rfl:=(HStop2.out (by rw [h6]; decide)).trans h6
      clear h6 hfe2 hmet hkey hk1 hk2 hk3
      go_wp2_with fail
      go_ret
      exact ⟨rfl,HS6.out.2.2⟩
     | false =>
      rw [hmet] at hlk6 hfe2
      have h6:factE F L k=0:=hfe2.trans (if_neg (by decide))
      obtain ⟨w7,hput7,hs7,hg7⟩:=put_bool HS6.out.2.1 f.nm HNz.out (.bool true) (by have:=HLn.out; omega)
      have HN:=Lib.hid (And.intro (HNx.out h6) (And.intro (HS6.out.1.kept hg7 (by intro e; injection e with e; exact hne e)) (And.intro (hs7.to HPut.out) (b_grown HS6.out.2.2 hg7 HS6.out.2.2.size hge))))
      clear h6 hfe2 hmet hkey hk1 hk2 hk3 hs7 hg7
      go_wp2_with fail
      go_roundw
      case rel => exact ⟨k + 1,by go_num,by omega,HN.out.1,HN.out.2.1,HN.out.2.2.1,HN.out.2.2.2⟩
      case measure => simp [intOf]; omega
    ·rw [if_neg hkey] at hfe2
     obtain rfl:=(HStop2.out (by rw [hfe2]; decide)).trans hfe2
     have hno:f.kk=0->f.kn=0->f.ks.toList=[]->False:=fun a b c => hkey (by unfold keyZ; rw [a,b,txt_nil c]; rfl)
     have HNo:=Lib.hid hno
     clear hfe2 hno hkey HFe HNx HStop2 hlk6
     go_wp2_with fail
     all_goals first
      | (exfalso; exact HNo.out (by assumption) (by assumption) (by assumption))
      | (go_ret; exact ⟨rfl,HS6.out.2.2⟩)
      | (fail)
   ·have hfe2:factE F L k=T:=HFe.out.trans (if_neg h0)
    have t1:(T != 0)=true:=bne_iff_ne.2 h0
    obtain rfl:=(HStop2.out (by rw [hfe2]; exact h0)).trans hfe2
    clear hfe2 HFe HNx HStop2 h0
    go_wp2_with fail
    go_ret
    exact ⟨rfl,HS6.out.2.2⟩
  ·have e0:=HAll.out fun j hj => hzr j (by omega)
   subst e0
   have HB:=Lib.hid hb
   clear hb hs1 hs2 hzr
   go_wp2_with fail
   go_ret
   exact ⟨rfl,HB.out⟩
end ShF
end Go.Proofs.YtonlkmkfcaadlaaGreatDoor
