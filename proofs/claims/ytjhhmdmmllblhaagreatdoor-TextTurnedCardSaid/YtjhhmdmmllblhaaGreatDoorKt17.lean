/- FormTop RawOpen NmGen TyGen FrmOf PgForm RkForm ShForm TxGen Builder Show Print: what these laws name of them. -/
import Derived.Deep.Slices
import Derived.OpenShut
import Derived.ChangeSame
import Derived.DataReads
import Derived.Lib.AppendIntMem
import Derived.Lib.ItoaLen
import Derived.Test.YtjhhmdmmllblhaaGreatDoorKt16
set_option linter.unusedVariables false
namespace Go.Proofs.YtjhhmdmmllblhaaGreatDoor.FrmT
open Go.RowKit
open ValM LexM NumM ExM Kit ExL ExP RawV Within RawL RawN GenL Gen GenE GenT GenV FrmM Frm FldP
set_option linter.unusedVariables false
theorem nmK_inj:∀ i,i < 10->∀ j,j < 10->nmK i=nmK j->i=j:=by decide
theorem nmK_none:∀ i,i < 10->nmK i ≠ ⟨#[110,111,110,101]⟩:=by decide
theorem baseV_len (rs:List Rw):(baseV rs).length=countV rs:=fieldsV_len rs _
theorem formF_len (rs:List Rw):(formF rs).length=countV rs:=by
 unfold formF
 split
 ·rw [List.length_reverse,baseV_len]
 ·exact baseV_len rs
def plc (rs:List Rw) (i:Nat):Nat:=if turnB rs=true then countV rs - 1 - i else i
theorem plc_lt (rs:List Rw) (i:Nat) (h:i < countV rs):plc rs i < countV rs:=by unfold plc; split <;> omega
theorem plc_inj (rs:List Rw) (i j:Nat) (hi:i < countV rs) (hj:j < countV rs) (h:plc rs i=plc rs j):i=j:=by unfold plc at h; split at h <;> omega
theorem formF_at (rs:List Rw) (i:Nat) (h:i < (formF rs).length):(formF rs)[i]=(baseV rs)[plc rs i]'(by rw [baseV_len]; exact plc_lt rs i (by rw [← formF_len]; exact h)):=by
 have hl:=formF_len rs
 unfold formF plc
 by_cases ht:turnB rs=true
 ·simp only [if_pos ht,List.getElem_reverse]
  congr 1
  rw [baseV_len]
 ·simp only [if_neg ht]
theorem formF_nm (rs:List Rw) (i:Nat) (h:i < (formF rs).length):(formF rs)[i].nm=nmK (plc rs i):=by
 rw [formF_at rs i h]
 exact fieldsV_nm rs _ _ _
theorem frow_flds {P:Nat->Prop} {w:World} {A:Option Addr} {es:List FE} (h:FRow P w A es):Flds w A (es.map FE.fd):=fun i hi => by
 have hi':i < es.length:=by simpa using hi
 obtain ⟨g,e,_,hc,_⟩:=h i hi'
 refine ⟨_,e,?_⟩
 rw [add_block,List.getElem_map]
 exact fdAt_of hc
theorem fe_at {rs:List Rw} {es:List FE} (h:es.map FE.v=formF rs) (i:Nat) (hi:i < es.length) (hj:i < (formF rs).length):es[i].v=(formF rs)[i]:=by
 have:(es.map FE.v)[i]'(by simpa using hi)=(formF rs)[i]:=by simp only [h]
 rw [← this,List.getElem_map]
theorem form_places {rs:List Rw} {es:List FE} (h:es.map FE.v=formF rs):(es.length=countV rs)/\(∀ (i:Nat) (hi:i < es.length),atF (es.map FE.fd) (es[i].nm)=i/\es[i].nm.size<=4)/\atF (es.map FE.fd) ⟨#[110,111,110,101]⟩=es.length:=by
 have hl:es.length=(formF rs).length:=by rw [← h,List.length_map]
 have hc:es.length=countV rs:=by rw [hl,formF_len]
 have hb:=countV_bd rs
 have hn:∀ (i:Nat) (hi:i < es.length),es[i].nm=nmK (plc rs i):=fun i hi => by
  have:=fe_at h i hi (by omega)
  rw [← formF_nm rs i (by omega),← this]; rfl
 have hf:∀ (j:Nat) (hj:j < (es.map FE.fd).length),(es.map FE.fd)[j].nm=nmK (plc rs j):=fun j hj => by
  rw [List.getElem_map]; exact hn j (by simpa using hj)
 refine ⟨hc,fun i hi => ⟨?_,by rw [hn i hi]; exact nmK_size _⟩,?_⟩
 ·refine atF_eq _ _ i (by simpa using hi) (fun j hj hji e => ?_) ?_
  ·have hj':j < es.length:=by simpa using hj
   rw [hf j hj,hn i hi] at e
   have h1:=plc_lt rs j (by omega)
   have h2:=plc_lt rs i (by omega)
   have:=plc_inj rs j i (by omega) (by omega) (nmK_inj _ (by omega) _ (by omega) e)
   omega
  ·rw [hf i (by simpa using hi),hn i hi]
 ·have:=atF_none (fs:=es.map FE.fd) (s:=⟨#[110,111,110,101]⟩) fun j hj e => by
   have hj':j < es.length:=by simpa using hj
   rw [hf j hj] at e
   exact nmK_none _ (by have:=plc_lt rs j (by omega); omega) e
  rw [this,List.length_map]
theorem cell_blk {W:World} {b:Nat} {cs:Array Value} {t:TypeId} {fr:Nat × Nat} (h:W.heap[b]?=some (.cells cs t fr)) (o:Nat):W.cell? ⟨b,o,none⟩=cs[o]?:=by unfold World.cell?; rw [h]; rfl
end Go.Proofs.YtjhhmdmmllblhaaGreatDoor.FrmT
namespace Go.Proofs.YtjhhmdmmllblhaaGreatDoor.RawO
open Go.ChangeShapes Go.WideShapes Go.ChangeAt Go.RowKit Go.Deep
open RawL
set_option linter.unusedVariables false
theorem len4 {α:Type} {l:List α} (h:l.length=4):∃ a b c d,l=[a,b,c,d]:=by
 match l,h with
 | [a,b,c,d],_ => exact ⟨a,b,c,d,rfl⟩
theorem row_raw {H:Type} {enc:TypeId × Value->H} {W:World} {fuel:Nat} {cs:List Value} {y:DataW H × List MemPlace}
  (h:DataW.trod enc Tryz.prog W 0 (fun _ => true) true fuel 56 cs=some y):∃ k x z t,cs=[.int .i64 k,.int .i64 x,.int .i64 z,.string t]/\(Lit.int .i64 k).wf=true/\(Lit.int .i64 x).wf=true/\(Lit.int .i64 z).wf=true/\t.size<=maxLen:=by
 obtain ⟨ys,f1,hfu,hx,hl,hlen,hf⟩:=DataW.trod_struct Tryz.underlying56 h
 have hC:Tryz.prog.cellsOf 56=4:=by kernel_rfl
 rw [hC] at hl
 obtain ⟨d0,d1,d2,d3,rfl⟩:=len4 hl
 obtain ⟨y0,y1,y2,y3,rfl⟩:=len4 (show ys.length=4 from hlen)
 have g0:=hf 0 _ rfl
 have g1:=hf 1 _ rfl
 have g2:=hf 2 _ rfl
 have g3:=hf 3 _ rfl
 have c0:Tryz.prog.cellsOf 3=1:=by kernel_rfl
 have c2:Tryz.prog.cellsOf 9=1:=by kernel_rfl
 simp [c0] at g0 g1 g2
 simp [c2] at g3
 obtain ⟨k,e0,_,w0⟩:=DataW.trod_int Tryz.underlying3 g0
 obtain ⟨x,e1,_,w1⟩:=DataW.trod_int Tryz.underlying3 g1
 obtain ⟨z,e2,_,w2⟩:=DataW.trod_int Tryz.underlying3 g2
 obtain ⟨t,e3,_,w3⟩:=DataW.trod_string Tryz.underlying9 g3
 simp only [List.cons.injEq,and_true] at e0 e1 e2 e3
 subst e0 e1 e2 e3
 exact ⟨k,x,z,t,rfl,w0,w1,w2,w3⟩
set_option maxRecDepth 100000 in
theorem open_raws {H:Type} {enc:TypeId × Value->H} {W:World} {base:Nat} {v:Value} {d:DataW H} {p:List MemPlace}
  (hv:Value.okWide Tryz.prog W .any base 22 v) (h:DataW.Trod enc Tryz.prog W 0 (fun _ => true) true 22 v d p) :
  ∃ A n c,v=.slice A n c/\Raws W A n c:=by
 obtain ⟨A,n,c,rfl⟩:=okWide_slice Tryz.underlying22 hv
 obtain ⟨fuel,hf⟩:=h
 have hC:Tryz.prog.cellsOf 56=4:=by kernel_rfl
 refine ⟨A,n,c,rfl,?_⟩
 rcases open_slice Tryz.underlying22 hf with ⟨e,_⟩ | ⟨a,len,cap,m,f,D,Pl,e,_,hl,hc,hm,_,hel⟩
 ·have e':[Value.slice A n c]=[.slice none 0 0]:=e
  injection e' with e1 _
  injection e1 with e1 e2 e3
  subst e1 e2 e3
  exact ⟨Nat.le_refl _,Nat.zero_le _,fun i hi => absurd hi (by omega)⟩
 ·have e':[Value.slice A n c]=[.slice (some a) len cap]:=e
  injection e' with e1 _
  injection e1 with e1 e2 e3
  subst e1 e2 e3
  refine ⟨hl,hc,fun i hi => ?_⟩
  have hmi:i < m:=by rw [hm]; split <;> omega
  obtain ⟨cs',hcs,htr⟩:=hel i hmi
  rw [hC] at hcs
  obtain ⟨_,hcl,hat⟩:=World.cells?_some hcs
  obtain ⟨k,x,z,t,rfl,w0,w1,w2,w3⟩:=row_raw htr
  have h0:=hat 0 (by decide); have h1:=hat 1 (by decide); have h2:=hat 2 (by decide); have h3:=hat 3 (by decide)
  have ad:∀ (p:Addr) (j:Nat),j ≠ 0->p.add j=⟨p.block,p.off + j,none⟩:=fun p j hj => by unfold Addr.add; rw [if_neg hj]
  rw [ad _ _ (by decide)] at h1 h2 h3
  rw [show ∀ p:Addr,p.add 0=p from fun p => by unfold Addr.add; rw [if_pos rfl]] at h0
  exact ⟨a,k,x,z,t,rfl,h0,h1,h2,h3,w0,w1,w2,w3⟩
end Go.Proofs.YtjhhmdmmllblhaaGreatDoor.RawO
namespace Go.Proofs.YtjhhmdmmllblhaaGreatDoor.NmG
open Go.RowKit
open ValM LexM NumM ExM NmM Kit ExL ExP ExV RawL GenL Gen GenT NmP
set_option linter.unusedVariables false
theorem gn_refs {fs:List GenL.Fd}:∀ (k:Nat) (kind:Int) (x:Ex),Gn fs k kind x->∀ s ∈ Ex.refs x,∃ f ∈ fs,f.nm=s:=by
 have leaf:∀ (kind:Int) (d:Nd),LeafD fs kind d->∀ s ∈ Ex.refs (.mk d []),∃ f ∈ fs,f.nm=s:=fun kind d hl s hs => by
  rcases hl with ⟨h1,_⟩ | ⟨h1,_,_,_,f,hf,h6,_⟩
  ·rw [refs_mk_neg d [] (by omega),refsL_nil] at hs; simp at hs
  ·rw [refs_mk_pos d [] h1,refsL_nil] at hs
   simp at hs; subst hs
   exact ⟨f,hf,h6⟩
 intro k
 induction k with
 | zero =>
  intro kind x h s hs
  obtain ⟨d,rfl,hl⟩:=h
  exact leaf kind d hl s hs
 | succ k ih =>
  intro kind x h s hs
  rcases h with ⟨d,rfl,hl⟩ | ⟨op,ks,l,rfl,hop,hlen,hl⟩
  ·exact leaf kind d hl s hs
  ·have hne:op ≠ 2:=by
    rcases hop with ⟨h,_⟩ | ⟨_,⟨h,_⟩ | ⟨h,_⟩ | ⟨h,_⟩⟩ | ⟨_,⟨h,_⟩ | ⟨h,_⟩ | ⟨j,_,_,h,_⟩⟩ | ⟨_,_,h,_⟩ <;> omega
   rw [refs_mk_neg _ l hne] at hs
   have:∀ (l:List Ex),(∀ x ∈ l,∀ s ∈ Ex.refs x,∃ f ∈ fs,f.nm=s)->∀ s ∈ refsL l,∃ f ∈ fs,f.nm=s:=by
    intro l
    induction l with
    | nil => intro _ s hs; rw [refsL_nil] at hs; simp at hs
    | cons y l ihl =>
     intro hl s hs
     rw [refsL_cons,List.mem_append] at hs
     rcases hs with hs | hs
     ·exact hl y (by simp) s hs
     ·exact ihl (fun z hz => hl z (by simp [hz])) s hs
   refine this l (fun x hx => ?_) s hs
   obtain ⟨i,hi,rfl⟩:=List.getElem_of_mem hx
   exact ih _ _ (hl i hi (by omega))
end Go.Proofs.YtjhhmdmmllblhaaGreatDoor.NmG
namespace Go.Proofs.YtjhhmdmmllblhaaGreatDoor.TyG
open Go.RowKit
open ValM LexM NumM ExM NmM Kit ExL ExP ExV RawL GenL Gen GenT NmP NmG TyM Ty
set_option linter.unusedVariables false
theorem errL_zero (ks:List Int):errL (ks.map fun k => (k,(0:Int)))=0:=by
 induction ks with
 | nil => rfl
 | cons k r ih => rw [List.map_cons,errL,if_pos rfl,ih]
theorem vK_id {kind:Int} (h1:1<=kind) (h3:kind<=3):RawV.vK kind=kind:=by
 unfold RawV.vK
 split
 ·omega
 ·split <;> omega
theorem opT_ty {op:Int} {ks:List Int} {kind:Int} (h1:1<=kind) (h3:kind<=3) (h:OpT op ks kind):applyR (ruleReq op) (ruleRes op) ks=(kind,0)/\(∀ k ∈ ks,1<=k/\k<=3)/\op ≠ 1/\op ≠ 2:=by
 have hk:kind=1 ∨ kind=2 ∨ kind=3:=by omega
 rcases h with ⟨rfl,rfl⟩ | ⟨rfl,⟨rfl,rfl⟩ | ⟨rfl,rfl⟩ | ⟨a,b,rfl⟩⟩ | ⟨rfl,⟨rfl,rfl⟩ | ⟨a,b,rfl⟩ | ⟨j,j1,j3,a,b,rfl⟩⟩ | ⟨k1,k2,rfl,rfl⟩
 ·rcases hk with rfl | rfl | rfl <;> exact ⟨by decide,by decide,by decide,by decide⟩
 ·exact ⟨by decide,by decide,by decide,by decide⟩
 ·exact ⟨by decide,by decide,by decide,by decide⟩
 ·have:op=5 ∨ op=6 ∨ op=7 ∨ op=8 ∨ op=9:=by omega
  rcases this with rfl | rfl | rfl | rfl | rfl <;> exact ⟨by decide,by decide,by decide,by decide⟩
 ·exact ⟨by decide,by decide,by decide,by decide⟩
 ·have:op=15 ∨ op=16:=by omega
  rcases this with rfl | rfl <;> exact ⟨by decide,by decide,by decide,by decide⟩
 ·have:op=11 ∨ op=12 ∨ op=13 ∨ op=14:=by omega
  have hj:j=1 ∨ j=2 ∨ j=3:=by omega
  rcases this with rfl | rfl | rfl | rfl <;> rcases hj with rfl | rfl | rfl <;> exact ⟨by decide,by decide,by decide,by decide⟩
 ·obtain rfl:kind=3:=by omega
  exact ⟨by decide,by decide,by decide,by decide⟩
theorem ofT_ty {fs:List (ByteArray × Int)} {x:Ex} (h:x.checkE=0):ofT fs x=Ex.ty fs x:=by unfold ofT; rw [if_pos h]
end Go.Proofs.YtjhhmdmmllblhaaGreatDoor.TyG
namespace Go.Proofs.YtjhhmdmmllblhaaGreatDoor.FrmO
open Go.RowKit
open ValM LexM NumM ExM NmM Kit ExL ExP ExN ExC RawV Within RawL RawN GenL Gen GenT GenV FrmM Frm FldP FldR FldC FrmT TyM Ty TyG NmG
set_option linter.unusedVariables false
def fdOf (v:FV):GenL.Fd:=⟨v.nm,v.kind,v.ty,v.x.d,none,0,0⟩
theorem nts_fdOf (l:List FV):nts (l.map fdOf)=fvs l:=by unfold nts fvs; rw [List.map_map]; rfl
theorem gn_ty2 {fs:List GenL.Fd} {G:List (ByteArray × Int)} (hfs:∀ f ∈ fs,fieldT G f.nm=(f.ty,0)):∀ (k:Nat) (kind:Int) (x:Ex),1<=kind->kind<=3->Gn fs k kind x->Ex.ty G x=(kind,0):=by
 have leaf:∀ (kind:Int) (d:Nd),1<=kind->kind<=3->LeafD fs kind d->Ex.ty G (.mk d [])=(kind,0):=fun kind d h1 h3 hl => by
  rw [ty_mk,tyL_nil]
  unfold tyN
  rcases hl with ⟨g1,_,g3,_⟩ | ⟨g1,_,_,_,f,hf,g5,g6⟩
  ·rw [if_pos g1,g3,vK_id h1 h3]
  ·rw [if_neg (by omega),if_pos g1,← g5,hfs f hf,g6]
 intro k
 induction k with
 | zero =>
  intro kind x h1 h3 h
  obtain ⟨d,rfl,hl⟩:=h
  exact leaf kind d h1 h3 hl
 | succ k ih =>
  intro kind x h1 h3 h
  rcases h with ⟨d,rfl,hl⟩ | ⟨op,ks,l,rfl,hop,hlen,hl⟩
  ·exact leaf kind d h1 h3 hl
  ·obtain ⟨e1,e2,e3,e4⟩:=opT_ty h1 h3 hop
   have hty:tyL G l=ks.map fun k => (k,(0:Int)):=by
    rw [tyL_map]
    refine List.ext_getElem (by rw [List.length_map,List.length_map,hlen]) fun i hi hj => ?_
    rw [List.length_map] at hi hj
    rw [List.getElem_map,List.getElem_map]
    have hb:=e2 ks[i] (List.getElem_mem hj)
    exact ih _ _ hb.1 hb.2 (hl i hi hj)
   rw [ty_mk,hty]
   unfold tyN
   rw [if_neg e3,if_neg e4,if_pos (errL_zero ks),List.map_map]
   have:(List.map ((fun p:Int × Int => p.1) ∘ fun k => (k,(0:Int))) ks)=ks:=by
    rw [show ((fun p:Int × Int => p.1) ∘ fun k:Int => (k,(0:Int)))=id from rfl,List.map_id]
   rw [this]; exact e1
theorem fieldsV_take (rs : List Rw) : ∀ (n k : Nat), k ≤ n → (fieldsV rs n).1.take k = (fieldsV rs k).1
  | 0, k, h => by obtain rfl : k = 0 := by omega
                  rfl
  | n + 1, k, h => by
    by_cases e : k = n + 1
    · subst e; exact List.take_of_length_le (Nat.le_of_eq (fieldsV_len rs _))
    · have : (fieldsV rs (n + 1)).1 = (fieldsV rs n).1 ++ [_] := rfl
      rw [this, List.take_append_of_le_length (by rw [fieldsV_len]; omega)]
      exact fieldsV_take rs n k (by omega)
def aheadF (rs:List Rw) (i:Nat):List GenL.Fd:=((baseV rs).take i).map fdOf
structure BaseF (rs:List Rw) (i:Nat) (f:FV):Prop where
 nm:f.nm=nmK i
 kd:1<=f.kind/\f.kind<=3
 ty:1<=f.ty/\f.ty<=3
 inp:f.kind=1->f.x=zeroX
 fml:f.kind=2->Gn (aheadF rs i) 2 f.ty f.x
 lkp:f.kind=3->∃ k,1<=k/\k<=3/\Gn (aheadF rs i) 1 k f.x
theorem base_at (rs:List Rw) (i:Nat) (h:i < (baseV rs).length):BaseF rs i (baseV rs)[i]:=by
 have hlen:=baseV_len rs
 have key:∀ (l:List FV) (z:FV) (h:l.length < (l ++ [z]).length),(l ++ [z])[l.length]=z:=fun l z h => by simp
 have ht1:(baseV rs).take (i + 1)=(fieldsV rs (i + 1)).1:=fieldsV_take rs _ _ (by omega)
 have ht:(baseV rs).take i=(fieldsV rs i).1:=fieldsV_take rs _ _ (by omega)
 have hli:=fieldsV_len rs i
 obtain ⟨a,ha⟩:∃ a,(fieldsV rs i).2=a:=⟨_,rfl⟩
 have e:(baseV rs)[i]=⟨nmK i,1 + pick (nextV rs a).k 3,1 + pick (nextV rs a).y 3,(srcV rs (fieldsV rs i).1 a).1⟩:=by
  have h1:(baseV rs)[i]=((baseV rs).take (i + 1))[i]'(by rw [List.length_take]; omega):=by rw [List.getElem_take]
  have h2:((baseV rs).take (i + 1))[i]'(by rw [List.length_take]; omega)=(fieldsV rs (i + 1)).1[i]'(by rw [fieldsV_len]; omega):=by simp only [ht1]
  rw [h1,h2]
  have h3:(fieldsV rs (i + 1)).1[i]'(by rw [fieldsV_len]; omega)=(fieldsV rs (i + 1)).1[(fieldsV rs i).1.length]'(by rw [fieldsV_len,fieldsV_len]; omega):=by congr 1; exact hli.symm
  rw [h3,← ha]
  exact key _ _ (by simp)
 have hk:=pick_bd (nextV rs a).k 3 (by decide)
 have hy:=pick_bd (nextV rs a).y 3 (by decide)
 have hx:=pick_bd (nextV rs a).x 3 (by decide)
 have hF:nts (aheadF rs i)=fvs (fieldsV rs i).1:=by unfold aheadF; rw [ht]; exact nts_fdOf _
 rw [e]
 refine ⟨rfl,⟨by show 1<=1 + _; omega,by show 1 + _<=3; omega⟩,⟨by show 1<=1 + _; omega,by show 1 + _<=3; omega⟩,fun h => ?_,fun h => ?_,fun h => ?_⟩
 ·have h:1 + pick (nextV rs a).k 3=1:=h
  show (srcV rs (fieldsV rs i).1 a).1=_
  unfold srcV
  rw [if_neg (by omega),if_neg (by omega)]
 ·have h:1 + pick (nextV rs a).k 3=2:=h
  show Gn _ _ (1 + pick (nextV rs a).y 3) (srcV rs (fieldsV rs i).1 a).1
  unfold srcV
  rw [if_pos h,← hF]
  exact exprV_gn 2 _ _
 ·have h:1 + pick (nextV rs a).k 3=3:=h
  refine ⟨1 + pick (nextV rs a).x 3,by omega,by omega,?_⟩
  show Gn _ _ _ (srcV rs (fieldsV rs i).1 a).1
  unfold srcV
  rw [if_neg (by omega),if_pos h,← hF]
  exact exprV_gn 1 _ _
theorem nmK_ok:∀ i,i < 10->nmB (nmK i).data.toList=true/\LexB.nameE (nmK i).data.toList=0:=by decide
structure OfBase (rs:List Rw) (fs:List GenL.Fd) (X:Nat->Ex) (π:Nat->Nat):Prop where
 len:fs.length=countV rs
 lt:∀ i,i < fs.length->π i < fs.length
 inj:∀ i j,i < fs.length->j < fs.length->π i=π j->i=j
 sur:∀ j,j < fs.length->∃ i,i < fs.length/\π i=j
 at':∀ (i:Nat) (h:i < fs.length) (hb:π i < (baseV rs).length),fs[i].nm=(baseV rs)[π i].nm/\fs[i].kind=(baseV rs)[π i].kind/\fs[i].ty=(baseV rs)[π i].ty/\X i=(baseV rs)[π i].x/\(X i=zeroX->bareB fs[i].d fs[i].n=true)
namespace OfBase
variable {rs:List Rw} {fs:List GenL.Fd} {X:Nat->Ex} {π:Nat->Nat}
theorem ten (h:OfBase rs fs X π):fs.length<=10:=by rw [h.len]; exact (countV_bd rs).2
theorem bl (h:OfBase rs fs X π) {i:Nat} (hi:i < fs.length):π i < (baseV rs).length:=by rw [baseV_len,← h.len]; exact h.lt i hi
theorem base (h:OfBase rs fs X π) (i:Nat) (hi:i < fs.length):∃ f,BaseF rs (π i) f/\fs[i].nm=f.nm/\fs[i].kind=f.kind/\fs[i].ty=f.ty/\X i=f.x/\(X i=zeroX->bareB fs[i].d fs[i].n=true) :=
 ⟨_,base_at rs (π i) (h.bl hi),h.at' i hi (h.bl hi)⟩
theorem nm (h:OfBase rs fs X π) (i:Nat) (hi:i < fs.length):fs[i].nm=nmK (π i):=by
 obtain ⟨f,hf,h1,_⟩:=h.base i hi
 rw [h1,hf.nm]
theorem place (h:OfBase rs fs X π) (i:Nat) (hi:i < fs.length):atF fs (nmK (π i))=i:=by
 refine atF_eq _ _ i hi (fun j hj hji e => ?_) (h.nm i hi)
 rw [h.nm j hj] at e
 have h1:=h.lt j hj
 have h2:=h.lt i hi
 have h3:=h.ten
 have:=h.inj j i hj hi (nmK_inj _ (by omega) _ (by omega) e)
 omega
theorem ahead (h:OfBase rs fs X π) {i:Nat} (hi:i < fs.length):∀ f ∈ aheadF rs (π i),∃ j,j < fs.length/\π j < π i/\f.nm=nmK (π j)/\nmB f.nm.data.toList=true/\fieldT (fts fs) f.nm=(f.ty,0):=fun f hf => by
 unfold aheadF at hf
 obtain ⟨v,hv,rfl⟩:=List.mem_map.1 hf
 obtain ⟨m,hm,rfl⟩:=List.getElem_of_mem hv
 rw [List.length_take,baseV_len] at hm
 rw [List.getElem_take]
 have hml:m < (baseV rs).length:=by rw [baseV_len]; omega
 have hb:=base_at rs m hml
 have hl:=h.len
 obtain ⟨j,hj,e⟩:=h.sur m (by omega)
 have h10:=h.ten
 have hnm:(fdOf (baseV rs)[m]).nm=nmK m:=hb.nm
 refine ⟨j,hj,by omega,by rw [hnm,e],by rw [hnm]; exact (nmK_ok m (by omega)).1,?_⟩
 have hT:=fieldT_fts (fs:=fs) (s:=nmK m) hj (fun q hq hqj eq => by
  rw [h.nm q hq] at eq
  have:=h.inj q j hq hj (nmK_inj _ (by have:=h.lt q hq; omega) _ (by omega) (eq.trans (by rw [e])))
  omega) (by rw [h.nm j hj,e])
 rw [hnm,hT]
 have h3:=(h.at' j hj (h.bl hj)).2.2.1
 have h4:(baseV rs)[π j]'(h.bl hj)=(baseV rs)[m]'(by rw [baseV_len]; omega):=by simp only [e]
 rw [h3,h4]; rfl
theorem src (h:OfBase rs fs X π) (i:Nat) (hi:i < fs.length) (hk:fs[i].kind ≠ 1):(X i).checkE=0/\(∃ k,Ex.ty (fts fs) (X i)=(k,0)/\(fs[i].kind=2->k=fs[i].ty))/\∀ s ∈ Ex.refs (X i),∃ j,j < fs.length/\π j < π i/\s=nmK (π j):=by
 obtain ⟨f,hf,_,h2,h3,h4,_⟩:=h.base i hi
 have ha:=h.ahead hi
 have key:∀ (n:Nat) (k:Int) (x:Ex),n<=2->1<=k->k<=3->Gn (aheadF rs (π i)) n k x->x.checkE=0/\Ex.ty (fts fs) x=(k,0)/\∀ s ∈ Ex.refs x,∃ j,j < fs.length/\π j < π i/\s=nmK (π j):=fun n k x hn h1 h2 hg => by
  obtain ⟨g1,g2,g3⟩:=gn_ok (fun f hf => by obtain ⟨_,_,_,_,h,_⟩:=ha f hf; exact h) n k x hg
  have hb:nb n<=nb 2:=by
   rcases (by omega:n=0 ∨ n=1 ∨ n=2) with rfl | rfl | rfl <;> decide
  have e2:nb 2=13:=rfl
  refine ⟨by rw [checkE_ok (by omega) (by omega)]; exact g1,gn_ty2 (fun f hf => by obtain ⟨_,_,_,_,_,h⟩:=ha f hf; exact h) n k x h1 h2 hg,fun s hs => ?_⟩
  obtain ⟨f,hf,e⟩:=gn_refs n k x hg s hs
  obtain ⟨j,q1,q2,q3,_⟩:=ha f hf
  exact ⟨j,q1,q2,by rw [← e,q3]⟩
 rw [h2] at hk
 have hkd:=hf.kd
 by_cases h2k:f.kind=2
 ·obtain ⟨a,b,c⟩:=key 2 f.ty f.x (by omega) hf.ty.1 hf.ty.2 (hf.fml h2k)
  rw [h4]
  exact ⟨a,⟨f.ty,b,fun _ => h3.symm⟩,c⟩
 ·obtain ⟨k,k1,k3,hg⟩:=hf.lkp (by omega)
  obtain ⟨a,b,c⟩:=key 1 k f.x (by omega) k1 k3 hg
  rw [h4]
  exact ⟨a,⟨k,b,fun e => absurd (h2.symm.trans e) h2k⟩,c⟩
theorem kinds (h:OfBase rs fs X π) (i:Nat) (hi:i < fs.length):1<=fs[i].kind/\fs[i].kind<=3/\1<=fs[i].ty/\fs[i].ty<=3:=by
 obtain ⟨f,hf,_,h2,h3,_⟩:=h.base i hi
 rw [h2,h3]; exact ⟨hf.kd.1,hf.kd.2,hf.ty.1,hf.ty.2⟩
theorem check (h:OfBase rs fs X π):checkF fs X=0:=by
 have h10:=h.ten
 have hr:∀ (i:Nat) (hi:i < fs.length),rightE fs[i] (X i)=0:=fun i hi => by
  obtain ⟨f,hf,h1,h2,h3,h4,h5⟩:=h.base i hi
  obtain ⟨a,b,c,d⟩:=h.kinds i hi
  have hn:LexB.nameE fs[i].nm.data.toList=0:=by rw [h.nm i hi]; exact (nmK_ok _ (by have:=h.lt i hi; omega)).2
  unfold rightE
  rw [if_neg (fun g => g hn),if_pos ⟨isT_iff.2 ⟨a,b⟩,isT_iff.2 ⟨c,d⟩⟩]
  by_cases hk:fs[i].kind=1
  ·rw [if_pos hk,if_pos (h5 (by rw [h4]; exact hf.inp (by rw [← h2]; exact hk)))]
  ·rw [if_neg hk]; exact (h.src i hi hk).1
 have h1:∀ j,j < fs.length->ownE fs X j=0:=fun j hj => by
  unfold ownE
  rw [dif_pos hj,if_pos (hr j hj),h.nm j hj,h.place j hj,if_neg (Nat.lt_irrefl _)]
 have h2:∀ j,j < fs.length->typE fs X j=0:=fun j hj => by
  unfold typE srcE
  rw [dif_pos hj]
  by_cases hk:fs[j].kind=1
  ·rw [if_neg (by omega),if_neg (by omega)]
  ·obtain ⟨c1,⟨k,c2,c3⟩,_⟩:=h.src j hj hk
   have ho:=ofT_ty (fs:=fts fs) c1
   by_cases h2:fs[j].kind=2
   ·rw [if_pos h2]
    unfold fitsT
    rw [ho,c2,if_pos rfl,if_pos (c3 h2)]
   ·rw [if_neg h2]
    obtain ⟨_,b,_⟩:=h.kinds j hj
    split
    ·rw [ho,c2]
    ·rfl
 unfold checkF
 rw [if_neg (by omega),scan_zero _ h1,if_pos rfl,scan_zero _ h2]
end OfBase
def xOf (es:List FE) (k:Nat):Ex:=(es[k]?.map FE.x).getD zeroX
theorem xOf_at (es:List FE) (k:Nat) (h:k < es.length):xOf es k=es[k].x:=by unfold xOf; rw [List.getElem?_eq_getElem h]; rfl
theorem bare_zero {P:Nat->Prop} {w:World} {d:Nd} {A:Option Addr} {n:Nat} (h:IsP P w zeroX d A n):bareB d n=true:=by
 unfold zeroX at h
 rw [IsP] at h
 obtain ⟨rfl,rfl,_⟩:=h
 decide
theorem form_base {rs:List Rw} {es:List FE} {P:Nat->Prop} {w:World} {A:Option Addr} (h:es.map FE.v=formF rs) (hr:FRow P w A es):OfBase rs (es.map FE.fd) (xOf es) (plc rs):=by
 obtain ⟨hc,_,_⟩:=form_places h
 have hl:(es.map FE.fd).length=countV rs:=by rw [List.length_map,hc]
 refine ⟨hl,fun i hi => by rw [hl] at hi ⊢; exact plc_lt rs i hi,fun i j hi hj e => by rw [hl] at hi hj; exact plc_inj rs i j hi hj e,fun j hj => ?_,fun i hi hb => ?_⟩
 ·rw [hl] at hj ⊢
  refine ⟨plc rs j,plc_lt rs j hj,?_⟩
  unfold plc; split <;> omega
 ·have hi':i < es.length:=by simpa using hi
  have hj:i < (formF rs).length:=by rw [formF_len,← hl]; exact hi
  have e:=fe_at h i hi' hj
  rw [formF_at rs i hj] at e
  rw [List.getElem_map,xOf_at es i hi']
  obtain ⟨g,_,_,_,his⟩:=hr i hi'
  refine ⟨congrArg FV.nm e,congrArg FV.kind e,congrArg FV.ty e,congrArg FV.x e,fun hz => ?_⟩
  show bareB es[i].x.d es[i].m=true
  rw [hz] at his ⊢
  exact bare_zero his
theorem form_forms {rs:List Rw} {es:List FE} {P:Nat->Prop} {w:World} {A:Option Addr} (h:es.map FE.v=formF rs) (hr:FRow P w A es):Forms w (es.map FE.fd) (xOf es):=fun k hk => by
 have hk':k < es.length:=by simpa using hk
 obtain ⟨g,_,_,_,his⟩:=hr k hk'
 rw [List.getElem_map,xOf_at es k hk']
 refine ⟨?_,IsP.is _ _ _ _ his⟩
 have:=((form_places h).2.1 k hk').2
 show es[k].nm.size<=maxLen
 unfold maxLen; omega
end Go.Proofs.YtjhhmdmmllblhaaGreatDoor.FrmO
namespace Go.Proofs.YtjhhmdmmllblhaaGreatDoor.PgF
open Go.RowKit
open ValM LexM NumM ExM NmM Kit ExL ExP ExN ExC RawV Within RawL RawN GenL Gen GenT GenV FrmM Frm FldP FldR FldC FrmT TyM Ty TyG NmG FrmO PgM
set_option linter.unusedVariables false
structure Good (fs:List GenL.Fd) (ps:List PE):Prop where
 few:1<=ps.length/\ps.length<=6
 nm:∀ (k:Nat) (h:k < ps.length),LexB.nameE ps[k].nm.data.toList=0
 inj:∀ (j k:Nat) (hj:j < ps.length) (hk:k < ps.length),ps[j].nm=ps[k].nm->j=k
 sk:∀ (k:Nat) (h:k < ps.length),bareB ps[k].x.d ps[k].m=true ∨ fitsT (fts fs) ps[k].x 2=0
structure GoodN (fs:List GenL.Fd) (ps:List PE):Prop where
 at':∀ (k:Nat) (h:k < ps.length),∀ s ∈ ps[k].fs,atF fs s < fs.length
 one:∀ (j k:Nat) (hj:j < ps.length) (hk:k < ps.length) (s:ByteArray),s ∈ ps[j].fs->s ∈ ps[k].fs->j=k
 nd:∀ (k:Nat) (h:k < ps.length),ps[k].fs.Nodup
theorem Good.found {fs:List GenL.Fd} {ps:List PE} (h:Good fs ps) (k:Nat) (hk:k < ps.length):pAt ps ps[k].nm=k:=by
 unfold pAt
 exact fi_hit hk (fun j hj hjk => by unfold nmP; exact decide_eq_false fun e => by have:=h.inj j k hj hk e; omega) (by unfold nmP; exact decide_eq_true rfl)
theorem Good.page {fs:List GenL.Fd} {ps:List PE} (h:Good fs ps) (k:Nat) (hk:k < ps.length) (L:List ByteArray) (hL:ps[k].fs=L):pageE fs ps k=scan (nameE fs (metP ps k) L) L.length:=by
 subst hL
 unfold pageE
 rw [dif_pos hk,if_pos (h.nm k hk),h.found k hk,if_neg (Nat.lt_irrefl k)]
 by_cases h0:scan (nameE fs (metP ps k) ps[k].fs) ps[k].fs.length=0
 ·rw [if_pos h0,h0]
  rcases h.sk k hk with e | e
  ·rw [if_pos e]
  ·split
   ·rfl
   ·exact e
 ·rw [if_neg h0]
theorem met_mem (ps:List PE) (s:ByteArray):∀ k,k<=ps.length->(s ∈ metP ps k ↔ ∃ (j:Nat) (hj:j < ps.length),j < k/\s ∈ ps[j].fs)
 | 0,_ => by rw [metP_zero]; simp
 | k + 1,hk => by
  rw [metP_succ ps k (by omega),List.mem_append,met_mem ps s k (by omega)]
  constructor
  ·rintro (⟨j,hj,h1,h2⟩ | h)
   ·exact ⟨j,hj,by omega,h2⟩
   ·exact ⟨k,by omega,by omega,h⟩
  ·rintro ⟨j,hj,h1,h2⟩
   by_cases e:j=k
   ·subst e; exact .inr h2
   ·exact .inl ⟨j,hj,by omega,h2⟩
theorem nameE_ok {fs:List GenL.Fd} {met L:List ByteArray} {j:Nat} (hj:j < L.length) (ha:atF fs L[j] < fs.length) (hm:L[j] ∉ met) (hn:L[j] ∉ L.take j):nameE fs met L j=0:=by
 unfold nameE
 rw [dif_pos hj,if_pos ha,if_neg]
 rw [hasB_true,List.mem_append]
 rintro (h | h)
 ·exact hm h
 ·exact hn h
theorem nodup_take {L:List ByteArray} (h:L.Nodup) (j:Nat) (hj:j < L.length):L[j] ∉ L.take j:=fun hm => by
 obtain ⟨i,hi,e⟩:=List.getElem_of_mem hm
 rw [List.getElem_take] at e
 rw [List.length_take] at hi
 exact List.pairwise_iff_getElem.1 h i j (by omega) hj (by omega) e
theorem check_good {fs:List GenL.Fd} {ps:List PE} (h:Good fs ps) (hn:GoodN fs ps):checkP fs ps=0:=by
 have hf:=h.few
 unfold checkP
 rw [if_neg (by omega)]
 refine scan_zero _ fun k hk => ?_
 rw [h.page k hk _ rfl]
 refine scan_zero _ fun j hj => ?_
 refine nameE_ok hj (hn.at' k hk _ (List.getElem_mem hj)) (fun hm => ?_) (nodup_take (hn.nd k hk) j hj)
 obtain ⟨i,hi,h1,h2⟩:=(met_mem ps _ k (by omega)).1 hm
 have:=hn.one i k hi hk _ h2 (List.getElem_mem hj)
 omega
theorem pages_at (rs:List Rw) (l:List FV) (n a:Nat):∀ N,∀ (i:Nat) (h:i < (pagesV rs l n a N).1.length),∃ b,(pagesV rs l n a N).1[i]=⟨pgName i,onV l n i l.length,(skipV rs l b).1⟩
 | 0,i,h => absurd h (by simp [pagesV])
 | N + 1,i,h => by
  have hl:=pagesV_len rs l n a N
  have hl':=pagesV_len rs l n a (N + 1)
  by_cases hi:i < (pagesV rs l n a N).1.length
  ·have:(pagesV rs l n a (N + 1)).1[i]=(pagesV rs l n a N).1[i]:=List.getElem_append_left hi
   rw [this]; exact pages_at rs l n a N i hi
  ·have e:i=N:=by omega
   subst e
   refine ⟨(pagesV rs l n a i).2,?_⟩
   have key:∀ (l:List PV) (z:PV) (h:l.length < (l ++ [z]).length),(l ++ [z])[l.length]=z:=fun l z h => by simp
   have e2:(pagesV rs l n a (i + 1)).1[(pagesV rs l n a i).1.length]'(by omega)=⟨pgName i,onV l n i l.length,(skipV rs l (pagesV rs l n a i).2).1⟩:=key (pagesV rs l n a i).1 _ (by simp)
   have e3:(pagesV rs l n a (i + 1)).1[i]=(pagesV rs l n a (i + 1)).1[(pagesV rs l n a i).1.length]'(by omega):=by congr 1; exact hl.symm
   rw [e3,e2]
theorem on_mem (l:List FV) (n i:Nat) (s:ByteArray):∀ k,k<=l.length->s ∈ onV l n i k->∃ (j:Nat) (h:j < l.length),j < k/\j % (n + 1)=i/\s=l[j].nm
 | 0,_,h => by unfold onV at h; simp at h
 | k + 1,hk,h => by
  have e:(l[k]?.map FV.nm).getD ⟨#[]⟩=(l[k]'(by omega)).nm:=by rw [List.getElem?_eq_getElem (by omega)]; rfl
  unfold onV at h
  rw [e] at h
  have go:s ∈ onV l n i k->∃ (j:Nat) (h:j < l.length),j < k + 1/\j % (n + 1)=i/\s=l[j].nm:=fun h => by
   obtain ⟨j,a,b,c⟩:=on_mem l n i s k (by omega) h
   exact ⟨j,a,by omega,c⟩
  by_cases hm:k % (n + 1)=i
  ·rw [if_pos hm,List.mem_append] at h
   rcases h with h | h
   ·exact go h
   ·simp at h; exact ⟨k,by omega,by omega,hm,h⟩
  ·rw [if_neg hm] at h; exact go h
theorem on_nd (l:List FV) (hinj:∀ (i j:Nat) (hi:i < l.length) (hj:j < l.length),l[i].nm=l[j].nm->i=j) (n i:Nat):∀ k,k<=l.length->(onV l n i k).Nodup
 | 0,_ => List.nodup_nil
 | k + 1,hk => by
  have e:(l[k]?.map FV.nm).getD ⟨#[]⟩=(l[k]'(by omega)).nm:=by rw [List.getElem?_eq_getElem (by omega)]; rfl
  have ih:=on_nd l hinj n i k (by omega)
  unfold onV
  rw [e]
  split
  ·refine List.pairwise_append.2 ⟨ih,List.pairwise_singleton _ _,fun a ha b hb => ?_⟩
   simp at hb; subst hb
   obtain ⟨j,hj,h1,_,h2⟩:=on_mem l n i a k (by omega) ha
   intro e2
   have:=hinj j k hj (by omega) (h2.symm.trans e2)
   omega
  ·exact ih
theorem pgName_inj:∀ i,i < 4->∀ j,j < 4->pgName i=pgName j->i=j:=by decide
theorem pgName_ok:∀ i,i < 4->LexB.nameE (pgName i).data.toList=0:=by decide
theorem base_inj (rs:List Rw):∀ (i j:Nat) (hi:i < (baseV rs).length) (hj:j < (baseV rs).length),(baseV rs)[i].nm=(baseV rs)[j].nm->i=j:=fun i j hi hj e => by
 rw [(base_at rs i hi).nm,(base_at rs j hj).nm] at e
 have h1:=baseV_len rs
 have h2:=countV_bd rs
 exact nmK_inj i (by omega) j (by omega) e
theorem base_all {rs:List Rw} {fs:List GenL.Fd} {X:Nat->Ex} {π:Nat->Nat} (h:OfBase rs fs X π):∀ f ∈ (baseV rs).map fdOf,nmB f.nm.data.toList=true/\fieldT (fts fs) f.nm=(f.ty,0):=fun f hf => by
 obtain ⟨v,hv,rfl⟩:=List.mem_map.1 hf
 obtain ⟨m,hm,rfl⟩:=List.getElem_of_mem hv
 have hml:m < countV rs:=by rw [← baseV_len]; exact hm
 have hb:=base_at rs m hm
 have hl:=h.len
 obtain ⟨j,hj,e⟩:=h.sur m (by omega)
 have h10:=h.ten
 have hnm:(fdOf (baseV rs)[m]).nm=nmK m:=hb.nm
 refine ⟨by rw [hnm]; exact (nmK_ok m (by omega)).1,?_⟩
 have hT:=fieldT_fts (fs:=fs) (s:=nmK m) hj (fun q hq hqj eq => by
  rw [h.nm q hq] at eq
  have:=h.inj q j hq hj (nmK_inj _ (by have:=h.lt q hq; omega) _ (by omega) (eq.trans (by rw [e])))
  omega) (by rw [h.nm j hj,e])
 rw [hnm,hT]
 have h3:=(h.at' j hj (h.bl hj)).2.2.1
 have h4:(baseV rs)[π j]'(h.bl hj)=(baseV rs)[m]'hm:=by simp only [e]
 rw [h3,h4]; rfl
theorem skip_fits {rs:List Rw} {fs:List GenL.Fd} {X:Nat->Ex} {π:Nat->Nat} (h:OfBase rs fs X π) (b:Nat):(skipV rs (baseV rs) b).1=zeroX ∨ fitsT (fts fs) (skipV rs (baseV rs) b).1 2=0:=by
 unfold skipV
 split
 ·refine .inr ?_
  have ha:=base_all h
  rw [← nts_fdOf]
  have hg:=exprV_gn (rs:=rs) (fs:=(baseV rs).map fdOf) 1 2 (nextA rs b)
  obtain ⟨g1,g2,g3⟩:=gn_ok (fun f hf => (ha f hf).1) 1 2 _ hg
  have e1:nb 1<=13:=by decide
  have hc:(exprV rs (nts ((baseV rs).map fdOf)) 1 2 (nextA rs b)).1.checkE=0:=by rw [checkE_ok (by omega) (by omega)]; exact g1
  have ht:=gn_ty2 (fun f hf => (ha f hf).2) 1 2 _ (by decide) (by decide) hg
  have ho:=ofT_ty (fs:=fts fs) hc
  unfold fitsT
  rw [ho,ht,if_pos rfl,if_pos rfl]
 ·exact .inl rfl
theorem pe_at {l:List PV} {ps:List PE} (h:ps.map PE.v=l) (i:Nat) (hi:i < ps.length) (hj:i < l.length):ps[i].v=l[i]:=by
 have:(ps.map PE.v)[i]'(by simpa using hi)=l[i]:=by simp only [h]
 rw [← this,List.getElem_map]
theorem form_pages {rs:List Rw} {es:List FE} {ps:List PE} {P Q:Nat->Prop} {w w':World} {A PA:Option Addr} (h:es.map FE.v=formF rs) (hr:FRow P w A es) (hpv:ps.map PE.v=formP rs) (hpr:PRow Q w' PA ps) :
  (1<=ps.length/\ps.length<=4)/\Good (es.map FE.fd) ps/\GoodN (es.map FE.fd) ps/\∀ (k:Nat) (h:k < ps.length),ps[k].nm.size<=4/\∀ s ∈ ps[k].fs,s.size<=4:=by
 have hB:=form_base h hr
 have hbd:=pageN_bd rs
 have hlen:ps.length=pageN rs:=by
  have:=congrArg List.length hpv
  rw [List.length_map] at this
  rw [this]; exact pagesV_len _ _ _ _ _
 have hbl:=baseV_len rs
 have hcb:=countV_bd rs
 have at':∀ (k:Nat) (hk:k < ps.length),∃ b,ps[k].nm=pgName k/\ps[k].fs=onV (baseV rs) (pageN rs) k (baseV rs).length/\ps[k].x=(skipV rs (baseV rs) b).1:=fun k hk => by
  have hkf:k < (formP rs).length:=by rw [← hpv,List.length_map]; exact hk
  obtain ⟨b,e⟩:=pages_at rs (baseV rs) (pageN rs) (fieldsV rs (countV rs)).2 (pageN rs) k hkf
  have e1:=(pe_at hpv k hk hkf).trans e
  exact ⟨b,congrArg PV.nm e1,congrArg PV.fs e1,congrArg PV.x e1⟩
 have mem:∀ (k:Nat) (hk:k < ps.length) (s:ByteArray),s ∈ ps[k].fs->∃ j,j < countV rs/\j % (pageN rs + 1)=k/\s=nmK j:=fun k hk s hs => by
  obtain ⟨b,_,e,_⟩:=at' k hk
  rw [e] at hs
  obtain ⟨j,hj,_,h2,h3⟩:=on_mem _ _ _ s _ (Nat.le_refl _) hs
  exact ⟨j,by omega,h2,by rw [h3,(base_at rs j hj).nm]⟩
 refine ⟨by omega,⟨by omega,fun k hk => ?_,fun j k hj hk e => ?_,fun k hk => ?_⟩,⟨fun k hk s hs => ?_,fun j k hj hk s h1 h2 => ?_,fun k hk => ?_⟩,fun k hk => ⟨?_,fun s hs => ?_⟩⟩
 ·obtain ⟨b,e,_⟩:=at' k hk
  rw [e]; exact pgName_ok k (by omega)
 ·obtain ⟨b,e1,_⟩:=at' j hj
  obtain ⟨b,e2,_⟩:=at' k hk
  rw [e1,e2] at e
  exact pgName_inj j (by omega) k (by omega) e
 ·obtain ⟨b,_,_,e⟩:=at' k hk
  rcases skip_fits hB b with h1 | h1
  ·refine .inl ?_
   obtain ⟨g,_,_,_,his⟩:=hpr k hk
   have his:=his.skip
   rw [e.trans h1] at his ⊢
   exact bare_zero his
  ·exact .inr (by rw [e]; exact h1)
 ·obtain ⟨j,hj,_,rfl⟩:=mem k hk s hs
  obtain ⟨i,hi,e⟩:=hB.sur j (by rw [hB.len]; exact hj)
  have:=hB.place i hi
  rw [e] at this
  rw [this]; exact hi
 ·obtain ⟨a,ha,h3,h4⟩:=mem j hj s h1
  obtain ⟨b,hb,h5,h6⟩:=mem k hk s h2
  have:=nmK_inj a (by omega) b (by omega) (h4.symm.trans h6)
  subst this
  omega
 ·obtain ⟨b,_,e,_⟩:=at' k hk
  rw [e]; exact on_nd _ (base_inj rs) _ _ _ (Nat.le_refl _)
 ·obtain ⟨b,e,_⟩:=at' k hk
  rw [e]; show 2<=4; decide
 ·obtain ⟨j,hj,_,rfl⟩:=mem k hk s hs
  exact nmK_size j
theorem prow_pgs {P:Nat->Prop} {w:World} {A:Option Addr} {ps:List PE} (h:PRow P w A ps):Pgs w A ps:=fun i hi => by
 obtain ⟨g,e,_,hc,_⟩:=h i hi
 refine ⟨_,e,?_⟩
 rw [add_block]
 exact ⟨hc 0 (by decide),hc 1 (by decide),hc 2 (by decide),hc 3 (by decide),hc 4 (by decide),hc 5 (by decide),hc 6 (by decide),hc 7 (by decide)⟩
theorem strP_trow {P:Nat->Prop} {w:World} {A:Option Addr} {L:List ByteArray} (h:StrP P w A L):TRow w A L:=fun j hj => by
 obtain ⟨a,e,_,hc⟩:=h j hj
 exact ⟨a,e,hc⟩
theorem prow_ok {P:Nat->Prop} {w:World} {A:Option Addr} {ps:List PE} (h:PRow P w A ps) (hs:∀ (k:Nat) (h:k < ps.length),ps[k].nm.size<=4/\∀ s ∈ ps[k].fs,s.size<=4):PgsOk w ps:=fun e he => by
 obtain ⟨k,hk,rfl⟩:=List.getElem_of_mem he
 obtain ⟨g,_,_,_,hi⟩:=h k hk
 obtain ⟨h1,h2⟩:=hs k hk
 exact ⟨by unfold maxLen; omega,strP_trow hi.str,fun s hs => by have:=h2 s hs; unfold maxLen; omega,by have:=hi.len; unfold maxLen; omega,IsP.is _ _ _ _ hi.skip⟩
end Go.Proofs.YtjhhmdmmllblhaaGreatDoor.PgF
namespace Go.Proofs.YtjhhmdmmllblhaaGreatDoor.FrmO
open Go.RowKit
open ValM LexM NumM ExM NmM Kit ExL ExP ExN ExC RawV Within RawL RawN GenL Gen GenT GenV FrmM Frm FldP FldR FldC FrmT TyM Ty TyG NmG NmO NmI NmT RkM RkD
set_option linter.unusedVariables false
namespace OfBase
variable {rs:List Rw} {fs:List GenL.Fd} {X:Nat->Ex} {π:Nat->Nat}
theorem needs (h:OfBase rs fs X π) (i:Nat) (hi:i < fs.length):∀ j ∈ nd (needsF fs X) i,j < fs.length/\π j < π i:=fun j hj => by
 rw [needsF_nd _ _ _ hi] at hj
 unfold needF at hj
 rw [dif_pos hi] at hj
 by_cases hk:fs[i].kind=1
 ·rw [if_pos hk] at hj; simp at hj
 ·rw [if_neg hk] at hj
  obtain ⟨c1,_,c3⟩:=h.src i hi hk
  obtain ⟨s,hs,rfl⟩:=List.mem_map.1 hj
  have hs2:s ∈ Ex.refs (X i):=by
   have e:=bytes_refs (Ex.refs (X i))
   unfold ofL at hs
   rw [if_pos c1] at hs
   unfold mkL at hs e
   obtain ⟨b,hb,rfl⟩:=List.mem_map.1 hs
   rw [rise_mem] at hb
   rw [← e]
   exact List.mem_map.2 ⟨b,hb,rfl⟩
  obtain ⟨q,q1,q2,q3⟩:=c3 s hs2
  have:plN fs s=q:=by unfold plN; rw [q3,h.place q q1,if_pos q1]
  rw [this]; exact ⟨q1,q2⟩
end OfBase
end Go.Proofs.YtjhhmdmmllblhaaGreatDoor.FrmO
namespace Go.Proofs.YtjhhmdmmllblhaaGreatDoor.RkS
open Go.RowKit
open ValM LexM NumM ExM NmM Kit ExL ExP ExN ExC RawV Within RawL RawN GenL Gen GenT GenV FrmM Frm FldP FldR FldC FrmT FrmO TyM Ty TyG NmG NmO NmI NmR RkM RkA RkB RkC RkD RkO
set_option linter.unusedVariables false
end Go.Proofs.YtjhhmdmmllblhaaGreatDoor.RkS
namespace Go.Proofs.YtjhhmdmmllblhaaGreatDoor.RkK
open Go.RowKit
open ValM LexM NumM ExM NmM Kit ExL ExP ExN ExC RawV Within RawL RawN GenL Gen GenT GenV FrmM Frm FldP FldR FldC FrmT FrmO TyM Ty TyG NmG NmO NmI NmR RkM RkA RkB RkC RkD RkO RkS
set_option linter.unusedVariables false
def RankAt (ns:List (List Nat)) (n:Nat) (w:World) (e:Ending) (w':World):Prop :=
 ∃ g cap,e=.returned (.tuple #[.slice (some ⟨g,0,none⟩) n cap,.slice none 0 0,.int .i64 0])/\(∀ j,j < n->w'.cell? ⟨g,j,none⟩=some (.int .i64 (rk (rankF ns) j)))/\w.heap.size<=g/\Below w.heap.size w w'
theorem RankOk.at {ns:List (List Nat)} {n:Nat} (hn:ns.length=n) (h0:0 < n) {w:World} {e:Ending} {w':World} (h:RankOk ns w e w'):RankAt ns n w e w':=by
 obtain ⟨v,rfl,hown,hb⟩:=h
 subst hn
 obtain ⟨g,cap,rfl,hg,_,_,_,hc⟩:=GenL.own_form hown h0
 exact ⟨g,cap,rfl,fun j hj => by rw [hc j (by omega),iV_at _ _ (by rw [rankF_len]; exact hj)],hg,hb⟩
structure FormRank (rs:List Rw) (es:List FE) (FA:Option Addr) (fc:Nat) (w:World):Prop where
 of:∀ V:World,Below w.heap.size w V->Calls Tryz.prog 27 #[.slice FA es.length fc] V (RankAt (needsF (es.map FE.fd) (xOf es)) es.length V)
 base:OfBase rs (es.map FE.fd) (xOf es) (plc rs)
 flds:Flds w FA (es.map FE.fd)
 forms:Forms w (es.map FE.fd) (xOf es)
 ge:∀ i,i < es.length->0<=rk (rankF (needsF (es.map FE.fd) (xOf es))) i/\rk (rankF (needsF (es.map FE.fd) (xOf es))) i<=(plc rs i:Int)
 len:es.length=countV rs
theorem form_rank {rs:List Rw} {es:List FE} {P:Nat->Prop} {w:World} {FA:Option Addr} {fc:Nat} (h:es.map FE.v=formF rs) (hr:FRow P w FA es) (hcap:es.length<=fc/\fc<=maxLen) (hT:Tab w):FormRank rs es FA fc w:=by
 have hB:=form_base h hr
 have hl:(es.map FE.fd).length=es.length:=List.length_map _
 have hlen:es.length=countV rs:=(form_places h).1
 have hge:∀ i,i < es.length->0<=rk (rankF (needsF (es.map FE.fd) (xOf es))) i/\rk (rankF (needsF (es.map FE.fd) (xOf es))) i<=(plc rs i:Int):=fun i hi => by
  refine rankF_ok (m:=plc rs) (fun k hk j hj => ?_) _ i (Nat.le_refl _) (by rw [needsF_len,hl]; exact hi)
  rw [needsF_len] at hk ⊢
  exact hB.needs k hk j hj
 refine ⟨fun V hV => ?_,hB,frow_flds hr,form_forms h hr,hge,hlen⟩
 have h10:=hB.ten
 have:=of_ok (es.map FE.fd) (xOf es) FA fc V (by omega) ((frow_flds hr).below hV) ((form_forms h hr).below hV) (hT.below hV) (by rw [hl]; exact hcap) hB.check (fun i hi => (hge i (by omega)).1)
 rw [hl] at this
 exact this.mono fun e w' hh => RankOk.at (by rw [needsF_len,hl]) (by have:=(countV_bd rs).1; omega) hh
end Go.Proofs.YtjhhmdmmllblhaaGreatDoor.RkK
namespace Go.Proofs.YtjhhmdmmllblhaaGreatDoor.RkR
open Go.RowKit
open ValM LexM NumM ExM NmM Kit ExL ExP ExN ExC RawV Within RawL RawN GenL Gen GenT GenV FrmM Frm FldP FldR FldC FrmT FrmO TyM Ty TyG NmG NmO NmI NmT NmR NmV RkM RkA RkB RkC RkD RkO RkS RkK
set_option linter.unusedVariables false
end Go.Proofs.YtjhhmdmmllblhaaGreatDoor.RkR
namespace Go.Proofs.YtjhhmdmmllblhaaGreatDoor.ShG
open Go.RowKit
open ValM LexM NumM ExM NmM Kit ExL ExP ExN RawV Within RawL RawN GenL FldP FldR FldC FrmM Frm FrmT FrmO PgM PgA PgF RkM RkA RkD RkO RkS RkK ShT ShL
set_option linter.unusedVariables false
theorem form_check {rs:List Rw} {es:List FE} {ps:List PE} {P Q:Nat->Prop} {w:World} {FA PA:Option Addr} {fc pc:Nat} (hv:es.map FE.v=formF rs) (hr:FRow P w FA es) (hpv:ps.map PE.v=formP rs) (hpr:PRow Q w PA ps) (hcap:es.length<=fc/\fc<=maxLen) (hpcap:ps.length<=pc/\pc<=maxLen) (hT:Tab w) :
  ∀ V,Below w.heap.size w V->Calls Tryz.prog 12 #[.agg #[.slice FA es.length fc,.slice PA ps.length pc]] V fun e w' => e=.returned (.int .i64 0)/\Below V.heap.size V w':=fun V hV => by
 have hR:=form_rank (fc:=fc) hv hr hcap hT
 obtain ⟨hpl,hgood,hgn,hsz⟩:=form_pages hv hr hpv hpr
 have hck:=check_good hgood hgn
 have hcl:=(form_places hv).1
 have hcb:=countV_bd rs
 have hB:=form_base hv hr
 have:=ShT.check_any es.length FA fc ps.length PA pc 0 0 V (fun V' hV' => (hR.of V' (hV.trans (hV'.mono hV.size))).mono fun e w' h => by
  obtain ⟨g,cap,rfl,_,_,hb⟩:=h
  exact ⟨_,_,rfl,hb⟩) (fun _ V' hV' => by
  have hb:=hV.trans (hV'.mono hV.size)
  have:=PgB.check_any ps PA pc (es.map FE.fd) FA fc V' (by rw [List.length_map]; omega) ((frow_flds hr).below hb) (fun k hk => by
   rw [hB.nm k hk]
   have:=nmK_size (plc rs k)
   unfold maxLen; omega) ((prow_pgs hpr).below hb) ((prow_ok hpr hsz).below hb) (by unfold maxLen; omega) (fun e he => by
   obtain ⟨k,hk,rfl⟩:=List.getElem_of_mem he
   obtain ⟨g,_,_,_,hi⟩:=hpr k hk
   have:=hi.len; omega) (hT.below hb) hpcap
  rw [hck,List.length_map] at this
  exact this)
 rw [if_pos rfl] at this
 exact this
end Go.Proofs.YtjhhmdmmllblhaaGreatDoor.ShG
namespace Go.Proofs.YtjhhmdmmllblhaaGreatDoor.TxK
open Go.RowKit
open ShE ValM LexM NumM ExM NmM ShowM PrM Ty Kit ExL ExP ExN ExC RawV Within RawL RawN GenL Gen GenT GenV FrmM Frm FldP FldR FldC FrmT FrmO TyM PgM PgA PgF RkM RkA RkD RkO RkS RkK ShT TxM TxR TxT
set_option linter.unusedVariables false
theorem needs_same {es es':List FE} {X X':Nat->Ex} (h:es.map flE=es'.map flE) (hX:Srcs X es) (hX':Srcs X' es'):needsF (es.map FE.fd) X=needsF (es'.map FE.fd) X':=by
 have hl:=len_same h
 unfold needsF
 rw [List.length_map,List.length_map,← hl]
 refine List.map_congr_left fun k hk => ?_
 have hk:=List.mem_range.1 hk
 unfold needF
 rw [dif_pos (by rw [List.length_map]; exact hk),dif_pos (by rw [List.length_map]; omega),List.getElem_map,List.getElem_map,hX k hk,hX' k (by omega)]
 obtain ⟨a,b,c,d⟩:=fl_same (at_fl h k hk (by omega))
 have hpl:plN (es.map FE.fd)=plN (es'.map FE.fd):=by
  funext s
  unfold plN
  rw [at_same h s,List.length_map,List.length_map,hl]
 rw [hpl,d]
 show (if es[k].kind=1 then _ else _)=if es'[k].kind=1 then _ else _
 rw [b]
theorem rank_same {es es':List FE} {X X':Nat->Ex} {w w':World} (h:es.map flE=es'.map flE) (hi:FIs w es) (hi':FIs w' es') (hX:Srcs X es) (hX':Srcs X' es'):rankE (es.map FE.fd) X=rankE (es'.map FE.fd) X':=by
 unfold rankE
 rw [check_same h hi hi' hX hX',needs_same h hX hX',List.length_map,List.length_map,len_same h]
theorem srcs_xOf (es:List FE):Srcs (xOf es) es:=fun i h => xOf_at es i h
theorem gen_ok {rs:List Rw} {es:List FE} {ps:List PE} {P Q:Nat->Prop} {w:World} {FA PA:Option Addr} (hv:es.map FE.v=formF rs) (hr:FRow P w FA es) (hpv:ps.map PE.v=formP rs) (hpr:PRow Q w PA ps) :
  FormOk w es ps (xOf es)/\rankE (es.map FE.fd) (xOf es)=0/\es.length<=10/\ps.length<=4:=by
 obtain ⟨hpl,hgood,hgn,hsz⟩:=form_pages hv hr hpv hpr
 have hB:=form_base hv hr
 have hl:(es.map FE.fd).length=es.length:=List.length_map _
 have h10:=hB.ten
 rw [hl] at h10
 refine ⟨⟨fun i hi => ?_,fun i hi => ?_,srcs_xOf es,hB.check,check_good hgood hgn⟩,?_,h10,hpl.2⟩
 ·obtain ⟨g,_,_,_,his⟩:=hr i hi
  exact his.is
 ·obtain ⟨g,_,_,_,his⟩:=hpr i hi
  exact his.skip.is
 ·unfold rankE
  rw [if_pos hB.check,if_pos]
  intro i hi
  have:=(rankF_ok (ns:=needsF (es.map FE.fd) (xOf es)) (m:=plc rs) (fun k hk j hj => by
   rw [needsF_len] at hk ⊢
   exact hB.needs k hk j hj) _ i (Nat.le_refl _) (by rw [needsF_len]; exact hi)).1
  intro e
  have e:rk (rankF (needsF (es.map FE.fd) (xOf es))) i=-1:=e
  have this:0<=rk (rankF (needsF (es.map FE.fd) (xOf es))) i:=this
  omega
theorem prow_caps {P:Nat->Prop} {w:World} {A:Option Addr} {ps:List PE} (h:PRow P w A ps):∀ e ∈ ps,e.fs.length<=1048576/\e.fs.length<=e.fc:=fun e he => by
 obtain ⟨i,hi,rfl⟩:=List.getElem_of_mem he
 obtain ⟨g,_,_,_,his⟩:=h i hi
 exact ⟨by have:=his.len; omega,his.cap⟩
end Go.Proofs.YtjhhmdmmllblhaaGreatDoor.TxK
namespace Go.Proofs.YtjhhmdmmllblhaaGreatDoor.Bld
open Go.RowKit
set_option linter.unusedVariables false
theorem sizeB:(Tryz.prog.info? 68).map (·.size)=some 2:=by kernel_rfl
theorem infoByte:(Tryz.prog.info? 5).map (fun i => (i.zero,i.size,i.bytes))=some (some (.int .u8 0),1,1):=by kernel_rfl
set_option maxRecDepth 100000 in
theorem check_used (b:Nat) (w:World) (h0:w.cell? ⟨b,0,none⟩=some (.pointer (some ⟨b,0,none⟩))) :
  Calls Tryz.prog 40 #[.pointer (some ⟨b,0,none⟩)] w fun e w' => e=.returned (.tuple #[])/\w=w':=by
 obtain ⟨j,hj,_⟩:=Option.map_eq_some_iff.1 sizeB
 go_enter Tryz.func40,Tryz.ntmps40
 go_wp2
 rw [Lib.run_neq_ptr_same w _ Tryz.underlying66 hj]
 go_wp2
 go_end0
 exact ⟨rfl,rfl⟩
theorem liesB:liesAt Tryz.prog Tryz.prog.depth 68 (2 / Tryz.prog.cellsOf 68) 0 68 1=true:=by kernel_rfl
set_option maxRecDepth 100000 in
theorem check_fresh (b:Nat) (w:World) (h0:w.cell? ⟨b,0,none⟩=some (.pointer none)) (hsh:w.shape? b=some (68,2)) (hfz:w.frozen? ⟨b,0,none⟩=false) :
  Calls Tryz.prog 40 #[.pointer (some ⟨b,0,none⟩)] w fun e w' => e=.returned (.tuple #[])/\w.setCell ⟨b,0,none⟩ (.pointer (some ⟨b,0,none⟩))=w':=by
 obtain ⟨j,hj,hjs⟩:=Option.map_eq_some_iff.1 sizeB
 go_enter Tryz.func40,Tryz.ntmps40
 go_wp2
 rw [Lib.run_to_unsafe w ⟨b,0,none⟩ Tryz.underlying66 Tryz.underlying121 hj (by rw [hjs]; decide) hsh (Nat.zero_lt_succ 1)]
 simp only [Result.andThen]
 rw [Oper.upon_value]
 go_wp2
 rw [run_callFunc_extern Tryz.func65 (by kernel_rfl) (by kernel_rfl) (by kernel_rfl) (e:=Extern.AbiNoEscape.same) (by kernel_rfl)]
 rw [Lib.run_noEscape]
 simp only [Result.andThen]
 rw [Oper.upon_value]
 go_wp2
 rw [Lib.run_from_unsafe w ⟨b,0,none⟩ Tryz.underlying121 Tryz.underlying66 hj hsh liesB]
 simp only [Result.andThen]
 rw [Oper.upon_value]
 go_wp2
 go_end0
 exact ⟨rfl,rfl⟩
theorem copyCheck (B b:Nat) (bs:List Value) (w:World) (h:Lib.IsBuilder 68 5 B b bs w) :
  Calls Tryz.prog 40 #[.pointer (some ⟨b,0,none⟩)] w fun e w' => e=.returned (.tuple #[])/\(Lib.BuilderAt 68 5 B b (.pointer (some ⟨b,0,none⟩)) bs w'/\Below B w w'):=by
 rcases h with h | h
 ·refine (check_fresh b w h.cell0 h.shape h.frozen0).mono ?_
  rintro e w' ⟨rfl,rfl⟩
  exact ⟨rfl,h.used _,(Below.refl B w).setCell (p:=⟨b,0,none⟩) h.1 _⟩
 ·refine (check_used b w h.cell0).mono ?_
  rintro e w' ⟨rfl,rfl⟩
  exact ⟨rfl,h,Below.refl B _⟩
set_option maxHeartbeats 1000000 in
set_option maxRecDepth 100000 in
theorem writeByte (B b:Nat) (bs:List Value) (c:Int) (w:World) (h:Lib.IsBuilder 68 5 B b bs w) (hlen:bs.length + 1<=140737488355328) (hBw:B<=w.heap.size) :
  Calls Tryz.prog 142 #[.pointer (some ⟨b,0,none⟩),.int .u8 c] w fun e w' => e=.returned .nilIface/\Lib.IsBuilder 68 5 B b (bs ++ [.int .u8 c]) w'/\Below B w w':=by
 obtain ⟨i0,hi,hz0,hz1,hz2⟩:=info_parts infoByte
 go_enter Tryz.func142,Tryz.ntmps142
 go_wp2_with (go_at_call 40; refine (copyCheck B b bs _ h).mono ?_)
 rintro e w1 ⟨rfl,h1,hb1⟩
 obtain ⟨hB,v,hbk,hown,hne⟩:=h1
 have c0:w1.cell? ⟨b,0,none⟩=some (.pointer (some ⟨b,0,none⟩)):=by rw [Lib.cell_of_heap hbk]; rfl
 have c1:w1.cell? ⟨b,1,none⟩=some v:=by rw [Lib.cell_of_heap hbk]; rfl
 go_wp2_with (at_builtin; refine wpList_append_own _ rfl _ _ 60 rfl B 5 i0 (.int .u8 0) 1 1 Tryz.underlying60 hi hz0 hz1 hz2 rfl (by decide) _ _ _ rfl (hown.alloc _) ⟨w1.heap.size,0,none⟩ 1 1 [.int .u8 c] rfl rfl ?c1 ?c2 ?c3 ?c4 ?c5 ?_)
 case c1 =>
  intro j u hj
  match j,hj with
  | 0,hj => simp at hj; subst hj; simp [Addr.add]
 case c2 => intro u hu; simp at hu; subst hu; rfl
 case c3 => unfold maxLen; omega
 case c4 => omega
 case c5 => have:=hb1.size; simp; omega
 intro v' w2 hown' hgrow _
 have hlt:b < w1.heap.size:=by
  rcases Nat.lt_or_ge b w1.heap.size with h' | h'
  ·exact h'
  ·simp [Array.getElem?_eq_none h'] at hbk
 have hb2:w2.heap[b]?=some (.cells #[.pointer (some ⟨b,0,none⟩),v] 68 (0,0)):=by
  rw [hgrow.block b (by simp; omega) (fun e => hne e.symm),Lib.alloc_old w1 _ b hlt]
  exact hbk
 have d0:w2.cell? ⟨b,0,none⟩=some (.pointer (some ⟨b,0,none⟩)):=by rw [Lib.cell_of_heap hb2]; rfl
 have d1:w2.cell? ⟨b,1,none⟩=some v:=by rw [Lib.cell_of_heap hb2]; rfl
 have f1:w2.frozen? ⟨b,1,none⟩=false:=Lib.frozen_of_heap hb2 1
 obtain ⟨g,cap,rfl⟩:∃ g cap,v'=.slice (some ⟨g,0,none⟩) (bs.length + 1) cap:=by
  rcases hown'.2 with ⟨_,h0⟩ | ⟨g,cap,cur,hv,_⟩
  ·omega
  ·exact ⟨g,cap,hv⟩
 go_wp2
 go_ret
 refine ⟨rfl,.inr ?_,?_⟩
 ·exact Lib.BuilderAt.put (T:=68) (e:=5) hB hb2 (bs':=bs ++ [.int .u8 c]) (by simpa using hown') (by decide)
 ·exact ((hb1.alloc (by have:=hb1.size; omega) _).grown hgrow (by have:=hb1.size; simp; omega) (fun k hk => (hown.lt k hk).1)).setCell (p:=⟨b,1,none⟩) hB _
theorem string (B b:Nat) (l:List UInt8) (w:World) (h:Lib.IsBuilder 68 5 B b (Lib.byteCells l) w) (hBw:B<=w.heap.size) :
  Calls Tryz.prog 24 #[.pointer (some ⟨b,0,none⟩)] w fun e w' => e=.returned (.string ⟨l.toArray⟩)/\Below B w w' :=
 Tryz.Builder_String_any B b l w h hBw
end Go.Proofs.YtjhhmdmmllblhaaGreatDoor.Bld
namespace Go.Proofs.YtjhhmdmmllblhaaGreatDoor.Show
open Go.RowKit
open NumM ValM ShowM Kit
set_option linter.unusedVariables false
structure QInv (w:World) (s:ByteArray) (k:Nat) (wr:World):Prop where
 le:k<=s.size
 isB:Lib.IsBuilder 68 5 w.heap.size w.heap.size (Lib.byteCells (34 :: escL (s.data.toList.take k))) wr
 below:Below w.heap.size w wr
theorem quoted_any (s:ByteArray) (w:World) (hs:s.size<=1000) :
  Calls Tryz.prog 119 #[.string s] w fun e w' => e=.returned (.string ⟨(quoteL s.data.toList).toArray⟩)/\Below w.heap.size w w':=by
 have H0:=Lib.hid (Lib.fresh_isBuilder 68 5 w)
 go_enter Tryz.func119,Tryz.ntmps119
 go_wp2_with fail
 refine (Bld.writeByte w.heap.size w.heap.size [] 34 _ H0.out (by simp) (by simp)).mono ?_; rintro e w1 ⟨rfl,hB,hb⟩
 have h1:QInv w s 0 w1:=⟨Nat.zero_le _,by simpa [Lib.byteCells,escL] using hB,(b_new w _).trans hb⟩
 have H1:=Lib.hid h1
 clear hB hb h1
 go_wp2_with fail
 go_loopw [4] (fun i wr => ∃ k:Nat,i=.int .i64 k/\QInv w s k wr) (fun i _ => s.size - (intOf i).toNat)
 case atStart => exact ⟨0,rfl,H1.out⟩
 case round =>
  obtain ⟨k,rfl,hI⟩:=hrel
  have hle:=hI.le
  have hsz:=hI.below.size
  have hlen:=len_take s k hs
  have HI:=Lib.hid hI
  clear hI
  by_cases hlt:k < s.size
  ·have HS:=Lib.hid (escL_step s k hlt)
   by_cases h34:s[k]=34
   ·have t1:((s[k].toNat:Int) == 34)=true:=by rw [h34]; rfl
    have HC:=Lib.hid h34
    clear h34
    go_wp2_with fail
    refine (Bld.writeByte w.heap.size w.heap.size _ 92 _ HI.out.isB (by omega) hsz).mono ?_; rintro e w2 ⟨rfl,hB2,hb2⟩
    go_wp2_with fail
    refine (Bld.writeByte w.heap.size w.heap.size _ _ _ hB2 (by rw [List.length_append]; simp; omega) (Nat.le_trans hsz hb2.size)).mono ?_; rintro e w3 ⟨rfl,hB3,hb3⟩
    have hN:QInv w s (k + 1) w3:=⟨hlt,by
     have e:Lib.byteCells (34 :: escL (s.data.toList.take k)) ++ [Value.int .u8 92] ++ [Value.int .u8 (s[k].toNat:Int)]=Lib.byteCells (34 :: escL (s.data.toList.take (k + 1))):=by
      rw [HS.out,if_pos (.inl HC.out)]; simp [Lib.byteCells]
     rw [← e]; exact hB3,HI.out.below.trans (hb2.trans hb3)⟩
    have HN:=Lib.hid hN
    clear hN hB2 hB3 hb2 hb3
    go_wp2
    go_roundw
    case rel => exact ⟨k + 1,by go_num,HN.out⟩
    case measure => simp [intOf]; omega
   ·by_cases h92:s[k]=92
    ·have t1:((s[k].toNat:Int) == 34)=false:=by rw [h92]; rfl
     have t2:((s[k].toNat:Int) == 92)=true:=by rw [h92]; rfl
     have HC:=Lib.hid h92
     clear h92 h34
     go_wp2_with fail
     refine (Bld.writeByte w.heap.size w.heap.size _ 92 _ HI.out.isB (by omega) hsz).mono ?_; rintro e w2 ⟨rfl,hB2,hb2⟩
     go_wp2_with fail
     refine (Bld.writeByte w.heap.size w.heap.size _ _ _ hB2 (by rw [List.length_append]; simp; omega) (Nat.le_trans hsz hb2.size)).mono ?_; rintro e w3 ⟨rfl,hB3,hb3⟩
     have hN:QInv w s (k + 1) w3:=⟨hlt,by
      have e:Lib.byteCells (34 :: escL (s.data.toList.take k)) ++ [Value.int .u8 92] ++ [Value.int .u8 (s[k].toNat:Int)]=Lib.byteCells (34 :: escL (s.data.toList.take (k + 1))):=by
       rw [HS.out,if_pos (.inr HC.out)]; simp [Lib.byteCells]
      rw [← e]; exact hB3,HI.out.below.trans (hb2.trans hb3)⟩
     have HN:=Lib.hid hN
     clear hN hB2 hB3 hb2 hb3
     go_wp2
     go_roundw
     case rel => exact ⟨k + 1,by go_num,HN.out⟩
     case measure => simp [intOf]; omega
    ·have t1:((s[k].toNat:Int) == 34)=false:=by
      rw [beq_eq_false_iff_ne]; intro g; exact h34 ((byte_eq s[k] 34 (by decide)).2 (by omega))
     have t2:((s[k].toNat:Int) == 92)=false:=by
      rw [beq_eq_false_iff_ne]; intro g; exact h92 ((byte_eq s[k] 92 (by decide)).2 (by omega))
     have HC:=Lib.hid (And.intro h34 h92)
     clear h92 h34
     go_wp2_with fail
     refine (Bld.writeByte w.heap.size w.heap.size _ _ _ HI.out.isB (by omega) hsz).mono ?_; rintro e w3 ⟨rfl,hB3,hb3⟩
     have hN:QInv w s (k + 1) w3:=⟨hlt,by
      have e:Lib.byteCells (34 :: escL (s.data.toList.take k)) ++ [Value.int .u8 (s[k].toNat:Int)]=Lib.byteCells (34 :: escL (s.data.toList.take (k + 1))):=by
       rw [HS.out,if_neg (by intro g; rcases g with g | g; exact HC.out.1 g; exact HC.out.2 g)]; simp [Lib.byteCells]
      rw [← e]; exact hB3,HI.out.below.trans hb3⟩
     have HN:=Lib.hid hN
     clear hN hB3 hb3
     go_wp2
     go_roundw
     case rel => exact ⟨k + 1,by go_num,HN.out⟩
     case measure => simp [intOf]; omega
  ·have e:=escL_all s k (by omega)
   go_wp2_with fail
   refine (Bld.writeByte w.heap.size w.heap.size _ 34 _ HI.out.isB (by omega) hsz).mono ?_; rintro e1 w2 ⟨rfl,hB2,hb2⟩
   have hB3:Lib.IsBuilder 68 5 w.heap.size w.heap.size (Lib.byteCells (quoteL s.data.toList)) w2:=by
    have e2:Lib.byteCells (34 :: escL (s.data.toList.take k)) ++ [Value.int .u8 34]=Lib.byteCells (quoteL s.data.toList):=by
     rw [e]; simp [Lib.byteCells,quoteL]
    rw [← e2]; exact hB2
   have H3:=Lib.hid hB3
   clear hB2 hB3 e
   go_wp2_with fail
   refine (Bld.string w.heap.size w.heap.size _ _ H3.out (Nat.le_trans hsz hb2.size)).mono ?_; rintro e1 w3 ⟨rfl,hb3⟩
   go_wp2_with fail
   go_ret
   exact ⟨rfl,HI.out.below.trans (hb2.trans hb3)⟩
def Pow (w : World) : Prop := Lib.TabIs Tryz.prog w "internal/strconv.uint64pow10" .u64 Lib.pow10Tab
theorem Pow.below {w w':World} (h:Pow w) (hb:Below w.heap.size w w'):Pow w':=Lib.tabBelow_of_tabIs h w' hb
theorem itoa_any (n:Int) (h0:-9223372036854775808<=n) (h1:n<=9223372036854775807) (w:World) (hp:Pow w) :
  Calls Tryz.prog 120 #[.int .i64 n] w fun e w' => e=.returned (.string ⟨(Lib.itoa n).toArray⟩)/\Below w.heap.size w w':=by
 refine (Tryz.strconv_Itoa n h0 h1 w hp).mono ?_
 rintro e w' ⟨rfl,k,os,rfl⟩
 exact ⟨rfl,Lib.below_grow _ _ (Nat.le_refl _) _ _⟩
theorem itoa_str (n:Int) (h0:-9223372036854775808<=n) (h1:n<=9223372036854775807):∃ t:ByteArray,t.size<=30/\Hid (t=⟨(Lib.itoa n).toArray⟩)/\∀ w:World,Pow w->Calls Tryz.prog 120 #[.int .i64 n] w fun e w' => e=.returned (.string t)/\Below w.heap.size w w':=by
 refine ⟨⟨(Lib.itoa n).toArray⟩,?_,rfl,fun w hp => itoa_any n h0 h1 w hp⟩
 have:=Lib.itoa_length_le n h0 h1
 show (Lib.itoa n).length<=30
 omega
theorem fbool_any (b:Bool) (w:World) :
  Calls Tryz.prog 118 #[.bool b] w fun e w' => e=.returned (.string ⟨(Lib.formatBool b).toArray⟩)/\w=w' :=
 (Tryz.strconv_FormatBool b w).mono fun _ _ h => ⟨h.1,h.2.symm⟩
theorem ret_str {a b:ByteArray} {e:Int} (h:a.data.toList=b.data.toList):Ending.returned (.tuple #[.string a,.int .i64 e])=.returned (.tuple #[.string b,.int .i64 e]):=by
 rw [show a=b from WideShapes.bytes_inj h]
theorem val_ok {k n:Int} {l:List UInt8} (h:valE k n l=0):numE k n=0/\strE k l=0:=by
 unfold valE at h
 by_cases g:numE k n=0
 ·rw [if_pos g] at h; exact ⟨g,h⟩
 ·rw [if_neg g] at h; exact absurd h g
theorem num_ok {k n:Int} (h:numE k n=0):(k=1/\-1099511627776<=n/\n<=1099511627776) ∨ (k=2/\(n=0 ∨ n=1)) ∨ (k=3/\n=0) ∨ (k=4/\n=0) ∨ (k=5/\1<=n/\n<=15):=by
 unfold numE at h
 by_cases h1:k=1
 ·rw [if_pos h1] at h
  by_cases g:okN n=true
  ·exact .inl ⟨h1,(okN_iff.1 g).1,(okN_iff.1 g).2⟩
  ·rw [if_neg g] at h; omega
 ·rw [if_neg h1] at h
  by_cases h2:k=2
  ·rw [if_pos h2] at h
   by_cases g:0<=n/\n<=1
   ·omega
   ·rw [if_neg g] at h; omega
  ·rw [if_neg h2] at h
   by_cases h3:k=3 ∨ k=4
   ·rw [if_pos h3] at h
    by_cases g:n=0
    ·omega
    ·rw [if_neg g] at h; omega
   ·rw [if_neg h3] at h
    by_cases h5:k=5
    ·rw [if_pos h5] at h
     by_cases g:1<=n/\n<=15
     ·omega
     ·rw [if_neg g] at h; omega
    ·rw [if_neg h5] at h; omega
theorem str_ok {l:List UInt8} (h:strE 3 l=0):l.length<=40/\cleanL l=true:=by
 unfold strE at h
 rw [if_pos rfl] at h
 by_cases g:40 < l.length
 ·rw [if_pos g] at h; omega
 ·rw [if_neg g] at h
  by_cases c:cleanL l=true
  ·exact ⟨by omega,c⟩
  ·rw [if_neg c] at h; omega
theorem show_bad (k n:Int) (s:ByteArray) (w:World) (h:valE k n s.data.toList ≠ 0) :
  Calls Tryz.prog 88 #[.agg #[.int .i64 k,.int .i64 n,.string s]] w fun e w' => e=.returned (.tuple #[.string ⟨#[]⟩,.int .i64 (valE k n s.data.toList)])/\Below w.heap.size w w':=by
 obtain ⟨q,hq⟩:∃ q:Int,valE k n s.data.toList=q:=⟨_,rfl⟩
 have hc:=fun W => Val.check_any k n s W
 rw [hq] at hc h ⊢
 have HC:=Lib.hid hc
 have hq0:(q != 0)=true:=bne_iff_ne.2 h
 clear hc hq h
 go_enter Tryz.func88,Tryz.ntmps88
 go_wp2_with fail
 refine (HC.out _).mono ?_; rintro e w1 ⟨rfl,hb1⟩
 go_wp2_with fail
 go_ret2
 exact ⟨rfl,b_then hb1⟩
theorem show_good (k n:Int) (s:ByteArray) (w:World) (h:valE k n s.data.toList=0) (hp:Pow w) :
  Calls Tryz.prog 88 #[.agg #[.int .i64 k,.int .i64 n,.string s]] w fun e w' => e=.returned (.tuple #[.string ⟨(showL k n s.data.toList).toArray⟩,.int .i64 0])/\Below w.heap.size w w':=by
 have hc:=fun W => Val.check_any k n s W
 rw [h] at hc
 have HC:=Lib.hid hc
 have HP:=Lib.hid hp
 obtain ⟨h1,h2⟩:=val_ok h
 clear hc h hp
 rcases num_ok h1 with ⟨rfl,g1,g2⟩ | ⟨rfl,g⟩ | ⟨rfl,rfl⟩ | ⟨rfl,rfl⟩ | ⟨rfl,g1,g2⟩
 ·clear h1 h2
  go_enter Tryz.func88,Tryz.ntmps88
  go_wp2_with fail
  refine (HC.out _).mono ?_; rintro e w1 ⟨rfl,hb1⟩
  obtain ⟨m0,m1,m2,y⟩:=box3 w.heap.size 1 n s hb1 (by simp) (by simp [go_sem]) (by simp [go_sem]) (by simp [go_sem])
  go_wp2_with fail
  refine (itoa_any n (by omega) (by omega) _ (HP.out.below (b_then hb1))).mono ?_; rintro e w2 ⟨rfl,hb2⟩
  go_wp2_with fail
  go_ret2
  exact ⟨rfl,b_trans (b_then hb1) hb2⟩
 ·clear h1 h2
  rcases g with rfl | rfl
  all_goals
   go_enter Tryz.func88,Tryz.ntmps88
   go_wp2_with fail
   refine (HC.out _).mono ?_; rintro e w1 ⟨rfl,hb1⟩
   obtain ⟨m0,m1,m2,y⟩:=box3 w.heap.size 2 _ s hb1 (by simp) (by simp [go_sem]) (by simp [go_sem]; rfl) (by simp [go_sem])
   go_wp2_with fail
   refine (fbool_any _ _).mono ?_; rintro e w2 ⟨rfl,rfl⟩
   go_wp2_with fail
   go_ret2
   exact ⟨rfl,b_then hb1⟩
 ·have hl:=(str_ok h2).1
  have hl':s.size<=1000:=by rw [len_size] at hl; omega
  clear h1 h2 hl
  go_enter Tryz.func88,Tryz.ntmps88
  go_wp2_with fail
  refine (HC.out _).mono ?_; rintro e w1 ⟨rfl,hb1⟩
  obtain ⟨m0,m1,m2,y⟩:=box3 w.heap.size 3 0 s hb1 (by simp) (by simp [go_sem]) (by simp [go_sem]) (by simp [go_sem])
  go_wp2_with fail
  refine (quoted_any s _ hl').mono ?_; rintro e w2 ⟨rfl,hb2⟩
  go_wp2_with fail
  go_ret2
  exact ⟨rfl,b_trans (b_then hb1) hb2⟩
 ·clear h1 h2
  go_enter Tryz.func88,Tryz.ntmps88
  go_wp2_with fail
  refine (HC.out _).mono ?_; rintro e w1 ⟨rfl,hb1⟩
  obtain ⟨m0,m1,m2,y⟩:=box3 w.heap.size 4 0 s hb1 (by simp) (by simp [go_sem]) (by simp [go_sem]) (by simp [go_sem])
  go_wp2_with fail
  go_ret2
  exact ⟨rfl,b_then hb1⟩
 ·clear h1 h2
  obtain ⟨t,ht,HT,hi⟩:=itoa_str n (by omega) (by omega)
  have HI:=Lib.hid hi
  clear hi
  go_enter Tryz.func88,Tryz.ntmps88
  go_wp2_with fail
  refine (HC.out _).mono ?_; rintro e w1 ⟨rfl,hb1⟩
  obtain ⟨m0,m1,m2,y⟩:=box3 w.heap.size 5 n s hb1 (by simp) (by simp [go_sem]) (by simp [go_sem]) (by simp [go_sem])
  go_wp2_with fail
  refine (HI.out _ (HP.out.below (b_then hb1))).mono ?_; rintro e w2 ⟨rfl,hb2⟩
  go_wp2_with fail
  go_ret2
  exact ⟨ret_str (by rw [HT.out]; simp [showL]),b_trans (b_then hb1) hb2⟩
end Go.Proofs.YtjhhmdmmllblhaaGreatDoor.Show
namespace Go.Proofs.YtjhhmdmmllblhaaGreatDoor.Prn
open Go.RowKit
open ValM LexM ExM ShowM PrM Kit ExL ExN ExV GenL
set_option linter.unusedVariables false
structure Vars (w:World):Prop where
 tab:Tab w
 pow:Show.Pow w
theorem Vars.below {w w':World} (h:Vars w) (hb:Below w.heap.size w w'):Vars w':=⟨h.tab.below hb,h.pow.below hb⟩
def PrAt (x:Ex):Prop:=∀ (d:Nd) (A:Option Addr) (n c:Nat) (w:World),Is w x d A n->Vars w →
 Calls Tryz.prog 54 #[.agg #[.int .i64 d.op,.int .i64 d.k,.int .i64 d.n,.string d.s,.string d.nm,.slice A n c]] w fun e w' => e=.returned (.string ⟨(Ex.txt x).toArray⟩)/\Below w.heap.size w w'
theorem is_d {w:World} {x:Ex} {d:Nd} {A:Option Addr} {n:Nat} (h:Is w x d A n):x.d=d:=by
 cases x; rw [is_mk] at h; exact h.1.symm
theorem rw_rwF (j:Nat):rw_ j=rwF (j:Int):=rfl
theorem str_inj {a b:ByteArray} (h:a.data.toList=b.data.toList):Ending.returned (.string a)=.returned (.string b):=by rw [show a=b from WideShapes.bytes_inj h]
set_option maxHeartbeats 1000000 in
theorem operand_any (x:Ex) (hx:PrAt x) (ho:1<=x.d.op/\x.d.op<=18) (hsz:(Ex.txt x).length<=100000) (p:Int) (d:Nd) (A:Option Addr) (n c:Nat) (w:World) (his:Is w x d A n) (hv:Vars w) :
  Calls Tryz.prog 90 #[.agg #[.int .i64 d.op,.int .i64 d.k,.int .i64 d.n,.string d.s,.string d.nm,.slice A n c],.int .i64 p] w fun e w' => e=.returned (.string ⟨(br p (x.d.op,Ex.txt x)).toArray⟩)/\Below w.heap.size w w':=by
 have hd:=is_d his
 rw [hd] at ho ⊢
 obtain ⟨j,hj⟩:∃ j:Nat,d.op=j:=⟨d.op.toNat,by omega⟩
 have hj1:j < 19:=by omega
 have hcell:=(hv.tab.cells j hj1).2.1
 obtain ⟨q,hq⟩:∃ q,precF d.op=q:=⟨_,rfl⟩
 have hq2:(rw_ j).2.1=q:=by rw [rw_rwF,← hj]; exact hq
 rw [hq2] at hcell
 have hb0:=b_new w (.cells #[.int .i64 d.op,.int .i64 d.k,.int .i64 d.n,.string d.s,.string d.nm,.slice A n c] 45)
 have hc0:(w.alloc (.cells #[.int .i64 d.op,.int .i64 d.k,.int .i64 d.n,.string d.s,.string d.nm,.slice A n c] 45)).cell? ⟨3,j * 3 + 1,none⟩=some (.int .i64 q):=by
  rw [World.cell?_alloc_lt _ _ _ (cell_lt' hcell)]; exact hcell
 have hc:=hx d A n c _ (his.below hb0) (hv.below hb0)
 obtain ⟨t,ht⟩:∃ t:ByteArray,t=⟨(Ex.txt x).toArray⟩:=⟨_,rfl⟩
 have htl:t.data.toList=Ex.txt x:=by rw [ht]
 have hts:t.size<=100000:=by show t.data.toList.length<=_; rw [htl]; exact hsz
 rw [← ht] at hc
 have HC:=Lib.hid hc
 have HT:=Lib.hid htl
 have i0:0<=d.op:=by omega
 have i1:d.op < 19:=by omega
 have i2:d.op.toNat=j:=by omega
 have HQ:=Lib.hid hq
 clear hc ht htl his hv hcell hb0 hq2 hd hx hj hq
 by_cases hlt:q < p
 ·have e:br p (d.op,Ex.txt x)=40 :: (Ex.txt x ++ [41]):=by unfold br; rw [HQ.out,if_pos hlt]
  rw [e]
  clear e
  go_enter Tryz.func90,Tryz.ntmps90
  go_wp2_with fail
  refine HC.out.mono ?_; rintro e w1 ⟨rfl,hb1⟩
  go_wp2_with fail
  go_ret
  exact ⟨str_inj (by simp [HT.out]),b_then hb1⟩
 ·have e:br p (d.op,Ex.txt x)=Ex.txt x:=by unfold br; rw [HQ.out,if_neg hlt]
  rw [e]
  clear e
  go_enter Tryz.func90,Tryz.ntmps90
  go_wp2_with fail
  refine HC.out.mono ?_; rintro e w1 ⟨rfl,hb1⟩
  go_wp2_with fail
  go_ret
  exact ⟨str_inj HT.out,b_then hb1⟩
def strB (x:Ex):ByteArray:=⟨(Ex.txt x).toArray⟩
theorem join_commas:∀ ls:List (List UInt8),Lib.join ls [44,32]=commas ls
 | [] => rfl
 | [a] => by rw [Lib.join_one]; rfl
 | a :: b :: r => by
  have:=join_commas (b :: r)
  rw [Lib.join_cons] at this ⊢
  simp only [Lib.joinTail,List.map_cons,List.flatten_cons,commas] at this ⊢
  rw [← this]; simp
theorem sum_le {l:List Ex} (h:∀ x ∈ l,(Ex.txt x).length<=100000):((l.map Ex.txt).map List.length).sum<=l.length * 100000:=by
 induction l with
 | nil => simp
 | cons x l ih =>
  have h1:=h x (by simp)
  have h2:=ih fun y hy => h y (by simp [hy])
  simp only [List.map_cons,List.sum_cons,List.length_cons] at h2 ⊢
  omega
structure SInv (w:World) (l:List Ex) (k:Nat) (v:Value) (wr:World):Prop where
 le:k<=l.length
 own:wr.ownsRow w.heap.size 9 1 v k ((l.map fun x => Value.string (strB x)).take k)
 below:Below w.heap.size w wr
theorem SInv.step {w wr w1 w3:World} {l:List Ex} {k:Nat} {v v':Value} {o1 o2:Obj} (h:SInv w l k v wr) (hk:k < l.length) (hb:Below (wr.alloc o1).heap.size (wr.alloc o1) w1)
  (ho:w3.ownsRow w.heap.size 9 1 v' (k + 1) ((l.map fun x => Value.string (strB x)).take k ++ [.string (strB l[k])])) (hg:(w1.alloc o2).grownBy w3 v.ownBlock):SInv w l (k + 1) v' w3:=by
 have hs:=h.below.size
 have hb1:Below w.heap.size w w1:=h.below.trans ((b_then hb).mono hs)
 refine ⟨hk,?_,(hb1.alloc hb1.size _).grown hg (by have:=hb1.size; simp; omega) (fun g hg => (h.own.lt g hg).1)⟩
 rw [List.take_succ_eq_append_getElem (by simpa using hk),List.getElem_map]
 exact ho
set_option maxHeartbeats 2000000 in
set_option maxRecDepth 100000 in
theorem listed_any (l:List Ex) (hx:∀ x ∈ l,PrAt x) (hsz:∀ x ∈ l,(Ex.txt x).length<=100000) (h0:0 < l.length) (h3:l.length<=3) (A:Option Addr) (c:Nat) (w:World)
  (hargs:∀ (j:Nat) (h:j < l.length),∃ a d B n c,A=some a/\At w (a.add (j * 6)) d B n c/\Is w l[j] d B n) (hv:Vars w) :
  Calls Tryz.prog 89 #[.slice A l.length c] w fun e w' => e=.returned (.string ⟨(commas (l.map Ex.txt)).toArray⟩)/\Below w.heap.size w w':=by
 obtain ⟨i0,hi,hz0,hz1,hz2⟩:=info_parts GenL.infoStr
 have hI0:SInv w l 0 (.slice none 0 0) w:=⟨Nat.zero_le _,World.ownsRow_nil _ _ _ _,Below.refl _ _⟩
 have HI0:=Lib.hid hI0
 have HA:=Lib.hid hargs
 have HV:=Lib.hid hv
 have HX:=Lib.hid hx
 have HS:=Lib.hid hsz
 clear hI0 hargs hv hx hsz
 go_enter Tryz.func89,Tryz.ntmps89
 go_wp2_with fail
 go_loopw [3,8] (fun v i wr => ∃ k:Nat,i=.int .i64 k/\SInv w l k v wr) (fun _ i _ => l.length - (intOf i).toNat)
 case atStart => exact ⟨0,rfl,HI0.out⟩
 case round =>
  obtain ⟨k,rfl,hI⟩:=hrel
  have hle:=hI.le
  have HI:=Lib.hid hI
  by_cases hlt:k < l.length
  ·obtain ⟨a,d,B,m,cp,rfl,hat,his⟩:=HA.out k hlt
   obtain ⟨q0,q1,q2,q3,q4,q5⟩:=hat.below hI.below
   have hb1:=hI.below.trans ((b_new wr (.cells #[.int .i64 d.op,.int .i64 d.k,.int .i64 d.n,.string d.s,.string d.nm,.slice B m cp] 45)).mono hI.below.size)
   have hc:=HX.out _ (List.getElem_mem hlt) d B m cp _ (his.below hb1) (HV.out.below hb1)
   obtain ⟨t,ht⟩:∃ t:ByteArray,t=strB l[k]:=⟨_,rfl⟩
   rw [show (⟨(Ex.txt l[k]).toArray⟩:ByteArray)=t from ht.symm] at hc
   have HC:=Lib.hid hc
   have HT:=Lib.hid ht
   have hs:=hI.below.size
   clear hc ht hat his hb1 hI
   go_wp2_with fail
   refine HC.out.mono ?_; rintro e w1 ⟨rfl,hb2⟩
   have hown:=(own_below (HI.out.own.alloc (.cells #[.int .i64 d.op,.int .i64 d.k,.int .i64 d.n,.string d.s,.string d.nm,.slice B m cp] 45)) hb2).alloc (.cells #[.string t] 9)
   have hz9:w.heap.size<=w1.heap.size:=by have:=hb2.size; simp at this; omega
   have HB2:=Lib.hid hb2
   clear hb2
   go_wp2_with (at_builtin; refine wpList_append_own _ rfl _ _ 31 rfl w.heap.size 9 i0 (.string ⟨#[]⟩) 1 16 Tryz.underlying31 hi hz0 hz1 hz2 rfl (by decide) _ _ _ rfl hown ⟨w1.heap.size,0,none⟩ 1 1 [.string t] rfl rfl ?c1 ?c2 ?c3 ?c4 ?c5 ?_)
   case c1 =>
    intro j y hj
    match j,hj with
    | 0,hj => simp at hj; subst hj; simp [Addr.add]
    | j + 1,hj => simp at hj
   case c2 => intro y hy; simp at hy; subst hy; rfl
   case c3 => unfold maxLen; omega
   case c4 => omega
   case c5 => simp; omega
   intro v' w3 hown3 hgrow _
   rw [HT.out] at hown3
   have hN:=HI.out.step hlt HB2.out hown3 hgrow
   have HN:=Lib.hid hN
   clear hN hown3 hgrow hown
   go_wp2
   go_roundw
   case rel => exact ⟨k + 1,by go_num,HN.out⟩
   case measure => simp [intOf]; omega
  ·have hkl:k=l.length:=by omega
   subst hkl
   have hown:=hI.own
   rw [List.take_of_length_le (by simp)] at hown
   obtain ⟨g,cap,rfl,_,hgl,hlc,hcm,hcl⟩:=own_form hown h0
   have hlen:(Lib.join ((l.map strB).map (·.data.toList)) (⟨#[44,32]⟩:ByteArray).data.toList).length<=140737488355328:=by
    rw [show (l.map strB).map (·.data.toList)=l.map Ex.txt by rw [List.map_map]; rfl,show (⟨#[44,32]⟩:ByteArray).data.toList=[44,32] from rfl,join_commas]
    have h1:=commas_len (l.map Ex.txt)
    have h2:=sum_le HS.out
    rw [List.length_map] at h1
    omega
   have hcells:∀ (j:Nat) x,(l.map strB)[j]?=some x->wr.cell? ⟨g,0 + j,none⟩=some (.string x):=fun j x hjx => by
    have hjl:j < l.length:=by
     have:=(List.getElem?_eq_some_iff.1 hjx).1
     simpa using this
    rw [Nat.zero_add,hcl j (by omega)]
    rw [List.getElem?_map,List.getElem?_eq_getElem hjl] at hjx ⊢
    simp at hjx ⊢; exact hjx
   have hj:=Tryz.strings_Join g 0 cap (l.map strB) ⟨#[44,32]⟩ wr hcells hgl (by simp; omega) (by simpa using hlc) hlen
   rw [List.length_map,show (l.map strB).map (·.data.toList)=l.map Ex.txt by rw [List.map_map]; rfl,show (⟨#[44,32]⟩:ByteArray).data.toList=[44,32] from rfl,join_commas] at hj
   have HJ:=Lib.hid hj
   clear hj hown hcl hI hcells hlen
   go_wp2_with fail
   refine HJ.out.mono ?_; rintro e w1 ⟨rfl,hb2⟩
   go_wp2_with fail
   go_ret
   exact ⟨rfl,HI.out.below.trans (hb2.mono HI.out.below.size)⟩
theorem left_any (sg:ByteArray) (q ar:Int) (w:World) (h0:0<=q) (h6:q<=6) :
  Calls Tryz.prog 91 #[.agg #[.string sg,.int .i64 q,.int .i64 ar]] w fun e w' => e=.returned (.int .i64 (if q=2 then q + 1 else q))/\Below w.heap.size w w':=by
 by_cases h:q=2
 ·subst h
  go_enter Tryz.func91,Tryz.ntmps91
  go_wp2
  go_ret
  exact ⟨rfl,b_new _ _⟩
 ·rw [if_neg h]
  have t1:(q == 2)=false:=beq_eq_false_iff_ne.2 h
  clear h
  go_enter Tryz.func91,Tryz.ntmps91
  go_wp2
  go_ret
  exact ⟨rfl,b_new _ _⟩
theorem prec_bd (op:Int):0<=precF op/\precF op<=6:=by
 unfold precF rwF
 rcases Nat.lt_or_ge op.toNat 19 with h | h
 ·obtain h | h | h | h | h | h | h | h | h | h | h | h | h | h | h | h | h | h | h:op.toNat=0 ∨ op.toNat=1 ∨ op.toNat=2 ∨ op.toNat=3 ∨ op.toNat=4 ∨ op.toNat=5 ∨ op.toNat=6 ∨ op.toNat=7 ∨ op.toNat=8 ∨ op.toNat=9 ∨ op.toNat=10 ∨ op.toNat=11 ∨ op.toNat=12 ∨ op.toNat=13 ∨ op.toNat=14 ∨ op.toNat=15 ∨ op.toNat=16 ∨ op.toNat=17 ∨ op.toNat=18:=by omega
  all_goals rw [h]; decide
 ·rw [List.getD_eq_getElem?_getD,List.getElem?_eq_none (by show NotTab.rows.length<=_; exact h)]; decide
theorem nodeE_parts {d:Nd} {m:Nat} (h:nodeE d m=0):1<=d.op/\d.op<=18/\m=arity d.op/\vOk d=true/\nmOk d=true:=by
 unfold nodeE at h
 by_cases hr:d.op < 1 ∨ 18 < d.op
 ·rw [if_pos hr] at h; exact absurd h (by decide)
 ·rw [if_neg hr] at h
  by_cases hg:m=arity d.op/\vOk d=true/\nmOk d=true
  ·exact ⟨by omega,by omega,hg⟩
  ·rw [if_neg hg] at h; exact absurd h (by decide)
theorem okN_op {x:Ex} (h:x.okN):1<=x.d.op/\x.d.op<=18:=by
 obtain ⟨d,l⟩:=x
 have:=nodeE_parts ((okN_mk d l).1 h).1
 exact ⟨this.1,this.2.1⟩
end Go.Proofs.YtjhhmdmmllblhaaGreatDoor.Prn
