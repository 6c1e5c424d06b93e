/- FormTop RawOpen NmGen TyGen FrmOf PgForm RkForm FctForm TxOk TxGen RkOrdF: what these laws name of them. -/
import Derived.Deep.Slices
import Derived.OpenShut
import Derived.ChangeSame
import Derived.DataReads
import Derived.Test.YtonlkmkfcaadlaaGreatDoorKw20
set_option linter.unusedVariables false
namespace Go.Proofs.YtonlkmkfcaadlaaGreatDoor.FrmT
open Go.RowKit
open ValM LexM NumM ExM Kit ExL ExP RawV Within RawL RawN GenL Gen GenE GenT GenV FrmM Frm FldP
set_option linter.unusedVariables false
theorem nmK_inj:∀ i,i < 10->∀ j,j < 10->nmK i=nmK j->i=j:=by decide
theorem nmK_none:∀ i,i < 10->nmK i ≠ ⟨#[110,111,110,101]⟩:=by decide
theorem baseV_len (rs:List Rw):(baseV rs).length=countV rs:=fieldsV_len rs _
theorem formF_len (rs:List Rw):(formF rs).length=countV rs:=by
 unfold formF
 split
 ·rw [List.length_reverse,baseV_len]
 ·exact baseV_len rs
def plc (rs:List Rw) (i:Nat):Nat:=if turnB rs=true then countV rs - 1 - i else i
theorem plc_lt (rs:List Rw) (i:Nat) (h:i < countV rs):plc rs i < countV rs:=by unfold plc; split <;> omega
theorem plc_inj (rs:List Rw) (i j:Nat) (hi:i < countV rs) (hj:j < countV rs) (h:plc rs i=plc rs j):i=j:=by unfold plc at h; split at h <;> omega
theorem formF_at (rs:List Rw) (i:Nat) (h:i < (formF rs).length):(formF rs)[i]=(baseV rs)[plc rs i]'(by rw [baseV_len]; exact plc_lt rs i (by rw [← formF_len]; exact h)):=by
 have hl:=formF_len rs
 unfold formF plc
 by_cases ht:turnB rs=true
 ·simp only [if_pos ht,List.getElem_reverse]
  congr 1
  rw [baseV_len]
 ·simp only [if_neg ht]
theorem formF_nm (rs:List Rw) (i:Nat) (h:i < (formF rs).length):(formF rs)[i].nm=nmK (plc rs i):=by
 rw [formF_at rs i h]
 exact fieldsV_nm rs _ _ _
theorem frow_flds {P:Nat->Prop} {w:World} {A:Option Addr} {es:List FE} (h:FRow P w A es):Flds w A (es.map FE.fd):=fun i hi => by
 have hi':i < es.length:=by simpa using hi
 obtain ⟨g,e,_,hc,_⟩:=h i hi'
 refine ⟨_,e,?_⟩
 rw [add_block,List.getElem_map]
 exact fdAt_of hc
theorem fe_at {rs:List Rw} {es:List FE} (h:es.map FE.v=formF rs) (i:Nat) (hi:i < es.length) (hj:i < (formF rs).length):es[i].v=(formF rs)[i]:=by
 have:(es.map FE.v)[i]'(by simpa using hi)=(formF rs)[i]:=by simp only [h]
 rw [← this,List.getElem_map]
theorem form_places {rs:List Rw} {es:List FE} (h:es.map FE.v=formF rs):(es.length=countV rs)/\(∀ (i:Nat) (hi:i < es.length),atF (es.map FE.fd) (es[i].nm)=i/\es[i].nm.size<=4)/\atF (es.map FE.fd) ⟨#[110,111,110,101]⟩=es.length:=by
 have hl:es.length=(formF rs).length:=by rw [← h,List.length_map]
 have hc:es.length=countV rs:=by rw [hl,formF_len]
 have hb:=countV_bd rs
 have hn:∀ (i:Nat) (hi:i < es.length),es[i].nm=nmK (plc rs i):=fun i hi => by
  have:=fe_at h i hi (by omega)
  rw [← formF_nm rs i (by omega),← this]; rfl
 have hf:∀ (j:Nat) (hj:j < (es.map FE.fd).length),(es.map FE.fd)[j].nm=nmK (plc rs j):=fun j hj => by
  rw [List.getElem_map]; exact hn j (by simpa using hj)
 refine ⟨hc,fun i hi => ⟨?_,by rw [hn i hi]; exact nmK_size _⟩,?_⟩
 ·refine atF_eq _ _ i (by simpa using hi) (fun j hj hji e => ?_) ?_
  ·have hj':j < es.length:=by simpa using hj
   rw [hf j hj,hn i hi] at e
   have h1:=plc_lt rs j (by omega)
   have h2:=plc_lt rs i (by omega)
   have:=plc_inj rs j i (by omega) (by omega) (nmK_inj _ (by omega) _ (by omega) e)
   omega
  ·rw [hf i (by simpa using hi),hn i hi]
 ·have:=atF_none (fs:=es.map FE.fd) (s:=⟨#[110,111,110,101]⟩) fun j hj e => by
   have hj':j < es.length:=by simpa using hj
   rw [hf j hj] at e
   exact nmK_none _ (by have:=plc_lt rs j (by omega); omega) e
  rw [this,List.length_map]
def smallV:List FV:=[⟨⟨#[98]⟩,2,1,.mk ⟨8,0,0,⟨#[]⟩,⟨#[]⟩⟩ [.mk ⟨2,0,0,⟨#[]⟩,⟨#[97]⟩⟩ [],.mk ⟨1,1,1,⟨#[]⟩,⟨#[]⟩⟩ []]⟩,⟨⟨#[97]⟩,1,1,zeroX⟩,⟨⟨#[99]⟩,3,3,.mk ⟨2,0,0,⟨#[]⟩,⟨#[98]⟩⟩ []⟩]
def smallP:List PV:=[⟨⟨#[112,49]⟩,[⟨#[97]⟩],zeroX⟩,⟨⟨#[112,50]⟩,[⟨#[99]⟩],zeroX⟩]
def SmallOut (w:World) (e:Ending) (w':World):Prop :=
 ∃ (es:List FE) (FA:Option Addr) (fc:Nat) (ps:List PE) (PA:Option Addr) (pc:Nat),e=.returned (.agg #[.slice FA es.length fc,.slice PA ps.length pc])/\es.map FE.v=smallV/\ps.map PE.v=smallP ∧
  FRow (fun b => w.heap.size<=b) w' FA es/\PRow (fun b => w.heap.size<=b) w' PA ps/\Below w.heap.size w w'/\(es.length<=fc/\fc<=maxLen)/\(ps.length<=pc/\pc<=maxLen)
theorem small_len {es:List FE} (h:es.map FE.v=smallV):es.length=3:=by
 have:=congrArg List.length h
 simpa [smallV] using this
theorem small_c {es:List FE} (h:es.map FE.v=smallV):atF (es.map FE.fd) ⟨#[99]⟩=2:=by
 have hl:=small_len h
 match es,h,hl with
 | [a,b,c],h,_ =>
  simp only [List.map_cons,List.map_nil,smallV,List.cons.injEq,and_true] at h
  obtain ⟨h1,h2,h3⟩:=h
  have e1:a.fd.nm=⟨#[98]⟩:=congrArg FV.nm h1
  have e2:b.fd.nm=⟨#[97]⟩:=congrArg FV.nm h2
  have e3:c.fd.nm=⟨#[99]⟩:=congrArg FV.nm h3
  simp only [List.map_cons,List.map_nil,atF,e1,e2,e3]
  decide
theorem seven (w:World) (c0 c1 c2 c3 c4 c5 c6:Array Value) (t0 t1 t2 t3 t4 t5 t6:TypeId) (W:World) (h:W=((((((w.alloc (.cells c0 t0)).alloc (.cells c1 t1)).alloc (.cells c2 t2)).alloc (.cells c3 t3)).alloc (.cells c4 t4)).alloc (.cells c5 t5)).alloc (.cells c6 t6)) :
  W.heap[w.heap.size]?=some (.cells c0 t0 (0,0))/\W.heap[w.heap.size + 1]?=some (.cells c1 t1 (0,0))/\W.heap[w.heap.size + 1 + 1 + 1]?=some (.cells c3 t3 (0,0))/\W.heap[w.heap.size + 1 + 1 + 1 + 1]?=some (.cells c4 t4 (0,0))/\W.heap[w.heap.size + 1 + 1 + 1 + 1 + 1]?=some (.cells c5 t5 (0,0))/\W.heap[w.heap.size + 1 + 1 + 1 + 1 + 1 + 1]?=some (.cells c6 t6 (0,0))/\Below w.heap.size w W:=by
 subst h
 have al:∀ (V:World) (o:Obj) (b:Nat) (_:b < V.heap.size),(V.alloc o).heap[b]?=V.heap[b]?:=fun V o b hb => (b_new V o).block b hb
 have nw:∀ (V:World) (c:Array Value) (t:TypeId) (b:Nat),V.heap.size=b->(V.alloc (.cells c t)).heap[b]?=some (.cells c t (0,0)):=fun V c t b hb => by rw [← hb]; exact World.alloc_heap_new V _
 refine ⟨?_,?_,?_,?_,?_,?_,b_more (b_more (b_more (b_more (b_more (b_more (b_new _ _) _) _) _) _) _) _⟩
 ·rw [al _ _ _ (by simp only [World.size_alloc]; omega),al _ _ _ (by simp only [World.size_alloc]; omega),al _ _ _ (by simp only [World.size_alloc]; omega),al _ _ _ (by simp only [World.size_alloc]; omega),al _ _ _ (by simp only [World.size_alloc]; omega),al _ _ _ (by simp only [World.size_alloc]; omega)]; exact nw _ _ _ _ rfl
 ·rw [al _ _ _ (by simp only [World.size_alloc]; omega),al _ _ _ (by simp only [World.size_alloc]; omega),al _ _ _ (by simp only [World.size_alloc]; omega),al _ _ _ (by simp only [World.size_alloc]; omega),al _ _ _ (by simp only [World.size_alloc]; omega)]; exact nw _ _ _ _ (by simp only [World.size_alloc])
 ·rw [al _ _ _ (by simp only [World.size_alloc]; omega),al _ _ _ (by simp only [World.size_alloc]; omega),al _ _ _ (by simp only [World.size_alloc]; omega)]; exact nw _ _ _ _ (by simp only [World.size_alloc])
 ·rw [al _ _ _ (by simp only [World.size_alloc]; omega),al _ _ _ (by simp only [World.size_alloc]; omega)]; exact nw _ _ _ _ (by simp only [World.size_alloc])
 ·rw [al _ _ _ (by simp only [World.size_alloc]; omega)]; exact nw _ _ _ _ (by simp only [World.size_alloc])
 ·exact nw _ _ _ _ (by simp only [World.size_alloc])
theorem cell_blk {W:World} {b:Nat} {cs:Array Value} {t:TypeId} {fr:Nat × Nat} (h:W.heap[b]?=some (.cells cs t fr)) (o:Nat):W.cell? ⟨b,o,none⟩=cs[o]?:=by unfold World.cell?; rw [h]; rfl
set_option maxHeartbeats 4000000 in
theorem small_any (w:World):Calls Tryz.prog 49 #[] w (SmallOut w):=by
 go_enter Tryz.func49,Tryz.ntmps49
 go_wp2
 refine bodyPost_ret (v:=.agg #[.slice (some ⟨w.heap.size + 1 + 1 + 1,0,none⟩) 3 3,.slice (some ⟨w.heap.size + 1 + 1 + 1 + 1 + 1 + 1,0,none⟩) 2 2]) (by simp [results,Tryz.results49,go_sem]) rfl ?_
 generalize hW:World.alloc _ _=W
 obtain ⟨_,f1,f3,f4,f5,f6,hb⟩:=seven w _ _ _ _ _ _ _ _ _ _ _ _ _ _ W hW.symm
 clear hW
 have lA:∀ (d:Nd),d.s.size<=maxLen->d.nm.size<=maxLen->IsP (fun b => w.heap.size<=b) W (.mk d []) d none 0:=fun d h1 h2 => isP_leaf _ _ _ _ h1 h2
 have hone:IsP (fun b => w.heap.size<=b) W (.mk ⟨8,0,0,⟨#[]⟩,⟨#[]⟩⟩ [.mk ⟨2,0,0,⟨#[]⟩,⟨#[97]⟩⟩ [],.mk ⟨1,1,1,⟨#[]⟩,⟨#[]⟩⟩ []]) ⟨8,0,0,⟨#[]⟩,⟨#[]⟩⟩ (some ⟨w.heap.size + 1,0,none⟩) 2:=by
  refine isP_row (g:=w.heap.size + 1) (es:=[⟨.mk ⟨2,0,0,⟨#[]⟩,⟨#[97]⟩⟩ [],⟨2,0,0,⟨#[]⟩,⟨#[97]⟩⟩,none,0,0⟩,⟨.mk ⟨1,1,1,⟨#[]⟩,⟨#[]⟩⟩ [],⟨1,1,1,⟨#[]⟩,⟨#[]⟩⟩,none,0,0⟩]) (fun j hj => ?_) (Nat.le_succ _) (by decide) (Nat.zero_le _) (Nat.zero_le _) (fun e he => ?_)
  ·rw [cell_blk f1]
   match j,hj with
   | 0,_ | 1,_ | 2,_ | 3,_ | 4,_ | 5,_ | 6,_ | 7,_ | 8,_ | 9,_ | 10,_ | 11,_ => rfl
  ·simp only [List.mem_cons,List.not_mem_nil,or_false] at he
   rcases he with rfl | rfl <;> exact lA _ (by decide) (by decide)
 refine ⟨[⟨⟨#[98]⟩,2,1,.mk ⟨8,0,0,⟨#[]⟩,⟨#[]⟩⟩ [.mk ⟨2,0,0,⟨#[]⟩,⟨#[97]⟩⟩ [],.mk ⟨1,1,1,⟨#[]⟩,⟨#[]⟩⟩ []],some ⟨w.heap.size + 1,0,none⟩,2,2⟩,⟨⟨#[97]⟩,1,1,zeroX,none,0,0⟩,⟨⟨#[99]⟩,3,3,.mk ⟨2,0,0,⟨#[]⟩,⟨#[98]⟩⟩ [],none,0,0⟩],_,3,[⟨⟨#[112,49]⟩,[⟨#[97]⟩],some ⟨w.heap.size + 1 + 1 + 1 + 1,0,none⟩,1,zeroX,none,0,0⟩,⟨⟨#[112,50]⟩,[⟨#[99]⟩],some ⟨w.heap.size + 1 + 1 + 1 + 1 + 1,0,none⟩,1,zeroX,none,0,0⟩],_,2,rfl,rfl,rfl,fun i hi => ?_,fun i hi => ?_,hb,⟨Nat.le_refl _,by decide⟩,⟨Nat.le_refl _,by decide⟩⟩
 ·match i,hi with
  | 0,_ =>
   refine ⟨_,rfl,by omega,fun j hj => ?_,hone⟩
   rw [cell_blk f3]
   match j,hj with
   | 0,_ | 1,_ | 2,_ | 3,_ | 4,_ | 5,_ | 6,_ | 7,_ | 8,_ => rfl
  | 1,_ =>
   refine ⟨_,rfl,by omega,fun j hj => ?_,lA _ (by decide) (by decide)⟩
   rw [cell_blk f3]
   match j,hj with
   | 0,_ | 1,_ | 2,_ | 3,_ | 4,_ | 5,_ | 6,_ | 7,_ | 8,_ => rfl
  | 2,_ =>
   refine ⟨_,rfl,by omega,fun j hj => ?_,lA _ (by decide) (by decide)⟩
   rw [cell_blk f3]
   match j,hj with
   | 0,_ | 1,_ | 2,_ | 3,_ | 4,_ | 5,_ | 6,_ | 7,_ | 8,_ => rfl
 ·match i,hi with
  | 0,_ =>
   refine ⟨_,rfl,by omega,fun j hj => ?_,⟨fun j hj => ⟨_,rfl,by show w.heap.size<=w.heap.size + 1 + 1 + 1 + 1; omega,?_⟩,lA _ (by decide) (by decide),(by decide:(1:Nat)<=10),(by decide:(1:Nat)<=1)⟩⟩
   ·rw [cell_blk f6]
    match j,hj with
    | 0,_ | 1,_ | 2,_ | 3,_ | 4,_ | 5,_ | 6,_ | 7,_ => rfl
   ·rw [add_block,cell_blk f4]
    match j,hj with
    | 0,_ => rfl
  | 1,_ =>
   refine ⟨_,rfl,by omega,fun j hj => ?_,⟨fun j hj => ⟨_,rfl,by show w.heap.size<=w.heap.size + 1 + 1 + 1 + 1 + 1; omega,?_⟩,lA _ (by decide) (by decide),(by decide:(1:Nat)<=10),(by decide:(1:Nat)<=1)⟩⟩
   ·rw [cell_blk f6]
    match j,hj with
    | 0,_ | 1,_ | 2,_ | 3,_ | 4,_ | 5,_ | 6,_ | 7,_ => rfl
   ·rw [add_block,cell_blk f5]
    match j,hj with
    | 0,_ => rfl
end Go.Proofs.YtonlkmkfcaadlaaGreatDoor.FrmT
namespace Go.Proofs.YtonlkmkfcaadlaaGreatDoor.RawO
open Go.ChangeShapes Go.WideShapes Go.ChangeAt Go.RowKit Go.Deep
open RawL
set_option linter.unusedVariables false
theorem len4 {α:Type} {l:List α} (h:l.length=4):∃ a b c d,l=[a,b,c,d]:=by
 match l,h with
 | [a,b,c,d],_ => exact ⟨a,b,c,d,rfl⟩
theorem row_raw {H:Type} {enc:TypeId × Value->H} {W:World} {fuel:Nat} {cs:List Value} {y:DataW H × List MemPlace}
  (h:DataW.trod enc Tryz.prog W 0 (fun _ => true) true fuel 59 cs=some y):∃ k x z t,cs=[.int .i64 k,.int .i64 x,.int .i64 z,.string t]/\(Lit.int .i64 k).wf=true/\(Lit.int .i64 x).wf=true/\(Lit.int .i64 z).wf=true/\t.size<=maxLen:=by
 obtain ⟨ys,f1,hfu,hx,hl,hlen,hf⟩:=DataW.trod_struct Tryz.underlying59 h
 have hC:Tryz.prog.cellsOf 59=4:=by kernel_rfl
 rw [hC] at hl
 obtain ⟨d0,d1,d2,d3,rfl⟩:=len4 hl
 obtain ⟨y0,y1,y2,y3,rfl⟩:=len4 (show ys.length=4 from hlen)
 have g0:=hf 0 _ rfl
 have g1:=hf 1 _ rfl
 have g2:=hf 2 _ rfl
 have g3:=hf 3 _ rfl
 have c0:Tryz.prog.cellsOf 3=1:=by kernel_rfl
 have c2:Tryz.prog.cellsOf 9=1:=by kernel_rfl
 simp [c0] at g0 g1 g2
 simp [c2] at g3
 obtain ⟨k,e0,_,w0⟩:=DataW.trod_int Tryz.underlying3 g0
 obtain ⟨x,e1,_,w1⟩:=DataW.trod_int Tryz.underlying3 g1
 obtain ⟨z,e2,_,w2⟩:=DataW.trod_int Tryz.underlying3 g2
 obtain ⟨t,e3,_,w3⟩:=DataW.trod_string Tryz.underlying9 g3
 simp only [List.cons.injEq,and_true] at e0 e1 e2 e3
 subst e0 e1 e2 e3
 exact ⟨k,x,z,t,rfl,w0,w1,w2,w3⟩
set_option maxRecDepth 100000 in
theorem open_raws {H:Type} {enc:TypeId × Value->H} {W:World} {base:Nat} {v:Value} {d:DataW H} {p:List MemPlace}
  (hv:Value.okWide Tryz.prog W .any base 22 v) (h:DataW.Trod enc Tryz.prog W 0 (fun _ => true) true 22 v d p) :
  ∃ A n c,v=.slice A n c/\Raws W A n c:=by
 obtain ⟨A,n,c,rfl⟩:=okWide_slice Tryz.underlying22 hv
 obtain ⟨fuel,hf⟩:=h
 have hC:Tryz.prog.cellsOf 59=4:=by kernel_rfl
 refine ⟨A,n,c,rfl,?_⟩
 rcases open_slice Tryz.underlying22 hf with ⟨e,_⟩ | ⟨a,len,cap,m,f,D,Pl,e,_,hl,hc,hm,_,hel⟩
 ·have e':[Value.slice A n c]=[.slice none 0 0]:=e
  injection e' with e1 _
  injection e1 with e1 e2 e3
  subst e1 e2 e3
  exact ⟨Nat.le_refl _,Nat.zero_le _,fun i hi => absurd hi (by omega)⟩
 ·have e':[Value.slice A n c]=[.slice (some a) len cap]:=e
  injection e' with e1 _
  injection e1 with e1 e2 e3
  subst e1 e2 e3
  refine ⟨hl,hc,fun i hi => ?_⟩
  have hmi:i < m:=by rw [hm]; split <;> omega
  obtain ⟨cs',hcs,htr⟩:=hel i hmi
  rw [hC] at hcs
  obtain ⟨_,hcl,hat⟩:=World.cells?_some hcs
  obtain ⟨k,x,z,t,rfl,w0,w1,w2,w3⟩:=row_raw htr
  have h0:=hat 0 (by decide); have h1:=hat 1 (by decide); have h2:=hat 2 (by decide); have h3:=hat 3 (by decide)
  have ad:∀ (p:Addr) (j:Nat),j ≠ 0->p.add j=⟨p.block,p.off + j,none⟩:=fun p j hj => by unfold Addr.add; rw [if_neg hj]
  rw [ad _ _ (by decide)] at h1 h2 h3
  rw [show ∀ p:Addr,p.add 0=p from fun p => by unfold Addr.add; rw [if_pos rfl]] at h0
  exact ⟨a,k,x,z,t,rfl,h0,h1,h2,h3,w0,w1,w2,w3⟩
end Go.Proofs.YtonlkmkfcaadlaaGreatDoor.RawO
namespace Go.Proofs.YtonlkmkfcaadlaaGreatDoor.NmG
open Go.RowKit
open ValM LexM NumM ExM NmM Kit ExL ExP ExV RawL GenL Gen GenT NmP
set_option linter.unusedVariables false
theorem gn_refs {fs:List GenL.Fd}:∀ (k:Nat) (kind:Int) (x:Ex),Gn fs k kind x->∀ s ∈ Ex.refs x,∃ f ∈ fs,f.nm=s:=by
 have leaf:∀ (kind:Int) (d:Nd),LeafD fs kind d->∀ s ∈ Ex.refs (.mk d []),∃ f ∈ fs,f.nm=s:=fun kind d hl s hs => by
  rcases hl with ⟨h1,_⟩ | ⟨h1,_,_,_,f,hf,h6,_⟩
  ·rw [refs_mk_neg d [] (by omega),refsL_nil] at hs; simp at hs
  ·rw [refs_mk_pos d [] h1,refsL_nil] at hs
   simp at hs; subst hs
   exact ⟨f,hf,h6⟩
 intro k
 induction k with
 | zero =>
  intro kind x h s hs
  obtain ⟨d,rfl,hl⟩:=h
  exact leaf kind d hl s hs
 | succ k ih =>
  intro kind x h s hs
  rcases h with ⟨d,rfl,hl⟩ | ⟨op,ks,l,rfl,hop,hlen,hl⟩
  ·exact leaf kind d hl s hs
  ·have hne:op ≠ 2:=by
    rcases hop with ⟨h,_⟩ | ⟨_,⟨h,_⟩ | ⟨h,_⟩ | ⟨h,_⟩⟩ | ⟨_,⟨h,_⟩ | ⟨h,_⟩ | ⟨j,_,_,h,_⟩⟩ | ⟨_,_,h,_⟩ <;> omega
   rw [refs_mk_neg _ l hne] at hs
   have:∀ (l:List Ex),(∀ x ∈ l,∀ s ∈ Ex.refs x,∃ f ∈ fs,f.nm=s)->∀ s ∈ refsL l,∃ f ∈ fs,f.nm=s:=by
    intro l
    induction l with
    | nil => intro _ s hs; rw [refsL_nil] at hs; simp at hs
    | cons y l ihl =>
     intro hl s hs
     rw [refsL_cons,List.mem_append] at hs
     rcases hs with hs | hs
     ·exact hl y (by simp) s hs
     ·exact ihl (fun z hz => hl z (by simp [hz])) s hs
   refine this l (fun x hx => ?_) s hs
   obtain ⟨i,hi,rfl⟩:=List.getElem_of_mem hx
   exact ih _ _ (hl i hi (by omega))
end Go.Proofs.YtonlkmkfcaadlaaGreatDoor.NmG
namespace Go.Proofs.YtonlkmkfcaadlaaGreatDoor.TyG
open Go.RowKit
open ValM LexM NumM ExM NmM Kit ExL ExP ExV RawL GenL Gen GenT NmP NmG TyM Ty
set_option linter.unusedVariables false
theorem errL_zero (ks:List Int):errL (ks.map fun k => (k,(0:Int)))=0:=by
 induction ks with
 | nil => rfl
 | cons k r ih => rw [List.map_cons,errL,if_pos rfl,ih]
theorem vK_id {kind:Int} (h1:1<=kind) (h3:kind<=3):RawV.vK kind=kind:=by
 unfold RawV.vK
 split
 ·omega
 ·split <;> omega
theorem opT_ty {op:Int} {ks:List Int} {kind:Int} (h1:1<=kind) (h3:kind<=3) (h:OpT op ks kind):applyR (ruleReq op) (ruleRes op) ks=(kind,0)/\(∀ k ∈ ks,1<=k/\k<=3)/\op ≠ 1/\op ≠ 2:=by
 have hk:kind=1 ∨ kind=2 ∨ kind=3:=by omega
 rcases h with ⟨rfl,rfl⟩ | ⟨rfl,⟨rfl,rfl⟩ | ⟨rfl,rfl⟩ | ⟨a,b,rfl⟩⟩ | ⟨rfl,⟨rfl,rfl⟩ | ⟨a,b,rfl⟩ | ⟨j,j1,j3,a,b,rfl⟩⟩ | ⟨k1,k2,rfl,rfl⟩
 ·rcases hk with rfl | rfl | rfl <;> exact ⟨by decide,by decide,by decide,by decide⟩
 ·exact ⟨by decide,by decide,by decide,by decide⟩
 ·exact ⟨by decide,by decide,by decide,by decide⟩
 ·have:op=5 ∨ op=6 ∨ op=7 ∨ op=8 ∨ op=9:=by omega
  rcases this with rfl | rfl | rfl | rfl | rfl <;> exact ⟨by decide,by decide,by decide,by decide⟩
 ·exact ⟨by decide,by decide,by decide,by decide⟩
 ·have:op=15 ∨ op=16:=by omega
  rcases this with rfl | rfl <;> exact ⟨by decide,by decide,by decide,by decide⟩
 ·have:op=11 ∨ op=12 ∨ op=13 ∨ op=14:=by omega
  have hj:j=1 ∨ j=2 ∨ j=3:=by omega
  rcases this with rfl | rfl | rfl | rfl <;> rcases hj with rfl | rfl | rfl <;> exact ⟨by decide,by decide,by decide,by decide⟩
 ·obtain rfl:kind=3:=by omega
  exact ⟨by decide,by decide,by decide,by decide⟩
theorem ofT_ty {fs:List (ByteArray × Int)} {x:Ex} (h:x.checkE=0):ofT fs x=Ex.ty fs x:=by unfold ofT; rw [if_pos h]
end Go.Proofs.YtonlkmkfcaadlaaGreatDoor.TyG
namespace Go.Proofs.YtonlkmkfcaadlaaGreatDoor.FrmO
open Go.RowKit
open ValM LexM NumM ExM NmM Kit ExL ExP ExN ExC RawV Within RawL RawN GenL Gen GenT GenV FrmM Frm FldP FldR FldC FrmT TyM Ty TyG NmG
set_option linter.unusedVariables false
def fdOf (v:FV):GenL.Fd:=⟨v.nm,v.kind,v.ty,v.x.d,none,0,0⟩
theorem nts_fdOf (l:List FV):nts (l.map fdOf)=fvs l:=by unfold nts fvs; rw [List.map_map]; rfl
theorem gn_ty2 {fs:List GenL.Fd} {G:List (ByteArray × Int)} (hfs:∀ f ∈ fs,fieldT G f.nm=(f.ty,0)):∀ (k:Nat) (kind:Int) (x:Ex),1<=kind->kind<=3->Gn fs k kind x->Ex.ty G x=(kind,0):=by
 have leaf:∀ (kind:Int) (d:Nd),1<=kind->kind<=3->LeafD fs kind d->Ex.ty G (.mk d [])=(kind,0):=fun kind d h1 h3 hl => by
  rw [ty_mk,tyL_nil]
  unfold tyN
  rcases hl with ⟨g1,_,g3,_⟩ | ⟨g1,_,_,_,f,hf,g5,g6⟩
  ·rw [if_pos g1,g3,vK_id h1 h3]
  ·rw [if_neg (by omega),if_pos g1,← g5,hfs f hf,g6]
 intro k
 induction k with
 | zero =>
  intro kind x h1 h3 h
  obtain ⟨d,rfl,hl⟩:=h
  exact leaf kind d h1 h3 hl
 | succ k ih =>
  intro kind x h1 h3 h
  rcases h with ⟨d,rfl,hl⟩ | ⟨op,ks,l,rfl,hop,hlen,hl⟩
  ·exact leaf kind d h1 h3 hl
  ·obtain ⟨e1,e2,e3,e4⟩:=opT_ty h1 h3 hop
   have hty:tyL G l=ks.map fun k => (k,(0:Int)):=by
    rw [tyL_map]
    refine List.ext_getElem (by rw [List.length_map,List.length_map,hlen]) fun i hi hj => ?_
    rw [List.length_map] at hi hj
    rw [List.getElem_map,List.getElem_map]
    have hb:=e2 ks[i] (List.getElem_mem hj)
    exact ih _ _ hb.1 hb.2 (hl i hi hj)
   rw [ty_mk,hty]
   unfold tyN
   rw [if_neg e3,if_neg e4,if_pos (errL_zero ks),List.map_map]
   have:(List.map ((fun p:Int × Int => p.1) ∘ fun k => (k,(0:Int))) ks)=ks:=by
    rw [show ((fun p:Int × Int => p.1) ∘ fun k:Int => (k,(0:Int)))=id from rfl,List.map_id]
   rw [this]; exact e1
theorem fieldsV_take (rs : List Rw) : ∀ (n k : Nat), k ≤ n → (fieldsV rs n).1.take k = (fieldsV rs k).1
  | 0, k, h => by obtain rfl : k = 0 := by omega
                  rfl
  | n + 1, k, h => by
    by_cases e : k = n + 1
    · subst e; exact List.take_of_length_le (Nat.le_of_eq (fieldsV_len rs _))
    · have : (fieldsV rs (n + 1)).1 = (fieldsV rs n).1 ++ [_] := rfl
      rw [this, List.take_append_of_le_length (by rw [fieldsV_len]; omega)]
      exact fieldsV_take rs n k (by omega)
def aheadF (rs:List Rw) (i:Nat):List GenL.Fd:=((baseV rs).take i).map fdOf
structure BaseF (rs:List Rw) (i:Nat) (f:FV):Prop where
 nm:f.nm=nmK i
 kd:1<=f.kind/\f.kind<=3
 ty:1<=f.ty/\f.ty<=3
 inp:f.kind=1->f.x=zeroX
 fml:f.kind=2->Gn (aheadF rs i) 2 f.ty f.x
 lkp:f.kind=3->∃ k,1<=k/\k<=3/\Gn (aheadF rs i) 1 k f.x
theorem base_at (rs:List Rw) (i:Nat) (h:i < (baseV rs).length):BaseF rs i (baseV rs)[i]:=by
 have hlen:=baseV_len rs
 have key:∀ (l:List FV) (z:FV) (h:l.length < (l ++ [z]).length),(l ++ [z])[l.length]=z:=fun l z h => by simp
 have ht1:(baseV rs).take (i + 1)=(fieldsV rs (i + 1)).1:=fieldsV_take rs _ _ (by omega)
 have ht:(baseV rs).take i=(fieldsV rs i).1:=fieldsV_take rs _ _ (by omega)
 have hli:=fieldsV_len rs i
 obtain ⟨a,ha⟩:∃ a,(fieldsV rs i).2=a:=⟨_,rfl⟩
 have e:(baseV rs)[i]=⟨nmK i,1 + pick (nextV rs a).k 3,1 + pick (nextV rs a).y 3,(srcV rs (fieldsV rs i).1 a).1⟩:=by
  have h1:(baseV rs)[i]=((baseV rs).take (i + 1))[i]'(by rw [List.length_take]; omega):=by rw [List.getElem_take]
  have h2:((baseV rs).take (i + 1))[i]'(by rw [List.length_take]; omega)=(fieldsV rs (i + 1)).1[i]'(by rw [fieldsV_len]; omega):=by simp only [ht1]
  rw [h1,h2]
  have h3:(fieldsV rs (i + 1)).1[i]'(by rw [fieldsV_len]; omega)=(fieldsV rs (i + 1)).1[(fieldsV rs i).1.length]'(by rw [fieldsV_len,fieldsV_len]; omega):=by congr 1; exact hli.symm
  rw [h3,← ha]
  exact key _ _ (by simp)
 have hk:=pick_bd (nextV rs a).k 3 (by decide)
 have hy:=pick_bd (nextV rs a).y 3 (by decide)
 have hx:=pick_bd (nextV rs a).x 3 (by decide)
 have hF:nts (aheadF rs i)=fvs (fieldsV rs i).1:=by unfold aheadF; rw [ht]; exact nts_fdOf _
 rw [e]
 refine ⟨rfl,⟨by show 1<=1 + _; omega,by show 1 + _<=3; omega⟩,⟨by show 1<=1 + _; omega,by show 1 + _<=3; omega⟩,fun h => ?_,fun h => ?_,fun h => ?_⟩
 ·have h:1 + pick (nextV rs a).k 3=1:=h
  show (srcV rs (fieldsV rs i).1 a).1=_
  unfold srcV
  rw [if_neg (by omega),if_neg (by omega)]
 ·have h:1 + pick (nextV rs a).k 3=2:=h
  show Gn _ _ (1 + pick (nextV rs a).y 3) (srcV rs (fieldsV rs i).1 a).1
  unfold srcV
  rw [if_pos h,← hF]
  exact exprV_gn 2 _ _
 ·have h:1 + pick (nextV rs a).k 3=3:=h
  refine ⟨1 + pick (nextV rs a).x 3,by omega,by omega,?_⟩
  show Gn _ _ _ (srcV rs (fieldsV rs i).1 a).1
  unfold srcV
  rw [if_neg (by omega),if_pos h,← hF]
  exact exprV_gn 1 _ _
theorem nmK_ok:∀ i,i < 10->nmB (nmK i).data.toList=true/\LexB.nameE (nmK i).data.toList=0:=by decide
structure OfBase (rs:List Rw) (fs:List GenL.Fd) (X:Nat->Ex) (π:Nat->Nat):Prop where
 len:fs.length=countV rs
 lt:∀ i,i < fs.length->π i < fs.length
 inj:∀ i j,i < fs.length->j < fs.length->π i=π j->i=j
 sur:∀ j,j < fs.length->∃ i,i < fs.length/\π i=j
 at':∀ (i:Nat) (h:i < fs.length) (hb:π i < (baseV rs).length),fs[i].nm=(baseV rs)[π i].nm/\fs[i].kind=(baseV rs)[π i].kind/\fs[i].ty=(baseV rs)[π i].ty/\X i=(baseV rs)[π i].x/\(X i=zeroX->bareB fs[i].d fs[i].n=true)
namespace OfBase
variable {rs:List Rw} {fs:List GenL.Fd} {X:Nat->Ex} {π:Nat->Nat}
theorem ten (h:OfBase rs fs X π):fs.length<=10:=by rw [h.len]; exact (countV_bd rs).2
theorem bl (h:OfBase rs fs X π) {i:Nat} (hi:i < fs.length):π i < (baseV rs).length:=by rw [baseV_len,← h.len]; exact h.lt i hi
theorem base (h:OfBase rs fs X π) (i:Nat) (hi:i < fs.length):∃ f,BaseF rs (π i) f/\fs[i].nm=f.nm/\fs[i].kind=f.kind/\fs[i].ty=f.ty/\X i=f.x/\(X i=zeroX->bareB fs[i].d fs[i].n=true) :=
 ⟨_,base_at rs (π i) (h.bl hi),h.at' i hi (h.bl hi)⟩
theorem nm (h:OfBase rs fs X π) (i:Nat) (hi:i < fs.length):fs[i].nm=nmK (π i):=by
 obtain ⟨f,hf,h1,_⟩:=h.base i hi
 rw [h1,hf.nm]
theorem place (h:OfBase rs fs X π) (i:Nat) (hi:i < fs.length):atF fs (nmK (π i))=i:=by
 refine atF_eq _ _ i hi (fun j hj hji e => ?_) (h.nm i hi)
 rw [h.nm j hj] at e
 have h1:=h.lt j hj
 have h2:=h.lt i hi
 have h3:=h.ten
 have:=h.inj j i hj hi (nmK_inj _ (by omega) _ (by omega) e)
 omega
theorem ahead (h:OfBase rs fs X π) {i:Nat} (hi:i < fs.length):∀ f ∈ aheadF rs (π i),∃ j,j < fs.length/\π j < π i/\f.nm=nmK (π j)/\nmB f.nm.data.toList=true/\fieldT (fts fs) f.nm=(f.ty,0):=fun f hf => by
 unfold aheadF at hf
 obtain ⟨v,hv,rfl⟩:=List.mem_map.1 hf
 obtain ⟨m,hm,rfl⟩:=List.getElem_of_mem hv
 rw [List.length_take,baseV_len] at hm
 rw [List.getElem_take]
 have hml:m < (baseV rs).length:=by rw [baseV_len]; omega
 have hb:=base_at rs m hml
 have hl:=h.len
 obtain ⟨j,hj,e⟩:=h.sur m (by omega)
 have h10:=h.ten
 have hnm:(fdOf (baseV rs)[m]).nm=nmK m:=hb.nm
 refine ⟨j,hj,by omega,by rw [hnm,e],by rw [hnm]; exact (nmK_ok m (by omega)).1,?_⟩
 have hT:=fieldT_fts (fs:=fs) (s:=nmK m) hj (fun q hq hqj eq => by
  rw [h.nm q hq] at eq
  have:=h.inj q j hq hj (nmK_inj _ (by have:=h.lt q hq; omega) _ (by omega) (eq.trans (by rw [e])))
  omega) (by rw [h.nm j hj,e])
 rw [hnm,hT]
 have h3:=(h.at' j hj (h.bl hj)).2.2.1
 have h4:(baseV rs)[π j]'(h.bl hj)=(baseV rs)[m]'(by rw [baseV_len]; omega):=by simp only [e]
 rw [h3,h4]; rfl
theorem src (h:OfBase rs fs X π) (i:Nat) (hi:i < fs.length) (hk:fs[i].kind ≠ 1):(X i).checkE=0/\(∃ k,Ex.ty (fts fs) (X i)=(k,0)/\(fs[i].kind=2->k=fs[i].ty))/\∀ s ∈ Ex.refs (X i),∃ j,j < fs.length/\π j < π i/\s=nmK (π j):=by
 obtain ⟨f,hf,_,h2,h3,h4,_⟩:=h.base i hi
 have ha:=h.ahead hi
 have key:∀ (n:Nat) (k:Int) (x:Ex),n<=2->1<=k->k<=3->Gn (aheadF rs (π i)) n k x->x.checkE=0/\Ex.ty (fts fs) x=(k,0)/\∀ s ∈ Ex.refs x,∃ j,j < fs.length/\π j < π i/\s=nmK (π j):=fun n k x hn h1 h2 hg => by
  obtain ⟨g1,g2,g3⟩:=gn_ok (fun f hf => by obtain ⟨_,_,_,_,h,_⟩:=ha f hf; exact h) n k x hg
  have hb:nb n<=nb 2:=by
   rcases (by omega:n=0 ∨ n=1 ∨ n=2) with rfl | rfl | rfl <;> decide
  have e2:nb 2=13:=rfl
  refine ⟨by rw [checkE_ok (by omega) (by omega)]; exact g1,gn_ty2 (fun f hf => by obtain ⟨_,_,_,_,_,h⟩:=ha f hf; exact h) n k x h1 h2 hg,fun s hs => ?_⟩
  obtain ⟨f,hf,e⟩:=gn_refs n k x hg s hs
  obtain ⟨j,q1,q2,q3,_⟩:=ha f hf
  exact ⟨j,q1,q2,by rw [← e,q3]⟩
 rw [h2] at hk
 have hkd:=hf.kd
 by_cases h2k:f.kind=2
 ·obtain ⟨a,b,c⟩:=key 2 f.ty f.x (by omega) hf.ty.1 hf.ty.2 (hf.fml h2k)
  rw [h4]
  exact ⟨a,⟨f.ty,b,fun _ => h3.symm⟩,c⟩
 ·obtain ⟨k,k1,k3,hg⟩:=hf.lkp (by omega)
  obtain ⟨a,b,c⟩:=key 1 k f.x (by omega) k1 k3 hg
  rw [h4]
  exact ⟨a,⟨k,b,fun e => absurd (h2.symm.trans e) h2k⟩,c⟩
theorem kinds (h:OfBase rs fs X π) (i:Nat) (hi:i < fs.length):1<=fs[i].kind/\fs[i].kind<=3/\1<=fs[i].ty/\fs[i].ty<=3:=by
 obtain ⟨f,hf,_,h2,h3,_⟩:=h.base i hi
 rw [h2,h3]; exact ⟨hf.kd.1,hf.kd.2,hf.ty.1,hf.ty.2⟩
theorem check (h:OfBase rs fs X π):checkF fs X=0:=by
 have h10:=h.ten
 have hr:∀ (i:Nat) (hi:i < fs.length),rightE fs[i] (X i)=0:=fun i hi => by
  obtain ⟨f,hf,h1,h2,h3,h4,h5⟩:=h.base i hi
  obtain ⟨a,b,c,d⟩:=h.kinds i hi
  have hn:LexB.nameE fs[i].nm.data.toList=0:=by rw [h.nm i hi]; exact (nmK_ok _ (by have:=h.lt i hi; omega)).2
  unfold rightE
  rw [if_neg (fun g => g hn),if_pos ⟨isT_iff.2 ⟨a,b⟩,isT_iff.2 ⟨c,d⟩⟩]
  by_cases hk:fs[i].kind=1
  ·rw [if_pos hk,if_pos (h5 (by rw [h4]; exact hf.inp (by rw [← h2]; exact hk)))]
  ·rw [if_neg hk]; exact (h.src i hi hk).1
 have h1:∀ j,j < fs.length->ownE fs X j=0:=fun j hj => by
  unfold ownE
  rw [dif_pos hj,if_pos (hr j hj),h.nm j hj,h.place j hj,if_neg (Nat.lt_irrefl _)]
 have h2:∀ j,j < fs.length->typE fs X j=0:=fun j hj => by
  unfold typE srcE
  rw [dif_pos hj]
  by_cases hk:fs[j].kind=1
  ·rw [if_neg (by omega),if_neg (by omega)]
  ·obtain ⟨c1,⟨k,c2,c3⟩,_⟩:=h.src j hj hk
   have ho:=ofT_ty (fs:=fts fs) c1
   by_cases h2:fs[j].kind=2
   ·rw [if_pos h2]
    unfold fitsT
    rw [ho,c2,if_pos rfl,if_pos (c3 h2)]
   ·rw [if_neg h2]
    obtain ⟨_,b,_⟩:=h.kinds j hj
    split
    ·rw [ho,c2]
    ·rfl
 unfold checkF
 rw [if_neg (by omega),scan_zero _ h1,if_pos rfl,scan_zero _ h2]
end OfBase
def xOf (es:List FE) (k:Nat):Ex:=(es[k]?.map FE.x).getD zeroX
theorem xOf_at (es:List FE) (k:Nat) (h:k < es.length):xOf es k=es[k].x:=by unfold xOf; rw [List.getElem?_eq_getElem h]; rfl
theorem bare_zero {P:Nat->Prop} {w:World} {d:Nd} {A:Option Addr} {n:Nat} (h:IsP P w zeroX d A n):bareB d n=true:=by
 unfold zeroX at h
 rw [IsP] at h
 obtain ⟨rfl,rfl,_⟩:=h
 decide
theorem form_base {rs:List Rw} {es:List FE} {P:Nat->Prop} {w:World} {A:Option Addr} (h:es.map FE.v=formF rs) (hr:FRow P w A es):OfBase rs (es.map FE.fd) (xOf es) (plc rs):=by
 obtain ⟨hc,_,_⟩:=form_places h
 have hl:(es.map FE.fd).length=countV rs:=by rw [List.length_map,hc]
 refine ⟨hl,fun i hi => by rw [hl] at hi ⊢; exact plc_lt rs i hi,fun i j hi hj e => by rw [hl] at hi hj; exact plc_inj rs i j hi hj e,fun j hj => ?_,fun i hi hb => ?_⟩
 ·rw [hl] at hj ⊢
  refine ⟨plc rs j,plc_lt rs j hj,?_⟩
  unfold plc; split <;> omega
 ·have hi':i < es.length:=by simpa using hi
  have hj:i < (formF rs).length:=by rw [formF_len,← hl]; exact hi
  have e:=fe_at h i hi' hj
  rw [formF_at rs i hj] at e
  rw [List.getElem_map,xOf_at es i hi']
  obtain ⟨g,_,_,_,his⟩:=hr i hi'
  refine ⟨congrArg FV.nm e,congrArg FV.kind e,congrArg FV.ty e,congrArg FV.x e,fun hz => ?_⟩
  show bareB es[i].x.d es[i].m=true
  rw [hz] at his ⊢
  exact bare_zero his
theorem form_forms {rs:List Rw} {es:List FE} {P:Nat->Prop} {w:World} {A:Option Addr} (h:es.map FE.v=formF rs) (hr:FRow P w A es):Forms w (es.map FE.fd) (xOf es):=fun k hk => by
 have hk':k < es.length:=by simpa using hk
 obtain ⟨g,_,_,_,his⟩:=hr k hk'
 rw [List.getElem_map,xOf_at es k hk']
 refine ⟨?_,IsP.is _ _ _ _ his⟩
 have:=((form_places h).2.1 k hk').2
 show es[k].nm.size<=maxLen
 unfold maxLen; omega
end Go.Proofs.YtonlkmkfcaadlaaGreatDoor.FrmO
namespace Go.Proofs.YtonlkmkfcaadlaaGreatDoor.PgF
open Go.RowKit
open ValM LexM NumM ExM NmM Kit ExL ExP ExN ExC RawV Within RawL RawN GenL Gen GenT GenV FrmM Frm FldP FldR FldC FrmT TyM Ty TyG NmG FrmO PgM
set_option linter.unusedVariables false
structure Good (fs:List GenL.Fd) (ps:List PE):Prop where
 few:1<=ps.length/\ps.length<=6
 nm:∀ (k:Nat) (h:k < ps.length),LexB.nameE ps[k].nm.data.toList=0
 inj:∀ (j k:Nat) (hj:j < ps.length) (hk:k < ps.length),ps[j].nm=ps[k].nm->j=k
 sk:∀ (k:Nat) (h:k < ps.length),bareB ps[k].x.d ps[k].m=true ∨ fitsT (fts fs) ps[k].x 2=0
structure GoodN (fs:List GenL.Fd) (ps:List PE):Prop where
 at':∀ (k:Nat) (h:k < ps.length),∀ s ∈ ps[k].fs,atF fs s < fs.length
 one:∀ (j k:Nat) (hj:j < ps.length) (hk:k < ps.length) (s:ByteArray),s ∈ ps[j].fs->s ∈ ps[k].fs->j=k
 nd:∀ (k:Nat) (h:k < ps.length),ps[k].fs.Nodup
theorem Good.found {fs:List GenL.Fd} {ps:List PE} (h:Good fs ps) (k:Nat) (hk:k < ps.length):pAt ps ps[k].nm=k:=by
 unfold pAt
 exact fi_hit hk (fun j hj hjk => by unfold nmP; exact decide_eq_false fun e => by have:=h.inj j k hj hk e; omega) (by unfold nmP; exact decide_eq_true rfl)
theorem Good.page {fs:List GenL.Fd} {ps:List PE} (h:Good fs ps) (k:Nat) (hk:k < ps.length) (L:List ByteArray) (hL:ps[k].fs=L):pageE fs ps k=scan (nameE fs (metP ps k) L) L.length:=by
 subst hL
 unfold pageE
 rw [dif_pos hk,if_pos (h.nm k hk),h.found k hk,if_neg (Nat.lt_irrefl k)]
 by_cases h0:scan (nameE fs (metP ps k) ps[k].fs) ps[k].fs.length=0
 ·rw [if_pos h0,h0]
  rcases h.sk k hk with e | e
  ·rw [if_pos e]
  ·split
   ·rfl
   ·exact e
 ·rw [if_neg h0]
theorem met_mem (ps:List PE) (s:ByteArray):∀ k,k<=ps.length->(s ∈ metP ps k ↔ ∃ (j:Nat) (hj:j < ps.length),j < k/\s ∈ ps[j].fs)
 | 0,_ => by rw [metP_zero]; simp
 | k + 1,hk => by
  rw [metP_succ ps k (by omega),List.mem_append,met_mem ps s k (by omega)]
  constructor
  ·rintro (⟨j,hj,h1,h2⟩ | h)
   ·exact ⟨j,hj,by omega,h2⟩
   ·exact ⟨k,by omega,by omega,h⟩
  ·rintro ⟨j,hj,h1,h2⟩
   by_cases e:j=k
   ·subst e; exact .inr h2
   ·exact .inl ⟨j,hj,by omega,h2⟩
theorem nameE_ok {fs:List GenL.Fd} {met L:List ByteArray} {j:Nat} (hj:j < L.length) (ha:atF fs L[j] < fs.length) (hm:L[j] ∉ met) (hn:L[j] ∉ L.take j):nameE fs met L j=0:=by
 unfold nameE
 rw [dif_pos hj,if_pos ha,if_neg]
 rw [hasB_true,List.mem_append]
 rintro (h | h)
 ·exact hm h
 ·exact hn h
theorem nodup_take {L:List ByteArray} (h:L.Nodup) (j:Nat) (hj:j < L.length):L[j] ∉ L.take j:=fun hm => by
 obtain ⟨i,hi,e⟩:=List.getElem_of_mem hm
 rw [List.getElem_take] at e
 rw [List.length_take] at hi
 exact List.pairwise_iff_getElem.1 h i j (by omega) hj (by omega) e
theorem check_good {fs:List GenL.Fd} {ps:List PE} (h:Good fs ps) (hn:GoodN fs ps):checkP fs ps=0:=by
 have hf:=h.few
 unfold checkP
 rw [if_neg (by omega)]
 refine scan_zero _ fun k hk => ?_
 rw [h.page k hk _ rfl]
 refine scan_zero _ fun j hj => ?_
 refine nameE_ok hj (hn.at' k hk _ (List.getElem_mem hj)) (fun hm => ?_) (nodup_take (hn.nd k hk) j hj)
 obtain ⟨i,hi,h1,h2⟩:=(met_mem ps _ k (by omega)).1 hm
 have:=hn.one i k hi hk _ h2 (List.getElem_mem hj)
 omega
theorem pages_at (rs:List Rw) (l:List FV) (n a:Nat):∀ N,∀ (i:Nat) (h:i < (pagesV rs l n a N).1.length),∃ b,(pagesV rs l n a N).1[i]=⟨pgName i,onV l n i l.length,(skipV rs l b).1⟩
 | 0,i,h => absurd h (by simp [pagesV])
 | N + 1,i,h => by
  have hl:=pagesV_len rs l n a N
  have hl':=pagesV_len rs l n a (N + 1)
  by_cases hi:i < (pagesV rs l n a N).1.length
  ·have:(pagesV rs l n a (N + 1)).1[i]=(pagesV rs l n a N).1[i]:=List.getElem_append_left hi
   rw [this]; exact pages_at rs l n a N i hi
  ·have e:i=N:=by omega
   subst e
   refine ⟨(pagesV rs l n a i).2,?_⟩
   have key:∀ (l:List PV) (z:PV) (h:l.length < (l ++ [z]).length),(l ++ [z])[l.length]=z:=fun l z h => by simp
   have e2:(pagesV rs l n a (i + 1)).1[(pagesV rs l n a i).1.length]'(by omega)=⟨pgName i,onV l n i l.length,(skipV rs l (pagesV rs l n a i).2).1⟩:=key (pagesV rs l n a i).1 _ (by simp)
   have e3:(pagesV rs l n a (i + 1)).1[i]=(pagesV rs l n a (i + 1)).1[(pagesV rs l n a i).1.length]'(by omega):=by congr 1; exact hl.symm
   rw [e3,e2]
theorem on_mem (l:List FV) (n i:Nat) (s:ByteArray):∀ k,k<=l.length->s ∈ onV l n i k->∃ (j:Nat) (h:j < l.length),j < k/\j % (n + 1)=i/\s=l[j].nm
 | 0,_,h => by unfold onV at h; simp at h
 | k + 1,hk,h => by
  have e:(l[k]?.map FV.nm).getD ⟨#[]⟩=(l[k]'(by omega)).nm:=by rw [List.getElem?_eq_getElem (by omega)]; rfl
  unfold onV at h
  rw [e] at h
  have go:s ∈ onV l n i k->∃ (j:Nat) (h:j < l.length),j < k + 1/\j % (n + 1)=i/\s=l[j].nm:=fun h => by
   obtain ⟨j,a,b,c⟩:=on_mem l n i s k (by omega) h
   exact ⟨j,a,by omega,c⟩
  by_cases hm:k % (n + 1)=i
  ·rw [if_pos hm,List.mem_append] at h
   rcases h with h | h
   ·exact go h
   ·simp at h; exact ⟨k,by omega,by omega,hm,h⟩
  ·rw [if_neg hm] at h; exact go h
theorem on_nd (l:List FV) (hinj:∀ (i j:Nat) (hi:i < l.length) (hj:j < l.length),l[i].nm=l[j].nm->i=j) (n i:Nat):∀ k,k<=l.length->(onV l n i k).Nodup
 | 0,_ => List.nodup_nil
 | k + 1,hk => by
  have e:(l[k]?.map FV.nm).getD ⟨#[]⟩=(l[k]'(by omega)).nm:=by rw [List.getElem?_eq_getElem (by omega)]; rfl
  have ih:=on_nd l hinj n i k (by omega)
  unfold onV
  rw [e]
  split
  ·refine List.pairwise_append.2 ⟨ih,List.pairwise_singleton _ _,fun a ha b hb => ?_⟩
   simp at hb; subst hb
   obtain ⟨j,hj,h1,_,h2⟩:=on_mem l n i a k (by omega) ha
   intro e2
   have:=hinj j k hj (by omega) (h2.symm.trans e2)
   omega
  ·exact ih
theorem pgName_inj:∀ i,i < 4->∀ j,j < 4->pgName i=pgName j->i=j:=by decide
theorem pgName_ok:∀ i,i < 4->LexB.nameE (pgName i).data.toList=0:=by decide
theorem base_inj (rs:List Rw):∀ (i j:Nat) (hi:i < (baseV rs).length) (hj:j < (baseV rs).length),(baseV rs)[i].nm=(baseV rs)[j].nm->i=j:=fun i j hi hj e => by
 rw [(base_at rs i hi).nm,(base_at rs j hj).nm] at e
 have h1:=baseV_len rs
 have h2:=countV_bd rs
 exact nmK_inj i (by omega) j (by omega) e
theorem base_all {rs:List Rw} {fs:List GenL.Fd} {X:Nat->Ex} {π:Nat->Nat} (h:OfBase rs fs X π):∀ f ∈ (baseV rs).map fdOf,nmB f.nm.data.toList=true/\fieldT (fts fs) f.nm=(f.ty,0):=fun f hf => by
 obtain ⟨v,hv,rfl⟩:=List.mem_map.1 hf
 obtain ⟨m,hm,rfl⟩:=List.getElem_of_mem hv
 have hml:m < countV rs:=by rw [← baseV_len]; exact hm
 have hb:=base_at rs m hm
 have hl:=h.len
 obtain ⟨j,hj,e⟩:=h.sur m (by omega)
 have h10:=h.ten
 have hnm:(fdOf (baseV rs)[m]).nm=nmK m:=hb.nm
 refine ⟨by rw [hnm]; exact (nmK_ok m (by omega)).1,?_⟩
 have hT:=fieldT_fts (fs:=fs) (s:=nmK m) hj (fun q hq hqj eq => by
  rw [h.nm q hq] at eq
  have:=h.inj q j hq hj (nmK_inj _ (by have:=h.lt q hq; omega) _ (by omega) (eq.trans (by rw [e])))
  omega) (by rw [h.nm j hj,e])
 rw [hnm,hT]
 have h3:=(h.at' j hj (h.bl hj)).2.2.1
 have h4:(baseV rs)[π j]'(h.bl hj)=(baseV rs)[m]'hm:=by simp only [e]
 rw [h3,h4]; rfl
theorem skip_fits {rs:List Rw} {fs:List GenL.Fd} {X:Nat->Ex} {π:Nat->Nat} (h:OfBase rs fs X π) (b:Nat):(skipV rs (baseV rs) b).1=zeroX ∨ fitsT (fts fs) (skipV rs (baseV rs) b).1 2=0:=by
 unfold skipV
 split
 ·refine .inr ?_
  have ha:=base_all h
  rw [← nts_fdOf]
  have hg:=exprV_gn (rs:=rs) (fs:=(baseV rs).map fdOf) 1 2 (nextA rs b)
  obtain ⟨g1,g2,g3⟩:=gn_ok (fun f hf => (ha f hf).1) 1 2 _ hg
  have e1:nb 1<=13:=by decide
  have hc:(exprV rs (nts ((baseV rs).map fdOf)) 1 2 (nextA rs b)).1.checkE=0:=by rw [checkE_ok (by omega) (by omega)]; exact g1
  have ht:=gn_ty2 (fun f hf => (ha f hf).2) 1 2 _ (by decide) (by decide) hg
  have ho:=ofT_ty (fs:=fts fs) hc
  unfold fitsT
  rw [ho,ht,if_pos rfl,if_pos rfl]
 ·exact .inl rfl
theorem pe_at {l:List PV} {ps:List PE} (h:ps.map PE.v=l) (i:Nat) (hi:i < ps.length) (hj:i < l.length):ps[i].v=l[i]:=by
 have:(ps.map PE.v)[i]'(by simpa using hi)=l[i]:=by simp only [h]
 rw [← this,List.getElem_map]
theorem form_pages {rs:List Rw} {es:List FE} {ps:List PE} {P Q:Nat->Prop} {w w':World} {A PA:Option Addr} (h:es.map FE.v=formF rs) (hr:FRow P w A es) (hpv:ps.map PE.v=formP rs) (hpr:PRow Q w' PA ps) :
  (1<=ps.length/\ps.length<=4)/\Good (es.map FE.fd) ps/\GoodN (es.map FE.fd) ps/\∀ (k:Nat) (h:k < ps.length),ps[k].nm.size<=4/\∀ s ∈ ps[k].fs,s.size<=4:=by
 have hB:=form_base h hr
 have hbd:=pageN_bd rs
 have hlen:ps.length=pageN rs:=by
  have:=congrArg List.length hpv
  rw [List.length_map] at this
  rw [this]; exact pagesV_len _ _ _ _ _
 have hbl:=baseV_len rs
 have hcb:=countV_bd rs
 have at':∀ (k:Nat) (hk:k < ps.length),∃ b,ps[k].nm=pgName k/\ps[k].fs=onV (baseV rs) (pageN rs) k (baseV rs).length/\ps[k].x=(skipV rs (baseV rs) b).1:=fun k hk => by
  have hkf:k < (formP rs).length:=by rw [← hpv,List.length_map]; exact hk
  obtain ⟨b,e⟩:=pages_at rs (baseV rs) (pageN rs) (fieldsV rs (countV rs)).2 (pageN rs) k hkf
  have e1:=(pe_at hpv k hk hkf).trans e
  exact ⟨b,congrArg PV.nm e1,congrArg PV.fs e1,congrArg PV.x e1⟩
 have mem:∀ (k:Nat) (hk:k < ps.length) (s:ByteArray),s ∈ ps[k].fs->∃ j,j < countV rs/\j % (pageN rs + 1)=k/\s=nmK j:=fun k hk s hs => by
  obtain ⟨b,_,e,_⟩:=at' k hk
  rw [e] at hs
  obtain ⟨j,hj,_,h2,h3⟩:=on_mem _ _ _ s _ (Nat.le_refl _) hs
  exact ⟨j,by omega,h2,by rw [h3,(base_at rs j hj).nm]⟩
 refine ⟨by omega,⟨by omega,fun k hk => ?_,fun j k hj hk e => ?_,fun k hk => ?_⟩,⟨fun k hk s hs => ?_,fun j k hj hk s h1 h2 => ?_,fun k hk => ?_⟩,fun k hk => ⟨?_,fun s hs => ?_⟩⟩
 ·obtain ⟨b,e,_⟩:=at' k hk
  rw [e]; exact pgName_ok k (by omega)
 ·obtain ⟨b,e1,_⟩:=at' j hj
  obtain ⟨b,e2,_⟩:=at' k hk
  rw [e1,e2] at e
  exact pgName_inj j (by omega) k (by omega) e
 ·obtain ⟨b,_,_,e⟩:=at' k hk
  rcases skip_fits hB b with h1 | h1
  ·refine .inl ?_
   obtain ⟨g,_,_,_,his⟩:=hpr k hk
   have his:=his.skip
   rw [e.trans h1] at his ⊢
   exact bare_zero his
  ·exact .inr (by rw [e]; exact h1)
 ·obtain ⟨j,hj,_,rfl⟩:=mem k hk s hs
  obtain ⟨i,hi,e⟩:=hB.sur j (by rw [hB.len]; exact hj)
  have:=hB.place i hi
  rw [e] at this
  rw [this]; exact hi
 ·obtain ⟨a,ha,h3,h4⟩:=mem j hj s h1
  obtain ⟨b,hb,h5,h6⟩:=mem k hk s h2
  have:=nmK_inj a (by omega) b (by omega) (h4.symm.trans h6)
  subst this
  omega
 ·obtain ⟨b,_,e,_⟩:=at' k hk
  rw [e]; exact on_nd _ (base_inj rs) _ _ _ (Nat.le_refl _)
 ·obtain ⟨b,e,_⟩:=at' k hk
  rw [e]; show 2<=4; decide
 ·obtain ⟨j,hj,_,rfl⟩:=mem k hk s hs
  exact nmK_size j
theorem prow_pgs {P:Nat->Prop} {w:World} {A:Option Addr} {ps:List PE} (h:PRow P w A ps):Pgs w A ps:=fun i hi => by
 obtain ⟨g,e,_,hc,_⟩:=h i hi
 refine ⟨_,e,?_⟩
 rw [add_block]
 exact ⟨hc 0 (by decide),hc 1 (by decide),hc 2 (by decide),hc 3 (by decide),hc 4 (by decide),hc 5 (by decide),hc 6 (by decide),hc 7 (by decide)⟩
theorem strP_trow {P:Nat->Prop} {w:World} {A:Option Addr} {L:List ByteArray} (h:StrP P w A L):TRow w A L:=fun j hj => by
 obtain ⟨a,e,_,hc⟩:=h j hj
 exact ⟨a,e,hc⟩
theorem prow_ok {P:Nat->Prop} {w:World} {A:Option Addr} {ps:List PE} (h:PRow P w A ps) (hs:∀ (k:Nat) (h:k < ps.length),ps[k].nm.size<=4/\∀ s ∈ ps[k].fs,s.size<=4):PgsOk w ps:=fun e he => by
 obtain ⟨k,hk,rfl⟩:=List.getElem_of_mem he
 obtain ⟨g,_,_,_,hi⟩:=h k hk
 obtain ⟨h1,h2⟩:=hs k hk
 exact ⟨by unfold maxLen; omega,strP_trow hi.str,fun s hs => by have:=h2 s hs; unfold maxLen; omega,by have:=hi.len; unfold maxLen; omega,IsP.is _ _ _ _ hi.skip⟩
theorem small_pages {es:List FE} {ps:List PE} {P:Nat->Prop} {w:World} {A:Option Addr} (h:es.map FE.v=smallV) (hp:ps.map PE.v=smallP) (hpr:PRow P w A ps) :
  ps.length=2/\checkP (es.map FE.fd) ps=0/\∀ (k:Nat) (h:k < ps.length),ps[k].nm.size<=4/\∀ s ∈ ps[k].fs,s.size<=4:=by
 have hc:=small_c h
 have hl:=small_len h
 have ha:atF (es.map FE.fd) ⟨#[97]⟩=1:=by
  match es,h,hl with
  | [a,b,c],h,_ =>
   simp only [List.map_cons,List.map_nil,smallV,List.cons.injEq,and_true] at h
   obtain ⟨h1,h2,h3⟩:=h
   have e1:a.fd.nm=⟨#[98]⟩:=congrArg FV.nm h1
   have e2:b.fd.nm=⟨#[97]⟩:=congrArg FV.nm h2
   have e3:c.fd.nm=⟨#[99]⟩:=congrArg FV.nm h3
   simp only [List.map_cons,List.map_nil,atF,e1,e2,e3]
   decide
 have hpl:ps.length=2:=by
  have:=congrArg List.length hp
  simpa [smallP] using this
 have hfl:(es.map FE.fd).length=3:=by rw [List.length_map]; exact hl
 have e0:=pe_at hp 0 (by omega) (by decide)
 have e1:=pe_at hp 1 (by omega) (by decide)
 have a0:ps[0].nm=⟨#[112,49]⟩:=congrArg PV.nm e0
 have b0:ps[0].fs=[⟨#[97]⟩]:=congrArg PV.fs e0
 have c0:ps[0].x=zeroX:=congrArg PV.x e0
 have a1:ps[1].nm=⟨#[112,50]⟩:=congrArg PV.nm e1
 have b1:ps[1].fs=[⟨#[99]⟩]:=congrArg PV.fs e1
 have c1:ps[1].x=zeroX:=congrArg PV.x e1
 have two:∀ k,k < ps.length->k=0 ∨ k=1:=fun k hk => by omega
 have sk:∀ (k:Nat) (hk:k < ps.length),ps[k].x=zeroX->bareB ps[k].x.d ps[k].m=true:=fun k hk e => by
  obtain ⟨g,_,_,_,his⟩:=hpr k hk
  have his:=his.skip
  rw [e] at his ⊢
  exact bare_zero his
 have d1:¬ (⟨#[112,49]⟩:ByteArray)=⟨#[112,50]⟩:=by decide
 have d2:¬ (⟨#[97]⟩:ByteArray)=⟨#[99]⟩:=by decide
 have hG:Good (es.map FE.fd) ps:=by
  refine ⟨by omega,fun k hk => ?_,fun j k hj hk e => ?_,fun k hk => ?_⟩
  ·rcases two k hk with rfl | rfl
   ·rw [a0]; decide
   ·rw [a1]; decide
  ·rcases two j hj with rfl | rfl <;> rcases two k hk with rfl | rfl
   ·rfl
   ·rw [a0,a1] at e; exact absurd e d1
   ·rw [a0,a1] at e; exact absurd e.symm d1
   ·rfl
  ·rcases two k hk with rfl | rfl
   ·exact .inl (sk 0 hk c0)
   ·exact .inl (sk 1 hk c1)
 have hN:GoodN (es.map FE.fd) ps:=by
  refine ⟨fun k hk s hs => ?_,fun j k hj hk s h1 h2 => ?_,fun k hk => ?_⟩
  ·rcases two k hk with rfl | rfl
   ·rw [b0] at hs; simp at hs; subst hs; rw [ha,hfl]; decide
   ·rw [b1] at hs; simp at hs; subst hs; rw [hc,hfl]; decide
  ·rcases two j hj with rfl | rfl <;> rcases two k hk with rfl | rfl
   ·rfl
   ·rw [b0] at h1; rw [b1] at h2; simp at h1 h2; exact absurd (h1.symm.trans h2) d2
   ·rw [b1] at h1; rw [b0] at h2; simp at h1 h2; exact absurd (h2.symm.trans h1) d2
   ·rfl
  ·rcases two k hk with rfl | rfl
   ·rw [b0]; exact List.pairwise_singleton _ _
   ·rw [b1]; exact List.pairwise_singleton _ _
 refine ⟨hpl,check_good hG hN,fun k hk => ?_⟩
 rcases two k hk with rfl | rfl
 ·rw [a0,b0]; exact ⟨by decide,fun s hs => by simp at hs; subst hs; decide⟩
 ·rw [a1,b1]; exact ⟨by decide,fun s hs => by simp at hs; subst hs; decide⟩
theorem form_nodes {rs:List Rw} {es:List FE} {ps:List PE} {P:Nat->Prop} {w:World} {A:Option Addr} (h:es.map FE.v=formF rs) (hr:FRow P w A es) (hpv:ps.map PE.v=formP rs) (k:Nat) (hk:k < ps.length):ps[k].x.nodes<=1048576:=by
 have hB:=form_base h hr
 have hkf:k < (formP rs).length:=by rw [← hpv,List.length_map]; exact hk
 obtain ⟨b,e⟩:=pages_at rs (baseV rs) (pageN rs) (fieldsV rs (countV rs)).2 (pageN rs) k hkf
 have e1:ps[k].x=(skipV rs (baseV rs) b).1:=congrArg PV.x ((pe_at hpv k hk hkf).trans e)
 rw [e1]
 unfold skipV
 split
 ·have ha:=base_all hB
  rw [← nts_fdOf]
  obtain ⟨g1,g2,g3⟩:=gn_ok (fun f hf => (ha f hf).1) 1 2 _ (exprV_gn (rs:=rs) (fs:=(baseV rs).map fdOf) 1 2 (nextA rs b))
  have e2:nb 1<=13:=by decide
  omega
 ·show zeroX.nodes<=1048576
  unfold zeroX
  decide
end Go.Proofs.YtonlkmkfcaadlaaGreatDoor.PgF
namespace Go.Proofs.YtonlkmkfcaadlaaGreatDoor.FrmO
open Go.RowKit
open ValM LexM NumM ExM NmM Kit ExL ExP ExN ExC RawV Within RawL RawN GenL Gen GenT GenV FrmM Frm FldP FldR FldC FrmT TyM Ty TyG NmG NmO NmI NmT RkM RkD
set_option linter.unusedVariables false
namespace OfBase
variable {rs:List Rw} {fs:List GenL.Fd} {X:Nat->Ex} {π:Nat->Nat}
theorem needs (h:OfBase rs fs X π) (i:Nat) (hi:i < fs.length):∀ j ∈ nd (needsF fs X) i,j < fs.length/\π j < π i:=fun j hj => by
 rw [needsF_nd _ _ _ hi] at hj
 unfold needF at hj
 rw [dif_pos hi] at hj
 by_cases hk:fs[i].kind=1
 ·rw [if_pos hk] at hj; simp at hj
 ·rw [if_neg hk] at hj
  obtain ⟨c1,_,c3⟩:=h.src i hi hk
  obtain ⟨s,hs,rfl⟩:=List.mem_map.1 hj
  have hs2:s ∈ Ex.refs (X i):=by
   have e:=bytes_refs (Ex.refs (X i))
   unfold ofL at hs
   rw [if_pos c1] at hs
   unfold mkL at hs e
   obtain ⟨b,hb,rfl⟩:=List.mem_map.1 hs
   rw [rise_mem] at hb
   rw [← e]
   exact List.mem_map.2 ⟨b,hb,rfl⟩
  obtain ⟨q,q1,q2,q3⟩:=c3 s hs2
  have:plN fs s=q:=by unfold plN; rw [q3,h.place q q1,if_pos q1]
  rw [this]; exact ⟨q1,q2⟩
end OfBase
end Go.Proofs.YtonlkmkfcaadlaaGreatDoor.FrmO
namespace Go.Proofs.YtonlkmkfcaadlaaGreatDoor.RkS
open Go.RowKit
open ValM LexM NumM ExM NmM Kit ExL ExP ExN ExC RawV Within RawL RawN GenL Gen GenT GenV FrmM Frm FldP FldR FldC FrmT FrmO TyM Ty TyG NmG NmO NmI NmR RkM RkA RkB RkC RkD RkO
set_option linter.unusedVariables false
def sx0:Ex:=.mk ⟨8,0,0,⟨#[]⟩,⟨#[]⟩⟩ [.mk ⟨2,0,0,⟨#[]⟩,⟨#[97]⟩⟩ [],.mk ⟨1,1,1,⟨#[]⟩,⟨#[]⟩⟩ []]
def sx2:Ex:=.mk ⟨2,0,0,⟨#[]⟩,⟨#[98]⟩⟩ []
theorem sx0_check:sx0.checkE=0:=by
 rw [checkE_ok (by unfold sx0; simp [nodes_mk,nodesL_cons,nodesL_nil]) (by unfold sx0; simp [depth_mk,depthL_cons,depthL_nil])]
 unfold sx0
 simp only [pre_mk,preL_cons,preL_nil,List.nil_append,List.append_nil,List.cons_append,List.length_cons,List.length_nil]
 decide
theorem sx2_check:sx2.checkE=0:=by
 rw [checkE_ok (by unfold sx2; simp [nodes_mk,nodesL_nil]) (by unfold sx2; simp [depth_mk,depthL_nil])]
 unfold sx2
 simp only [pre_mk,preL_nil,List.length_nil]
 decide
theorem sx0_refs:Ex.refs sx0=[⟨#[97]⟩]:=by
 unfold sx0
 rw [refs_mk_neg _ _ (by decide),refsL_cons,refsL_cons,refsL_nil,refs_mk_pos _ _ rfl,refs_mk_neg _ _ (by decide),refsL_nil]; rfl
theorem sx2_refs:Ex.refs sx2=[⟨#[98]⟩]:=by
 unfold sx2
 rw [refs_mk_pos _ _ rfl,refsL_nil]
theorem sx0_ty (G:List (ByteArray × Int)) (h:fieldT G ⟨#[97]⟩=(1,0)):Ex.ty G sx0=(1,0):=by
 unfold sx0
 rw [ty_mk,tyL_cons,tyL_cons,tyL_nil,ty_mk,ty_mk,tyL_nil]
 have e1:tyN G ⟨2,0,0,⟨#[]⟩,⟨#[97]⟩⟩ []=(1,0):=by unfold tyN; rw [if_neg (by decide),if_pos rfl,h]
 rw [e1]
 show tyN G _ [(1,0),(1,0)]=_
 unfold tyN
 rw [if_neg (by decide),if_neg (by decide)]
 decide
theorem sx2_ty (G:List (ByteArray × Int)) (t:Int) (h:fieldT G ⟨#[98]⟩=(t,0)):Ex.ty G sx2=(t,0):=by
 unfold sx2
 rw [ty_mk]
 unfold tyN
 rw [if_neg (by decide),if_pos rfl,h]
theorem small_all {es:List FE} {P:Nat->Prop} {w:World} {A:Option Addr} (h:es.map FE.v=smallV) (hr:FRow P w A es) :
  Forms w (es.map FE.fd) (xOf es)/\checkF (es.map FE.fd) (xOf es)=0/\needsF (es.map FE.fd) (xOf es)=[[1],[],[0]]:=by
 have hl:=small_len h
 match es,h,hl with
 | [a,b,c],h,_ =>
  simp only [List.map_cons,List.map_nil,smallV,List.cons.injEq,and_true] at h
  obtain ⟨h1,h2,h3⟩:=h
  have n1:a.nm=⟨#[98]⟩:=congrArg FV.nm h1
  have n2:b.nm=⟨#[97]⟩:=congrArg FV.nm h2
  have n3:c.nm=⟨#[99]⟩:=congrArg FV.nm h3
  have k1:a.kind=2:=congrArg FV.kind h1
  have k2:b.kind=1:=congrArg FV.kind h2
  have k3:c.kind=3:=congrArg FV.kind h3
  have t1:a.ty=1:=congrArg FV.ty h1
  have t2:b.ty=1:=congrArg FV.ty h2
  have t3:c.ty=3:=congrArg FV.ty h3
  have x1:a.x=sx0:=congrArg FV.x h1
  have x2:b.x=zeroX:=congrArg FV.x h2
  have x3:c.x=sx2:=congrArg FV.x h3
  have hX0:xOf [a,b,c] 0=sx0:=x1
  have hX1:xOf [a,b,c] 1=zeroX:=x2
  have hX2:xOf [a,b,c] 2=sx2:=x3
  have hb:bareB b.x.d b.m=true:=by
   obtain ⟨g,_,_,_,his⟩:=hr 1 (by simp)
   have his:IsP P w b.x b.x.d b.B b.m:=his
   rw [x2] at his ⊢
   exact bare_zero his
  have d1:¬ (⟨#[98]⟩:ByteArray)=⟨#[97]⟩:=by decide
  have d2:¬ (⟨#[98]⟩:ByteArray)=⟨#[99]⟩:=by decide
  have d3:¬ (⟨#[97]⟩:ByteArray)=⟨#[99]⟩:=by decide
  have p97:atF [a.fd,b.fd,c.fd] ⟨#[97]⟩=1:=by
   show atF (⟨a.nm,_,_,_,_,_,_⟩ :: ⟨b.nm,_,_,_,_,_,_⟩ :: _) _=1
   rw [n1,n2]; unfold atF; rw [if_neg d1]; unfold atF; rw [if_pos rfl]
  have p98:atF [a.fd,b.fd,c.fd] ⟨#[98]⟩=0:=by
   show atF (⟨a.nm,_,_,_,_,_,_⟩ :: _) _=0
   rw [n1]; unfold atF; rw [if_pos rfl]
  have p99:atF [a.fd,b.fd,c.fd] ⟨#[99]⟩=2:=by
   show atF (⟨a.nm,_,_,_,_,_,_⟩ :: ⟨b.nm,_,_,_,_,_,_⟩ :: ⟨c.nm,_,_,_,_,_,_⟩ :: _) _=2
   rw [n1,n2,n3]; unfold atF; rw [if_neg d2]; unfold atF; rw [if_neg d3]; unfold atF; rw [if_pos rfl]
  have f97:fieldT (fts [a.fd,b.fd,c.fd]) ⟨#[97]⟩=(1,0):=by
   show fieldT ((a.nm,a.ty) :: (b.nm,b.ty) :: _) _=_
   rw [n1,n2,t2]; unfold fieldT; rw [if_neg d1]; unfold fieldT; rw [if_pos rfl]
  have f98:fieldT (fts [a.fd,b.fd,c.fd]) ⟨#[98]⟩=(1,0):=by
   show fieldT ((a.nm,a.ty) :: _) _=_
   rw [n1,t1]; unfold fieldT; rw [if_pos rfl]
  have hF:Forms w ([a,b,c].map FE.fd) (xOf [a,b,c]):=fun k hk => by
   have hk':k < 3:=by simpa using hk
   obtain ⟨g,_,_,_,his⟩:=hr k (by simpa using hk)
   rw [List.getElem_map,xOf_at _ _ (by simpa using hk)]
   refine ⟨?_,IsP.is _ _ _ _ his⟩
   obtain rfl | rfl | rfl:k=0 ∨ k=1 ∨ k=2:=by omega
   ·show a.nm.size<=_; rw [n1]; decide
   ·show b.nm.size<=_; rw [n2]; decide
   ·show c.nm.size<=_; rw [n3]; decide
  refine ⟨hF,?_,?_⟩
  ·have hr0:rightE a.fd sx0=0:=by
    show rightE ⟨a.nm,a.kind,a.ty,_,_,_,_⟩ _=0
    rw [n1,k1,t1]; unfold rightE
    rw [if_neg (show ¬ LexB.nameE (⟨#[98]⟩:ByteArray).data.toList ≠ 0 by decide),if_pos (show isT 2=true/\isT 1=true by decide),if_neg (show ¬ (2:Int)=1 by decide)]; exact sx0_check
   have hr1:rightE b.fd zeroX=0:=by
    show rightE ⟨b.nm,b.kind,b.ty,b.x.d,_,b.m,_⟩ _=0
    rw [n2,k2,t2]; unfold rightE
    rw [if_neg (show ¬ LexB.nameE (⟨#[97]⟩:ByteArray).data.toList ≠ 0 by decide),if_pos (show isT 1=true/\isT 1=true by decide),if_pos rfl,if_pos hb]
   have hr2:rightE c.fd sx2=0:=by
    show rightE ⟨c.nm,c.kind,c.ty,_,_,_,_⟩ _=0
    rw [n3,k3,t3]; unfold rightE
    rw [if_neg (show ¬ LexB.nameE (⟨#[99]⟩:ByteArray).data.toList ≠ 0 by decide),if_pos (show isT 3=true/\isT 3=true by decide),if_neg (show ¬ (3:Int)=1 by decide)]; exact sx2_check
   have o:∀ j,j < 3->ownE [a.fd,b.fd,c.fd] (xOf [a,b,c]) j=0:=fun j hj => by
    unfold ownE
    rw [dif_pos (show j < [a.fd,b.fd,c.fd].length from hj)]
    match j,hj with
    | 0,_ => show (if rightE a.fd (xOf [a,b,c] 0)=0 then (if atF _ a.nm < 0 then (6:Int) else 0) else _)=0; rw [hX0,if_pos hr0,if_neg (by omega)]
    | 1,_ => show (if rightE b.fd (xOf [a,b,c] 1)=0 then (if atF _ b.nm < 1 then (6:Int) else 0) else _)=0; rw [hX1,if_pos hr1,n2,p97,if_neg (by decide)]
    | 2,_ => show (if rightE c.fd (xOf [a,b,c] 2)=0 then (if atF _ c.nm < 2 then (6:Int) else 0) else _)=0; rw [hX2,if_pos hr2,n3,p99,if_neg (by decide)]
   have t:∀ j,j < 3->typE [a.fd,b.fd,c.fd] (xOf [a,b,c]) j=0:=fun j hj => by
    unfold typE
    rw [dif_pos (show j < [a.fd,b.fd,c.fd].length from hj)]
    match j,hj with
    | 0,_ =>
     show srcE _ a.fd (xOf [a,b,c] 0)=0
     unfold srcE
     show (if a.kind=2 then fitsT _ _ a.ty else _)=0
     rw [if_pos k1,hX0,t1]; unfold fitsT
     rw [ofT_ty sx0_check,sx0_ty _ f97]; rfl
    | 1,_ =>
     show srcE _ b.fd (xOf [a,b,c] 1)=0
     unfold srcE
     show (if b.kind=2 then _ else if b.kind=3 then _ else (0:Int))=0
     rw [k2,if_neg (by decide),if_neg (by decide)]
    | 2,_ =>
     show srcE _ c.fd (xOf [a,b,c] 2)=0
     unfold srcE
     show (if c.kind=2 then _ else if c.kind=3 then (ofT _ _).2 else (0:Int))=0
     rw [k3,if_neg (by decide),if_pos rfl,hX2,ofT_ty sx2_check,sx2_ty _ _ f98]
   show checkF [a.fd,b.fd,c.fd] (xOf [a,b,c])=0
   unfold checkF
   rw [if_neg (by show ¬ 14 < 3; decide)]
   show (if scan (ownE [a.fd,b.fd,c.fd] (xOf [a,b,c])) 3=0 then scan (typE [a.fd,b.fd,c.fd] (xOf [a,b,c])) 3 else _)=0
   rw [scan_zero 3 o,if_pos rfl,scan_zero 3 t]
  ·show [needF [a.fd,b.fd,c.fd] (xOf [a,b,c]) 0,needF [a.fd,b.fd,c.fd] (xOf [a,b,c]) 1,needF [a.fd,b.fd,c.fd] (xOf [a,b,c]) 2]=_
   have e0:needF [a.fd,b.fd,c.fd] (xOf [a,b,c]) 0=[1]:=by
    unfold needF
    rw [dif_pos (by show 0 < 3; decide)]
    show (if a.kind=1 then [] else _)=_
    rw [k1,if_neg (by decide),hX0]
    have:mkL (ofL sx0)=[⟨#[97]⟩]:=by unfold ofL; rw [if_pos sx0_check,sx0_refs]; decide
    rw [this]
    show [plN [a.fd,b.fd,c.fd] ⟨#[97]⟩]=_
    unfold plN; rw [p97]; rfl
   have e1:needF [a.fd,b.fd,c.fd] (xOf [a,b,c]) 1=[]:=by
    unfold needF
    rw [dif_pos (by show 1 < 3; decide)]
    show (if b.kind=1 then [] else _)=_
    rw [k2,if_pos rfl]
   have e2:needF [a.fd,b.fd,c.fd] (xOf [a,b,c]) 2=[0]:=by
    unfold needF
    rw [dif_pos (by show 2 < 3; decide)]
    show (if c.kind=1 then [] else _)=_
    rw [k3,if_neg (by decide),hX2]
    have:mkL (ofL sx2)=[⟨#[98]⟩]:=by unfold ofL; rw [if_pos sx2_check,sx2_refs]; decide
    rw [this]
    show [plN [a.fd,b.fd,c.fd] ⟨#[98]⟩]=_
    unfold plN; rw [p98]; rfl
   rw [e0,e1,e2]
theorem small_rank:rankF [[1],[],[0]]=[1,0,2]:=by decide
end Go.Proofs.YtonlkmkfcaadlaaGreatDoor.RkS
namespace Go.Proofs.YtonlkmkfcaadlaaGreatDoor.RkK
open Go.RowKit
open ValM LexM NumM ExM NmM Kit ExL ExP ExN ExC RawV Within RawL RawN GenL Gen GenT GenV FrmM Frm FldP FldR FldC FrmT FrmO TyM Ty TyG NmG NmO NmI NmR RkM RkA RkB RkC RkD RkO RkS
set_option linter.unusedVariables false
def RankAt (ns:List (List Nat)) (n:Nat) (w:World) (e:Ending) (w':World):Prop :=
 ∃ g cap,e=.returned (.tuple #[.slice (some ⟨g,0,none⟩) n cap,.slice none 0 0,.int .i64 0])/\(∀ j,j < n->w'.cell? ⟨g,j,none⟩=some (.int .i64 (rk (rankF ns) j)))/\w.heap.size<=g/\Below w.heap.size w w'
theorem RankOk.at {ns:List (List Nat)} {n:Nat} (hn:ns.length=n) (h0:0 < n) {w:World} {e:Ending} {w':World} (h:RankOk ns w e w'):RankAt ns n w e w':=by
 obtain ⟨v,rfl,hown,hb⟩:=h
 subst hn
 obtain ⟨g,cap,rfl,hg,_,_,_,hc⟩:=GenL.own_form hown h0
 exact ⟨g,cap,rfl,fun j hj => by rw [hc j (by omega),iV_at _ _ (by rw [rankF_len]; exact hj)],hg,hb⟩
structure FormRank (rs:List Rw) (es:List FE) (FA:Option Addr) (fc:Nat) (w:World):Prop where
 of:∀ V:World,Below w.heap.size w V->Calls Tryz.prog 78 #[.slice FA es.length fc] V (RankAt (needsF (es.map FE.fd) (xOf es)) es.length V)
 base:OfBase rs (es.map FE.fd) (xOf es) (plc rs)
 flds:Flds w FA (es.map FE.fd)
 forms:Forms w (es.map FE.fd) (xOf es)
 ge:∀ i,i < es.length->0<=rk (rankF (needsF (es.map FE.fd) (xOf es))) i/\rk (rankF (needsF (es.map FE.fd) (xOf es))) i<=(plc rs i:Int)
 len:es.length=countV rs
theorem form_rank {rs:List Rw} {es:List FE} {P:Nat->Prop} {w:World} {FA:Option Addr} {fc:Nat} (h:es.map FE.v=formF rs) (hr:FRow P w FA es) (hcap:es.length<=fc/\fc<=maxLen) (hT:Tab w):FormRank rs es FA fc w:=by
 have hB:=form_base h hr
 have hl:(es.map FE.fd).length=es.length:=List.length_map _
 have hlen:es.length=countV rs:=(form_places h).1
 have hge:∀ i,i < es.length->0<=rk (rankF (needsF (es.map FE.fd) (xOf es))) i/\rk (rankF (needsF (es.map FE.fd) (xOf es))) i<=(plc rs i:Int):=fun i hi => by
  refine rankF_ok (m:=plc rs) (fun k hk j hj => ?_) _ i (Nat.le_refl _) (by rw [needsF_len,hl]; exact hi)
  rw [needsF_len] at hk ⊢
  exact hB.needs k hk j hj
 refine ⟨fun V hV => ?_,hB,frow_flds hr,form_forms h hr,hge,hlen⟩
 have h10:=hB.ten
 have:=of_ok (es.map FE.fd) (xOf es) FA fc V (by omega) ((frow_flds hr).below hV) ((form_forms h hr).below hV) (hT.below hV) (by rw [hl]; exact hcap) hB.check (fun i hi => (hge i (by omega)).1)
 rw [hl] at this
 exact this.mono fun e w' hh => RankOk.at (by rw [needsF_len,hl]) (by have:=(countV_bd rs).1; omega) hh
end Go.Proofs.YtonlkmkfcaadlaaGreatDoor.RkK
namespace Go.Proofs.YtonlkmkfcaadlaaGreatDoor.RkR
open Go.RowKit
open ValM LexM NumM ExM NmM Kit ExL ExP ExN ExC RawV Within RawL RawN GenL Gen GenT GenV FrmM Frm FldP FldR FldC FrmT FrmO TyM Ty TyG NmG NmO NmI NmT NmR NmV RkM RkA RkB RkC RkD RkO RkS RkK
set_option linter.unusedVariables false
end Go.Proofs.YtonlkmkfcaadlaaGreatDoor.RkR
namespace Go.Proofs.YtonlkmkfcaadlaaGreatDoor.FcF
open Go.RowKit
open ValM LexM NumM ExM TyM EvM Kit ExL ExP RawV Within RawL RawN GenL FldP EvF FrmM FrmO FrmT FcM InpG
set_option linter.unusedVariables false
structure Own (F:List GenL.Fd):Prop where
 at_:∀ (j:Nat) (h:j < F.length),atF F F[j].nm=j
 ty:∀ (j:Nat) (h:j < F.length),1<=F[j].ty/\F[j].ty<=3
theorem own_base {rs:List Rw} {fs:List GenL.Fd} {X:Nat->Ex} {π:Nat->Nat} (h:OfBase rs fs X π):Own fs :=
 ⟨fun j hj => by rw [h.nm j hj]; exact h.place j hj,fun j hj => by obtain ⟨_,_,a,b⟩:=h.kinds j hj; exact ⟨a,b⟩⟩
theorem vK_ty {t:Int} (h:1<=t/\t<=3):vK t=t:=by
 unfold vK
 split
 ·omega
 ·split <;> omega
theorem told_in {F:List GenL.Fd} (h:Own F) (j:Nat) (hj:j < F.length) (hk:F[j].kind=1) (r:Rw):toldE F (fctOf F[j] r).nm (fctOf F[j] r).v.k (fctOf F[j] r).v.n (fctOf F[j] r).v.s=0/\keyZ (fctOf F[j] r)=true:=by
 have ha:=h.at_ j hj
 refine ⟨?_,rfl⟩
 show toldE F F[j].nm (vK F[j].ty) (vN F[j].ty r.k r.x) (vS F[j].ty r.t)=0
 unfold toldE
 rw [dif_pos (by rw [ha]; exact hj)]
 simp only [ha]
 rw [if_pos hk,if_pos ⟨v_known _ _ _ _,vK_ty (h.ty j hj)⟩]
theorem inp_nd {F:List GenL.Fd} (h:Own F) (rs:List Rw):∀ k,k<=F.length->((inpV rs F k).1.map Fc.nm).Nodup
 | 0,_ => by simp [inpV]
 | k + 1,hk => by
  have ih:=inp_nd h rs k (by omega)
  by_cases hc:F[k].kind=1/\0 < pick (nextV rs (inpV rs F k).2).k 4
  ·rw [inpV_yes (by omega) hc.1 hc.2,List.map_append]
   refine List.pairwise_append.2 ⟨ih,List.pairwise_singleton _ _,fun a ha b hb => ?_⟩
   simp at hb
   subst hb
   obtain ⟨x,hx,rfl⟩:=List.mem_map.1 ha
   obtain ⟨j,hj,r,h1,h2,rfl⟩:=inpV_mem rs F k x hx
   intro e
   have e1:=h.at_ j hj
   have e2:=h.at_ k (by omega)
   have e3:F[j].nm=F[k].nm:=e
   rw [e3,e2] at e1
   omega
  ·rw [inpV_no (by omega) hc]; exact ih
theorem met_nd {L:List Fc} (h:(L.map Fc.nm).Nodup) (i:Nat) (hi:i < L.length):metB L i L[i].nm=false:=by
 unfold metB
 rw [List.any_eq_false]
 intro x hx
 obtain ⟨j,hj,rfl⟩:=List.getElem_of_mem hx
 rw [List.length_take] at hj
 rw [List.getElem_take]
 have:=List.pairwise_iff_getElem.1 h j i (by rw [List.length_map]; omega) (by rw [List.length_map]; exact hi) (by omega)
 rw [List.getElem_map,List.getElem_map] at this
 simpa using this
structure Good (F:List GenL.Fd) (L:List Fc):Prop where
 told:∀ x ∈ L,toldE F x.nm x.v.k x.v.n x.v.s=0/\keyZ x=true
 nd:(L.map Fc.nm).Nodup
theorem good_in {F:List GenL.Fd} (h:Own F) (rs:List Rw):Good F (inpV rs F F.length).1 :=
 ⟨fun x hx => by
  obtain ⟨j,hj,r,_,h2,rfl⟩:=inpV_mem rs F _ x hx
  exact told_in h j hj h2 r,inp_nd h rs _ (Nat.le_refl _)⟩
theorem good_facts {F:List GenL.Fd} {L:List Fc} (h:Good F L):factsE F L=0:=facts_all fun j hj => by
 unfold factE
 obtain ⟨h1,h2⟩:=h.told L[j] (List.getElem_mem hj)
 rw [dif_pos hj,if_pos h1,if_pos h2,met_nd h.nd j hj,if_neg (by decide)]
end Go.Proofs.YtonlkmkfcaadlaaGreatDoor.FcF
namespace Go.Proofs.YtonlkmkfcaadlaaGreatDoor.TxT
open Go.RowKit
open ValM LexM NumM ExM NmM ShowM PrM Ty Kit ExL ExP ExN ExC RawV Within RawL GenL FrmM FldP FldR FldC TyM PgM TxM TxR
set_option linter.unusedVariables false
structure FormOk (w:World) (es:List FE) (ps:List PE) (X:Nat->Ex):Prop where
 fi:FIs w es
 pi:PIs' w ps
 src:Srcs X es
 fields:checkF (es.map FE.fd) X=0
 pages:checkP (es.map FE.fd) ps=0
end Go.Proofs.YtonlkmkfcaadlaaGreatDoor.TxT
namespace Go.Proofs.YtonlkmkfcaadlaaGreatDoor.TxK
open Go.RowKit
open ShE ValM LexM NumM ExM NmM ShowM PrM Ty Kit ExL ExP ExN ExC RawV Within RawL RawN GenL Gen GenT GenV FrmM Frm FldP FldR FldC FrmT FrmO TyM PgM PgA PgF RkM RkA RkD RkO RkS RkK ShT TxM TxR TxT
set_option linter.unusedVariables false
theorem srcs_xOf (es:List FE):Srcs (xOf es) es:=fun i h => xOf_at es i h
theorem gen_ok {rs:List Rw} {es:List FE} {ps:List PE} {P Q:Nat->Prop} {w:World} {FA PA:Option Addr} (hv:es.map FE.v=formF rs) (hr:FRow P w FA es) (hpv:ps.map PE.v=formP rs) (hpr:PRow Q w PA ps) :
  FormOk w es ps (xOf es)/\rankE (es.map FE.fd) (xOf es)=0/\es.length<=10/\ps.length<=4:=by
 obtain ⟨hpl,hgood,hgn,hsz⟩:=form_pages hv hr hpv hpr
 have hB:=form_base hv hr
 have hl:(es.map FE.fd).length=es.length:=List.length_map _
 have h10:=hB.ten
 rw [hl] at h10
 refine ⟨⟨fun i hi => ?_,fun i hi => ?_,srcs_xOf es,hB.check,check_good hgood hgn⟩,?_,h10,hpl.2⟩
 ·obtain ⟨g,_,_,_,his⟩:=hr i hi
  exact his.is
 ·obtain ⟨g,_,_,_,his⟩:=hpr i hi
  exact his.skip.is
 ·unfold rankE
  rw [if_pos hB.check,if_pos]
  intro i hi
  have:=(rankF_ok (ns:=needsF (es.map FE.fd) (xOf es)) (m:=plc rs) (fun k hk j hj => by
   rw [needsF_len] at hk ⊢
   exact hB.needs k hk j hj) _ i (Nat.le_refl _) (by rw [needsF_len]; exact hi)).1
  intro e
  have e:rk (rankF (needsF (es.map FE.fd) (xOf es))) i=-1:=e
  have this:0<=rk (rankF (needsF (es.map FE.fd) (xOf es))) i:=this
  omega
theorem small_ok {es:List FE} {ps:List PE} {P Q:Nat->Prop} {w:World} {FA PA:Option Addr} (hv:es.map FE.v=smallV) (hr:FRow P w FA es) (hpv:ps.map PE.v=smallP) (hpr:PRow Q w PA ps):FormOk w es ps (xOf es):=by
 obtain ⟨hF,hck,hnd⟩:=small_all hv hr
 obtain ⟨hpl,hpck,hsz⟩:=small_pages hv hpv hpr
 refine ⟨fun i hi => ?_,fun i hi => ?_,srcs_xOf es,hck,hpck⟩
 ·obtain ⟨g,_,_,_,his⟩:=hr i hi
  exact his.is
 ·obtain ⟨g,_,_,_,his⟩:=hpr i hi
  exact his.skip.is
theorem prow_caps {P:Nat->Prop} {w:World} {A:Option Addr} {ps:List PE} (h:PRow P w A ps):∀ e ∈ ps,e.fs.length<=1048576/\e.fs.length<=e.fc:=fun e he => by
 obtain ⟨i,hi,rfl⟩:=List.getElem_of_mem he
 obtain ⟨g,_,_,_,his⟩:=h i hi
 exact ⟨by have:=his.len; omega,his.cap⟩
end Go.Proofs.YtonlkmkfcaadlaaGreatDoor.TxK
namespace Go.Proofs.YtonlkmkfcaadlaaGreatDoor.RkF
open Go.RowKit
open ValM LexM NumM ExM NmM Kit ExL ExP ExN ExC RawV Within RawL RawN GenL Gen GenT GenV FrmM Frm FldP FldR FldC FrmT FrmO TyM Ty TyG NmG NmO NmI NmA NmT NmR RkM RkA RkB RkC RkD RkO RkS RkK RkT RkP
set_option linter.unusedVariables false
theorem form_order {rs:List Rw} {es:List FE} {P:Nat->Prop} {w:World} {FA:Option Addr} {fc:Nat} (h:es.map FE.v=formF rs) (hr:FRow P w FA es) (hcap:es.length<=fc/\fc<=maxLen) (hT:Tab w) :
  ∀ V:World,Below w.heap.size w V->Calls Tryz.prog 48 #[.slice FA es.length fc] V (OrderAt (rankF (needsF (es.map FE.fd) (xOf es))) es.length V):=fun V hV => by
 have hR:=form_rank h hr hcap hT
 have hl:(es.map FE.fd).length=es.length:=List.length_map _
 have h10:=hR.base.ten
 have h1:=(countV_bd rs).1
 have:=of_ok (es.map FE.fd) (xOf es) FA fc V (by omega) ((frow_flds hr).below hV) ((form_forms h hr).below hV) (hT.below hV) (by rw [hl]; exact hcap) hR.base.check (fun i hi => (hR.ge i (by omega)).1)
 rw [hl] at this
 exact order_ok _ es.length FA fc V (by rw [needsF_len,hl]) (by rw [hR.len]; exact h1) (by omega) this
end Go.Proofs.YtonlkmkfcaadlaaGreatDoor.RkF
