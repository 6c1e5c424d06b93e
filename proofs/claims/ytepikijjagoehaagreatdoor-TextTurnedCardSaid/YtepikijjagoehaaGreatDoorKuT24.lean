/- FormTop RawOpen NmGen TyGen FrmOf PgForm RkForm ShForm TxKeep ShelfIns TxIns ShelfMore: what these laws name of them. -/
import Derived.Maps.AppendAt
import Derived.Deep.CutBlock
import Derived.Deep.DeepCutAuto
import Derived.Laws.Tables
import Derived.Laws.CopyOwn
import Derived.Deep.MidRow
import Derived.RangeFuncBox
import Derived.Deep.RegionHeld3
import Derived.Deep.AppendLies
import Derived.Deep.RegionLaw
import Derived.OwnWalk
import Derived.Deep.RegionWith
import Derived.RegionTactic
import Derived.BigRegion
import Derived.Laws.OwnMore
import Derived.Laws.Pointers
import Derived.Test.YtepikijjagoehaaGreatDoorChecked
import Derived.WalkKit
import Derived.ProofKit
import Derived.Lib.ConvBytes
import Derived.Lib.AtoiErrMem
import Derived.Laws.IdiomStrings
import Derived.WalkSpells
import Derived.WalkLawsBesides
import Derived.Outline
import Derived.Lib.Hide
import Derived.Deep.LoopGhost
import Derived.Below
import Derived.Deep.Draws
import GoSem.Claim
import Derived.Lib.Bytealg
import Derived.Lib.Small
import Derived.Lib.AtoiAll
import Derived.Test.YtepikijjagoehaaGreatDoorProg
import Derived.IntWalk
import Derived.ChangeAlike
import Derived.Calls
import Derived.Orders
import Derived.OrdersHeld
import Derived.BigQuiet
import Derived.Deep.QuietTactic
import Derived.WalkSmall
import Derived.Deep.Slices
import Derived.OpenShut
import Derived.ChangeSame
import Derived.DataReads
import Derived.RangeFuncNested
import Derived.RangeFuncBound
import Derived.RangeFuncCalls
import Derived.RangeFuncLeaves
import Derived.Shelf.Abstract
import Derived.Shelf.RegionOpen
import Derived.OwnWalkIn
import Derived.TacticsInMore
import Derived.LoopNIn
import Derived.LoopIn
import Derived.ChangeOld
import Derived.Deep.DrawnRows
import Derived.LaidMore
import Derived.LaidLaws
import Derived.ChangeArms
import Derived.Lib.LaidTab
import Derived.WideShapes
import Derived.Maps.Own
import Derived.Maps.OwnSet
import Derived.Maps.Range
import Derived.Maps.RangeWalk
import Derived.Laws.AppendOwnNone
import Derived.Sort.EncStr
import Derived.StringKeys
import Derived.RangeFuncRecord
import Derived.Shelf.Strings.Builder1
import Derived.Shelf.Strings.Builder2
import Derived.Shelf.Strings.OnBuilder
import Derived.Shelf.Small.Bits
import Derived.Shelf.Small.Strs
import Derived.Shelf.Small.Wraps
import Derived.Shelf.Strings.BuilderF
import Derived.Shelf.Strings.BuilderK
import Derived.Shelf.Strconv.Atoi
import Derived.Shelf.Strconv.Itoa0
import Derived.Shelf.Strconv.Itoa1
import Derived.Shelf.LaysM
import Derived.Shelf.Strconv.Itoa2
import Derived.Shelf.Strconv.Itoa3
import Derived.Shelf.Strconv.AtoiErrFast
import Derived.Shelf.Strconv.ParseIntEmpty
import Derived.Shelf.Strconv.AtoiFail
import Derived.Shelf.Strconv.Clone
import Derived.Shelf.Strconv.SyntaxError
import Derived.Shelf.LaysC
import Derived.Shelf.Strconv.ToError
import Derived.Shelf.Strconv.Lower
import Derived.Shelf.Strconv.ParseUint10
import Derived.Shelf.Strconv.ParseUint10Empty
import Derived.Shelf.Strconv.ParseUint10Any
import Derived.Shelf.Strconv.ParseInt10
import Derived.Shelf.Strconv.AtoiLong
import Derived.Shelf.Strconv.AtoiInnerAll
import Derived.Shelf.Strconv.RangeError
import Derived.Shelf.Strconv.ToErrorRange
import Derived.Shelf.Strconv.AtoiAll
import Derived.Shelf.Strconv.ErrVarAll
import Derived.Shelf.Strings.Search1
import Derived.Shelf.Strings.Search2
import Derived.Shelf.Strings.Search3
import Derived.Shelf.Strings.Cut
import Derived.Shelf.Strings.Count
import Derived.Shelf.Strings.Shaped
import Derived.Shelf.Strings.Prefix
import Derived.Shelf.Strings.Split
import Derived.Shelf.Bits.Mul64
import Derived.Shelf.Unicode.DecodeSlow
import Derived.Shelf.Slices.Turned
import Derived.Shelf.Slices.Equal
import Derived.Shelf.Slices.Empties2
import Derived.Ground.SlgfProg
import Derived.Shelf.SlicesE.IndexFunc
import Derived.Ground.SlsfProg
import Derived.Shelf.SlSortCmp.Insertion
import Derived.Ground.SlgmProg
import Derived.Shelf.SortM.Plain
import Derived.Shelf.SortM.SortNone
import Derived.RangeFuncWrites
import Derived.Maps.OwnIn
import Derived.Shelf.SlIter.Nil
import Derived.Ground.GgzProg
import Derived.Lib.UnsafeStr
import Derived.Lib.ItoaNum
import Derived.Lib.AtoiTie
import Derived.Lib.ItoaMem
import Derived.Lib.AppendIntMem
import Derived.Lib.ItoaLen
import Derived.Lib.IndexMore
import Derived.Lib.Split
import Derived.Lib.Strings
import Derived.Lib.ReplaceLaws
import Derived.Lib.CountLaws
import Derived.Lib.SplitLaws
import Derived.Laws.Rows
import Derived.Tactics
import Derived.Tactics2
import Derived.Defers
import Derived.Recover
import Derived.RegionDies
import Derived.Shelf.Spec.SlicesInsertGrow
import Derived.Ground.Names2Prog
import Derived.Laws.AppendOwn
import Derived.Shelf.Utf8.RuneCount
import Derived.Shelf.Strings.SplitShaped
import Derived.Shelf.Unicode.Decode
import Derived.Shelf.Strings.RuneCount
import Derived.Shelf.Strings.Explode
import Derived.Shelf.Unicode.DecodeAny
import Derived.Shelf.Slices.ReverseS
import Derived.Shelf.Slices.Clone
import Derived.Shelf.Slices.SearchI
import Derived.Shelf.Slices.Cells
import Derived.Ground.SlgnProg
import Derived.Shelf.SlicesE.Clone
import Derived.Test.YtepikijjagoehaaGreatDoorKuT01
import Derived.Test.YtepikijjagoehaaGreatDoorKuT04
import Derived.Test.YtepikijjagoehaaGreatDoorKuT05
import Derived.Test.YtepikijjagoehaaGreatDoorKuT08
import Derived.Test.YtepikijjagoehaaGreatDoorKuT09
import Derived.Test.YtepikijjagoehaaGreatDoorKuT10
import Derived.Test.YtepikijjagoehaaGreatDoorKuT12
import Derived.Test.YtepikijjagoehaaGreatDoorKuT13
import Derived.Test.YtepikijjagoehaaGreatDoorKuT14
import Derived.Test.YtepikijjagoehaaGreatDoorKuT19
import Derived.Test.YtepikijjagoehaaGreatDoorKuT20
import Derived.Test.YtepikijjagoehaaGreatDoorKuT23
set_option linter.unusedVariables false
namespace Go.Proofs.YtepikijjagoehaaGreatDoor.KpS
end Go.Proofs.YtepikijjagoehaaGreatDoor.KpS
namespace Go.Proofs.YtepikijjagoehaaGreatDoor.FrmT
open Go.RowKit
open ValM LexM NumM ExM Kit ExL ExP RawV Within RawL RawN GenL Gen GenE GenT GenV FrmM Frm FldP
set_option linter.unusedVariables false
theorem nmK_inj:∀ i,i < 10->∀ j,j < 10->nmK i=nmK j->i=j:=by decide
theorem nmK_none:∀ i,i < 10->nmK i ≠ ⟨#[110,111,110,101]⟩:=by decide
theorem baseV_len (rs:List Rw):(baseV rs).length=countV rs:=fieldsV_len rs _
theorem formF_len (rs:List Rw):(formF rs).length=countV rs:=by
 unfold formF
 split
 ·rw [List.length_reverse,baseV_len]
 ·exact baseV_len rs
def plc (rs:List Rw) (i:Nat):Nat:=if turnB rs=true then countV rs - 1 - i else i
theorem plc_lt (rs:List Rw) (i:Nat) (h:i < countV rs):plc rs i < countV rs:=by unfold plc; split <;> omega
theorem plc_inj (rs:List Rw) (i j:Nat) (hi:i < countV rs) (hj:j < countV rs) (h:plc rs i=plc rs j):i=j:=by unfold plc at h; split at h <;> omega
theorem formF_at (rs:List Rw) (i:Nat) (h:i < (formF rs).length):(formF rs)[i]=(baseV rs)[plc rs i]'(by rw [baseV_len]; exact plc_lt rs i (by rw [← formF_len]; exact h)):=by
 have hl:=formF_len rs
 unfold formF plc
 by_cases ht:turnB rs=true
 ·simp only [if_pos ht,List.getElem_reverse]
  congr 1
  rw [baseV_len]
 ·simp only [if_neg ht]
theorem formF_nm (rs:List Rw) (i:Nat) (h:i < (formF rs).length):(formF rs)[i].nm=nmK (plc rs i):=by
 rw [formF_at rs i h]
 exact fieldsV_nm rs _ _ _
theorem frow_flds {P:Nat->Prop} {w:World} {A:Option Addr} {es:List FE} (h:FRow P w A es):Flds w A (es.map FE.fd):=fun i hi => by
 have hi':i < es.length:=by simpa using hi
 obtain ⟨g,e,_,hc,_⟩:=h i hi'
 refine ⟨_,e,?_⟩
 rw [add_block,List.getElem_map]
 exact fdAt_of hc
theorem fe_at {rs:List Rw} {es:List FE} (h:es.map FE.v=formF rs) (i:Nat) (hi:i < es.length) (hj:i < (formF rs).length):es[i].v=(formF rs)[i]:=by
 have:(es.map FE.v)[i]'(by simpa using hi)=(formF rs)[i]:=by simp only [h]
 rw [← this,List.getElem_map]
theorem form_places {rs:List Rw} {es:List FE} (h:es.map FE.v=formF rs):(es.length=countV rs)/\(∀ (i:Nat) (hi:i < es.length),atF (es.map FE.fd) (es[i].nm)=i/\es[i].nm.size<=4)/\atF (es.map FE.fd) ⟨#[110,111,110,101]⟩=es.length:=by
 have hl:es.length=(formF rs).length:=by rw [← h,List.length_map]
 have hc:es.length=countV rs:=by rw [hl,formF_len]
 have hb:=countV_bd rs
 have hn:∀ (i:Nat) (hi:i < es.length),es[i].nm=nmK (plc rs i):=fun i hi => by
  have:=fe_at h i hi (by omega)
  rw [← formF_nm rs i (by omega),← this]; rfl
 have hf:∀ (j:Nat) (hj:j < (es.map FE.fd).length),(es.map FE.fd)[j].nm=nmK (plc rs j):=fun j hj => by
  rw [List.getElem_map]; exact hn j (by simpa using hj)
 refine ⟨hc,fun i hi => ⟨?_,by rw [hn i hi]; exact nmK_size _⟩,?_⟩
 ·refine atF_eq _ _ i (by simpa using hi) (fun j hj hji e => ?_) ?_
  ·have hj':j < es.length:=by simpa using hj
   rw [hf j hj,hn i hi] at e
   have h1:=plc_lt rs j (by omega)
   have h2:=plc_lt rs i (by omega)
   have:=plc_inj rs j i (by omega) (by omega) (nmK_inj _ (by omega) _ (by omega) e)
   omega
  ·rw [hf i (by simpa using hi),hn i hi]
 ·have:=atF_none (fs:=es.map FE.fd) (s:=⟨#[110,111,110,101]⟩) fun j hj e => by
   have hj':j < es.length:=by simpa using hj
   rw [hf j hj] at e
   exact nmK_none _ (by have:=plc_lt rs j (by omega); omega) e
  rw [this,List.length_map]
theorem cell_blk {W:World} {b:Nat} {cs:Array Value} {t:TypeId} {fr:Nat × Nat} (h:W.heap[b]?=some (.cells cs t fr)) (o:Nat):W.cell? ⟨b,o,none⟩=cs[o]?:=by unfold World.cell?; rw [h]; rfl
end Go.Proofs.YtepikijjagoehaaGreatDoor.FrmT
namespace Go.Proofs.YtepikijjagoehaaGreatDoor.RawO
open Go.ChangeShapes Go.WideShapes Go.ChangeAt Go.RowKit Go.Deep
open RawL
set_option linter.unusedVariables false
theorem len4 {α:Type} {l:List α} (h:l.length=4):∃ a b c d,l=[a,b,c,d]:=by
 match l,h with
 | [a,b,c,d],_ => exact ⟨a,b,c,d,rfl⟩
theorem row_raw {H:Type} {enc:TypeId × Value->H} {W:World} {fuel:Nat} {cs:List Value} {y:DataW H × List MemPlace}
  (h:DataW.trod enc Tryz.prog W 0 (fun _ => true) true fuel 88 cs=some y):∃ k x z t,cs=[.int .i64 k,.int .i64 x,.int .i64 z,.string t]/\(Lit.int .i64 k).wf=true/\(Lit.int .i64 x).wf=true/\(Lit.int .i64 z).wf=true/\t.size<=maxLen:=by
 obtain ⟨ys,f1,hfu,hx,hl,hlen,hf⟩:=DataW.trod_struct Tryz.underlying88 h
 have hC:Tryz.prog.cellsOf 88=4:=by kernel_rfl
 rw [hC] at hl
 obtain ⟨d0,d1,d2,d3,rfl⟩:=len4 hl
 obtain ⟨y0,y1,y2,y3,rfl⟩:=len4 (show ys.length=4 from hlen)
 have g0:=hf 0 _ rfl
 have g1:=hf 1 _ rfl
 have g2:=hf 2 _ rfl
 have g3:=hf 3 _ rfl
 have c0:Tryz.prog.cellsOf 3=1:=by kernel_rfl
 have c2:Tryz.prog.cellsOf 9=1:=by kernel_rfl
 simp [c0] at g0 g1 g2
 simp [c2] at g3
 obtain ⟨k,e0,_,w0⟩:=DataW.trod_int Tryz.underlying3 g0
 obtain ⟨x,e1,_,w1⟩:=DataW.trod_int Tryz.underlying3 g1
 obtain ⟨z,e2,_,w2⟩:=DataW.trod_int Tryz.underlying3 g2
 obtain ⟨t,e3,_,w3⟩:=DataW.trod_string Tryz.underlying9 g3
 simp only [List.cons.injEq,and_true] at e0 e1 e2 e3
 subst e0 e1 e2 e3
 exact ⟨k,x,z,t,rfl,w0,w1,w2,w3⟩
set_option maxRecDepth 100000 in
theorem open_raws {H:Type} {enc:TypeId × Value->H} {W:World} {base:Nat} {v:Value} {d:DataW H} {p:List MemPlace}
  (hv:Value.okWide Tryz.prog W .any base 31 v) (h:DataW.Trod enc Tryz.prog W 0 (fun _ => true) true 31 v d p) :
  ∃ A n c,v=.slice A n c/\Raws W A n c:=by
 obtain ⟨A,n,c,rfl⟩:=okWide_slice Tryz.underlying31 hv
 obtain ⟨fuel,hf⟩:=h
 have hC:Tryz.prog.cellsOf 88=4:=by kernel_rfl
 refine ⟨A,n,c,rfl,?_⟩
 rcases open_slice Tryz.underlying31 hf with ⟨e,_⟩ | ⟨a,len,cap,m,f,D,Pl,e,_,hl,hc,hm,_,hel⟩
 ·have e':[Value.slice A n c]=[.slice none 0 0]:=e
  injection e' with e1 _
  injection e1 with e1 e2 e3
  subst e1 e2 e3
  exact ⟨Nat.le_refl _,Nat.zero_le _,fun i hi => absurd hi (by omega)⟩
 ·have e':[Value.slice A n c]=[.slice (some a) len cap]:=e
  injection e' with e1 _
  injection e1 with e1 e2 e3
  subst e1 e2 e3
  refine ⟨hl,hc,fun i hi => ?_⟩
  have hmi:i < m:=by rw [hm]; split <;> omega
  obtain ⟨cs',hcs,htr⟩:=hel i hmi
  rw [hC] at hcs
  obtain ⟨_,hcl,hat⟩:=World.cells?_some hcs
  obtain ⟨k,x,z,t,rfl,w0,w1,w2,w3⟩:=row_raw htr
  have h0:=hat 0 (by decide); have h1:=hat 1 (by decide); have h2:=hat 2 (by decide); have h3:=hat 3 (by decide)
  have ad:∀ (p:Addr) (j:Nat),j ≠ 0->p.add j=⟨p.block,p.off + j,none⟩:=fun p j hj => by unfold Addr.add; rw [if_neg hj]
  rw [ad _ _ (by decide)] at h1 h2 h3
  rw [show ∀ p:Addr,p.add 0=p from fun p => by unfold Addr.add; rw [if_pos rfl]] at h0
  exact ⟨a,k,x,z,t,rfl,h0,h1,h2,h3,w0,w1,w2,w3⟩
end Go.Proofs.YtepikijjagoehaaGreatDoor.RawO
namespace Go.Proofs.YtepikijjagoehaaGreatDoor.NmG
open Go.RowKit
open ValM LexM NumM ExM NmM Kit ExL ExP ExV RawL GenL Gen GenT NmP
set_option linter.unusedVariables false
theorem gn_refs {fs:List GenL.Fd}:∀ (k:Nat) (kind:Int) (x:Ex),Gn fs k kind x->∀ s ∈ Ex.refs x,∃ f ∈ fs,f.nm=s:=by
 have leaf:∀ (kind:Int) (d:Nd),LeafD fs kind d->∀ s ∈ Ex.refs (.mk d []),∃ f ∈ fs,f.nm=s:=fun kind d hl s hs => by
  rcases hl with ⟨h1,_⟩ | ⟨h1,_,_,_,f,hf,h6,_⟩
  ·rw [refs_mk_neg d [] (by omega),refsL_nil] at hs; simp at hs
  ·rw [refs_mk_pos d [] h1,refsL_nil] at hs
   simp at hs; subst hs
   exact ⟨f,hf,h6⟩
 intro k
 induction k with
 | zero =>
  intro kind x h s hs
  obtain ⟨d,rfl,hl⟩:=h
  exact leaf kind d hl s hs
 | succ k ih =>
  intro kind x h s hs
  rcases h with ⟨d,rfl,hl⟩ | ⟨op,ks,l,rfl,hop,hlen,hl⟩
  ·exact leaf kind d hl s hs
  ·have hne:op ≠ 2:=by
    rcases hop with ⟨h,_⟩ | ⟨_,⟨h,_⟩ | ⟨h,_⟩ | ⟨h,_⟩⟩ | ⟨_,⟨h,_⟩ | ⟨h,_⟩ | ⟨j,_,_,h,_⟩⟩ | ⟨_,_,h,_⟩ <;> omega
   rw [refs_mk_neg _ l hne] at hs
   have:∀ (l:List Ex),(∀ x ∈ l,∀ s ∈ Ex.refs x,∃ f ∈ fs,f.nm=s)->∀ s ∈ refsL l,∃ f ∈ fs,f.nm=s:=by
    intro l
    induction l with
    | nil => intro _ s hs; rw [refsL_nil] at hs; simp at hs
    | cons y l ihl =>
     intro hl s hs
     rw [refsL_cons,List.mem_append] at hs
     rcases hs with hs | hs
     ·exact hl y (by simp) s hs
     ·exact ihl (fun z hz => hl z (by simp [hz])) s hs
   refine this l (fun x hx => ?_) s hs
   obtain ⟨i,hi,rfl⟩:=List.getElem_of_mem hx
   exact ih _ _ (hl i hi (by omega))
end Go.Proofs.YtepikijjagoehaaGreatDoor.NmG
namespace Go.Proofs.YtepikijjagoehaaGreatDoor.TyG
open Go.RowKit
open ValM LexM NumM ExM NmM Kit ExL ExP ExV RawL GenL Gen GenT NmP NmG TyM Ty
set_option linter.unusedVariables false
theorem errL_zero (ks:List Int):errL (ks.map fun k => (k,(0:Int)))=0:=by
 induction ks with
 | nil => rfl
 | cons k r ih => rw [List.map_cons,errL,if_pos rfl,ih]
theorem vK_id {kind:Int} (h1:1<=kind) (h3:kind<=3):RawV.vK kind=kind:=by
 unfold RawV.vK
 split
 ·omega
 ·split <;> omega
theorem opT_ty {op:Int} {ks:List Int} {kind:Int} (h1:1<=kind) (h3:kind<=3) (h:OpT op ks kind):applyR (ruleReq op) (ruleRes op) ks=(kind,0)/\(∀ k ∈ ks,1<=k/\k<=3)/\op ≠ 1/\op ≠ 2:=by
 have hk:kind=1 ∨ kind=2 ∨ kind=3:=by omega
 rcases h with ⟨rfl,rfl⟩ | ⟨rfl,⟨rfl,rfl⟩ | ⟨rfl,rfl⟩ | ⟨a,b,rfl⟩⟩ | ⟨rfl,⟨rfl,rfl⟩ | ⟨a,b,rfl⟩ | ⟨j,j1,j3,a,b,rfl⟩⟩ | ⟨k1,k2,rfl,rfl⟩
 ·rcases hk with rfl | rfl | rfl <;> exact ⟨by decide,by decide,by decide,by decide⟩
 ·exact ⟨by decide,by decide,by decide,by decide⟩
 ·exact ⟨by decide,by decide,by decide,by decide⟩
 ·have:op=5 ∨ op=6 ∨ op=7 ∨ op=8 ∨ op=9:=by omega
  rcases this with rfl | rfl | rfl | rfl | rfl <;> exact ⟨by decide,by decide,by decide,by decide⟩
 ·exact ⟨by decide,by decide,by decide,by decide⟩
 ·have:op=15 ∨ op=16:=by omega
  rcases this with rfl | rfl <;> exact ⟨by decide,by decide,by decide,by decide⟩
 ·have:op=11 ∨ op=12 ∨ op=13 ∨ op=14:=by omega
  have hj:j=1 ∨ j=2 ∨ j=3:=by omega
  rcases this with rfl | rfl | rfl | rfl <;> rcases hj with rfl | rfl | rfl <;> exact ⟨by decide,by decide,by decide,by decide⟩
 ·obtain rfl:kind=3:=by omega
  exact ⟨by decide,by decide,by decide,by decide⟩
theorem ofT_ty {fs:List (ByteArray × Int)} {x:Ex} (h:x.checkE=0):ofT fs x=Ex.ty fs x:=by unfold ofT; rw [if_pos h]
end Go.Proofs.YtepikijjagoehaaGreatDoor.TyG
namespace Go.Proofs.YtepikijjagoehaaGreatDoor.FrmO
open Go.RowKit
open ValM LexM NumM ExM NmM Kit ExL ExP ExN ExC RawV Within RawL RawN GenL Gen GenT GenV FrmM Frm FldP FldR FldC FrmT TyM Ty TyG NmG
set_option linter.unusedVariables false
def fdOf (v:FV):GenL.Fd:=⟨v.nm,v.kind,v.ty,v.x.d,none,0,0⟩
theorem nts_fdOf (l:List FV):nts (l.map fdOf)=fvs l:=by unfold nts fvs; rw [List.map_map]; rfl
theorem gn_ty2 {fs:List GenL.Fd} {G:List (ByteArray × Int)} (hfs:∀ f ∈ fs,fieldT G f.nm=(f.ty,0)):∀ (k:Nat) (kind:Int) (x:Ex),1<=kind->kind<=3->Gn fs k kind x->Ex.ty G x=(kind,0):=by
 have leaf:∀ (kind:Int) (d:Nd),1<=kind->kind<=3->LeafD fs kind d->Ex.ty G (.mk d [])=(kind,0):=fun kind d h1 h3 hl => by
  rw [ty_mk,tyL_nil]
  unfold tyN
  rcases hl with ⟨g1,_,g3,_⟩ | ⟨g1,_,_,_,f,hf,g5,g6⟩
  ·rw [if_pos g1,g3,vK_id h1 h3]
  ·rw [if_neg (by omega),if_pos g1,← g5,hfs f hf,g6]
 intro k
 induction k with
 | zero =>
  intro kind x h1 h3 h
  obtain ⟨d,rfl,hl⟩:=h
  exact leaf kind d h1 h3 hl
 | succ k ih =>
  intro kind x h1 h3 h
  rcases h with ⟨d,rfl,hl⟩ | ⟨op,ks,l,rfl,hop,hlen,hl⟩
  ·exact leaf kind d h1 h3 hl
  ·obtain ⟨e1,e2,e3,e4⟩:=opT_ty h1 h3 hop
   have hty:tyL G l=ks.map fun k => (k,(0:Int)):=by
    rw [tyL_map]
    refine List.ext_getElem (by rw [List.length_map,List.length_map,hlen]) fun i hi hj => ?_
    rw [List.length_map] at hi hj
    rw [List.getElem_map,List.getElem_map]
    have hb:=e2 ks[i] (List.getElem_mem hj)
    exact ih _ _ hb.1 hb.2 (hl i hi hj)
   rw [ty_mk,hty]
   unfold tyN
   rw [if_neg e3,if_neg e4,if_pos (errL_zero ks),List.map_map]
   have:(List.map ((fun p:Int × Int => p.1) ∘ fun k => (k,(0:Int))) ks)=ks:=by
    rw [show ((fun p:Int × Int => p.1) ∘ fun k:Int => (k,(0:Int)))=id from rfl,List.map_id]
   rw [this]; exact e1
theorem fieldsV_take (rs : List Rw) : ∀ (n k : Nat), k ≤ n → (fieldsV rs n).1.take k = (fieldsV rs k).1
  | 0, k, h => by obtain rfl : k = 0 := by omega
                  rfl
  | n + 1, k, h => by
    by_cases e : k = n + 1
    · subst e; exact List.take_of_length_le (Nat.le_of_eq (fieldsV_len rs _))
    · have : (fieldsV rs (n + 1)).1 = (fieldsV rs n).1 ++ [_] := rfl
      rw [this, List.take_append_of_le_length (by rw [fieldsV_len]; omega)]
      exact fieldsV_take rs n k (by omega)
def aheadF (rs:List Rw) (i:Nat):List GenL.Fd:=((baseV rs).take i).map fdOf
structure BaseF (rs:List Rw) (i:Nat) (f:FV):Prop where
 nm:f.nm=nmK i
 kd:1<=f.kind/\f.kind<=3
 ty:1<=f.ty/\f.ty<=3
 inp:f.kind=1->f.x=zeroX
 fml:f.kind=2->Gn (aheadF rs i) 2 f.ty f.x
 lkp:f.kind=3->∃ k,1<=k/\k<=3/\Gn (aheadF rs i) 1 k f.x
theorem base_at (rs:List Rw) (i:Nat) (h:i < (baseV rs).length):BaseF rs i (baseV rs)[i]:=by
 have hlen:=baseV_len rs
 have key:∀ (l:List FV) (z:FV) (h:l.length < (l ++ [z]).length),(l ++ [z])[l.length]=z:=fun l z h => by simp
 have ht1:(baseV rs).take (i + 1)=(fieldsV rs (i + 1)).1:=fieldsV_take rs _ _ (by omega)
 have ht:(baseV rs).take i=(fieldsV rs i).1:=fieldsV_take rs _ _ (by omega)
 have hli:=fieldsV_len rs i
 obtain ⟨a,ha⟩:∃ a,(fieldsV rs i).2=a:=⟨_,rfl⟩
 have e:(baseV rs)[i]=⟨nmK i,1 + pick (nextV rs a).k 3,1 + pick (nextV rs a).y 3,(srcV rs (fieldsV rs i).1 a).1⟩:=by
  have h1:(baseV rs)[i]=((baseV rs).take (i + 1))[i]'(by rw [List.length_take]; omega):=by rw [List.getElem_take]
  have h2:((baseV rs).take (i + 1))[i]'(by rw [List.length_take]; omega)=(fieldsV rs (i + 1)).1[i]'(by rw [fieldsV_len]; omega):=by simp only [ht1]
  rw [h1,h2]
  have h3:(fieldsV rs (i + 1)).1[i]'(by rw [fieldsV_len]; omega)=(fieldsV rs (i + 1)).1[(fieldsV rs i).1.length]'(by rw [fieldsV_len,fieldsV_len]; omega):=by congr 1; exact hli.symm
  rw [h3,← ha]
  exact key _ _ (by simp)
 have hk:=pick_bd (nextV rs a).k 3 (by decide)
 have hy:=pick_bd (nextV rs a).y 3 (by decide)
 have hx:=pick_bd (nextV rs a).x 3 (by decide)
 have hF:nts (aheadF rs i)=fvs (fieldsV rs i).1:=by unfold aheadF; rw [ht]; exact nts_fdOf _
 rw [e]
 refine ⟨rfl,⟨by show 1<=1 + _; omega,by show 1 + _<=3; omega⟩,⟨by show 1<=1 + _; omega,by show 1 + _<=3; omega⟩,fun h => ?_,fun h => ?_,fun h => ?_⟩
 ·have h:1 + pick (nextV rs a).k 3=1:=h
  show (srcV rs (fieldsV rs i).1 a).1=_
  unfold srcV
  rw [if_neg (by omega),if_neg (by omega)]
 ·have h:1 + pick (nextV rs a).k 3=2:=h
  show Gn _ _ (1 + pick (nextV rs a).y 3) (srcV rs (fieldsV rs i).1 a).1
  unfold srcV
  rw [if_pos h,← hF]
  exact exprV_gn 2 _ _
 ·have h:1 + pick (nextV rs a).k 3=3:=h
  refine ⟨1 + pick (nextV rs a).x 3,by omega,by omega,?_⟩
  show Gn _ _ _ (srcV rs (fieldsV rs i).1 a).1
  unfold srcV
  rw [if_neg (by omega),if_pos h,← hF]
  exact exprV_gn 1 _ _
theorem nmK_ok:∀ i,i < 10->nmB (nmK i).data.toList=true/\LexB.nameE (nmK i).data.toList=0:=by decide
structure OfBase (rs:List Rw) (fs:List GenL.Fd) (X:Nat->Ex) (π:Nat->Nat):Prop where
 len:fs.length=countV rs
 lt:∀ i,i < fs.length->π i < fs.length
 inj:∀ i j,i < fs.length->j < fs.length->π i=π j->i=j
 sur:∀ j,j < fs.length->∃ i,i < fs.length/\π i=j
 at':∀ (i:Nat) (h:i < fs.length) (hb:π i < (baseV rs).length),fs[i].nm=(baseV rs)[π i].nm/\fs[i].kind=(baseV rs)[π i].kind/\fs[i].ty=(baseV rs)[π i].ty/\X i=(baseV rs)[π i].x/\(X i=zeroX->bareB fs[i].d fs[i].n=true)
namespace OfBase
variable {rs:List Rw} {fs:List GenL.Fd} {X:Nat->Ex} {π:Nat->Nat}
theorem ten (h:OfBase rs fs X π):fs.length<=10:=by rw [h.len]; exact (countV_bd rs).2
theorem bl (h:OfBase rs fs X π) {i:Nat} (hi:i < fs.length):π i < (baseV rs).length:=by rw [baseV_len,← h.len]; exact h.lt i hi
theorem base (h:OfBase rs fs X π) (i:Nat) (hi:i < fs.length):∃ f,BaseF rs (π i) f/\fs[i].nm=f.nm/\fs[i].kind=f.kind/\fs[i].ty=f.ty/\X i=f.x/\(X i=zeroX->bareB fs[i].d fs[i].n=true) :=
 ⟨_,base_at rs (π i) (h.bl hi),h.at' i hi (h.bl hi)⟩
theorem nm (h:OfBase rs fs X π) (i:Nat) (hi:i < fs.length):fs[i].nm=nmK (π i):=by
 obtain ⟨f,hf,h1,_⟩:=h.base i hi
 rw [h1,hf.nm]
theorem place (h:OfBase rs fs X π) (i:Nat) (hi:i < fs.length):atF fs (nmK (π i))=i:=by
 refine atF_eq _ _ i hi (fun j hj hji e => ?_) (h.nm i hi)
 rw [h.nm j hj] at e
 have h1:=h.lt j hj
 have h2:=h.lt i hi
 have h3:=h.ten
 have:=h.inj j i hj hi (nmK_inj _ (by omega) _ (by omega) e)
 omega
theorem ahead (h:OfBase rs fs X π) {i:Nat} (hi:i < fs.length):∀ f ∈ aheadF rs (π i),∃ j,j < fs.length/\π j < π i/\f.nm=nmK (π j)/\nmB f.nm.data.toList=true/\fieldT (fts fs) f.nm=(f.ty,0):=fun f hf => by
 unfold aheadF at hf
 obtain ⟨v,hv,rfl⟩:=List.mem_map.1 hf
 obtain ⟨m,hm,rfl⟩:=List.getElem_of_mem hv
 rw [List.length_take,baseV_len] at hm
 rw [List.getElem_take]
 have hml:m < (baseV rs).length:=by rw [baseV_len]; omega
 have hb:=base_at rs m hml
 have hl:=h.len
 obtain ⟨j,hj,e⟩:=h.sur m (by omega)
 have h10:=h.ten
 have hnm:(fdOf (baseV rs)[m]).nm=nmK m:=hb.nm
 refine ⟨j,hj,by omega,by rw [hnm,e],by rw [hnm]; exact (nmK_ok m (by omega)).1,?_⟩
 have hT:=fieldT_fts (fs:=fs) (s:=nmK m) hj (fun q hq hqj eq => by
  rw [h.nm q hq] at eq
  have:=h.inj q j hq hj (nmK_inj _ (by have:=h.lt q hq; omega) _ (by omega) (eq.trans (by rw [e])))
  omega) (by rw [h.nm j hj,e])
 rw [hnm,hT]
 have h3:=(h.at' j hj (h.bl hj)).2.2.1
 have h4:(baseV rs)[π j]'(h.bl hj)=(baseV rs)[m]'(by rw [baseV_len]; omega):=by simp only [e]
 rw [h3,h4]; rfl
theorem src (h:OfBase rs fs X π) (i:Nat) (hi:i < fs.length) (hk:fs[i].kind ≠ 1):(X i).checkE=0/\(∃ k,Ex.ty (fts fs) (X i)=(k,0)/\(fs[i].kind=2->k=fs[i].ty))/\∀ s ∈ Ex.refs (X i),∃ j,j < fs.length/\π j < π i/\s=nmK (π j):=by
 obtain ⟨f,hf,_,h2,h3,h4,_⟩:=h.base i hi
 have ha:=h.ahead hi
 have key:∀ (n:Nat) (k:Int) (x:Ex),n<=2->1<=k->k<=3->Gn (aheadF rs (π i)) n k x->x.checkE=0/\Ex.ty (fts fs) x=(k,0)/\∀ s ∈ Ex.refs x,∃ j,j < fs.length/\π j < π i/\s=nmK (π j):=fun n k x hn h1 h2 hg => by
  obtain ⟨g1,g2,g3⟩:=gn_ok (fun f hf => by obtain ⟨_,_,_,_,h,_⟩:=ha f hf; exact h) n k x hg
  have hb:nb n<=nb 2:=by
   rcases (by omega:n=0 ∨ n=1 ∨ n=2) with rfl | rfl | rfl <;> decide
  have e2:nb 2=13:=rfl
  refine ⟨by rw [checkE_ok (by omega) (by omega)]; exact g1,gn_ty2 (fun f hf => by obtain ⟨_,_,_,_,_,h⟩:=ha f hf; exact h) n k x h1 h2 hg,fun s hs => ?_⟩
  obtain ⟨f,hf,e⟩:=gn_refs n k x hg s hs
  obtain ⟨j,q1,q2,q3,_⟩:=ha f hf
  exact ⟨j,q1,q2,by rw [← e,q3]⟩
 rw [h2] at hk
 have hkd:=hf.kd
 by_cases h2k:f.kind=2
 ·obtain ⟨a,b,c⟩:=key 2 f.ty f.x (by omega) hf.ty.1 hf.ty.2 (hf.fml h2k)
  rw [h4]
  exact ⟨a,⟨f.ty,b,fun _ => h3.symm⟩,c⟩
 ·obtain ⟨k,k1,k3,hg⟩:=hf.lkp (by omega)
  obtain ⟨a,b,c⟩:=key 1 k f.x (by omega) k1 k3 hg
  rw [h4]
  exact ⟨a,⟨k,b,fun e => absurd (h2.symm.trans e) h2k⟩,c⟩
theorem kinds (h:OfBase rs fs X π) (i:Nat) (hi:i < fs.length):1<=fs[i].kind/\fs[i].kind<=3/\1<=fs[i].ty/\fs[i].ty<=3:=by
 obtain ⟨f,hf,_,h2,h3,_⟩:=h.base i hi
 rw [h2,h3]; exact ⟨hf.kd.1,hf.kd.2,hf.ty.1,hf.ty.2⟩
theorem check (h:OfBase rs fs X π):checkF fs X=0:=by
 have h10:=h.ten
 have hr:∀ (i:Nat) (hi:i < fs.length),rightE fs[i] (X i)=0:=fun i hi => by
  obtain ⟨f,hf,h1,h2,h3,h4,h5⟩:=h.base i hi
  obtain ⟨a,b,c,d⟩:=h.kinds i hi
  have hn:LexB.nameE fs[i].nm.data.toList=0:=by rw [h.nm i hi]; exact (nmK_ok _ (by have:=h.lt i hi; omega)).2
  unfold rightE
  rw [if_neg (fun g => g hn),if_pos ⟨isT_iff.2 ⟨a,b⟩,isT_iff.2 ⟨c,d⟩⟩]
  by_cases hk:fs[i].kind=1
  ·rw [if_pos hk,if_pos (h5 (by rw [h4]; exact hf.inp (by rw [← h2]; exact hk)))]
  ·rw [if_neg hk]; exact (h.src i hi hk).1
 have h1:∀ j,j < fs.length->ownE fs X j=0:=fun j hj => by
  unfold ownE
  rw [dif_pos hj,if_pos (hr j hj),h.nm j hj,h.place j hj,if_neg (Nat.lt_irrefl _)]
 have h2:∀ j,j < fs.length->typE fs X j=0:=fun j hj => by
  unfold typE srcE
  rw [dif_pos hj]
  by_cases hk:fs[j].kind=1
  ·rw [if_neg (by omega),if_neg (by omega)]
  ·obtain ⟨c1,⟨k,c2,c3⟩,_⟩:=h.src j hj hk
   have ho:=ofT_ty (fs:=fts fs) c1
   by_cases h2:fs[j].kind=2
   ·rw [if_pos h2]
    unfold fitsT
    rw [ho,c2,if_pos rfl,if_pos (c3 h2)]
   ·rw [if_neg h2]
    obtain ⟨_,b,_⟩:=h.kinds j hj
    split
    ·rw [ho,c2]
    ·rfl
 unfold checkF
 rw [if_neg (by omega),scan_zero _ h1,if_pos rfl,scan_zero _ h2]
end OfBase
def xOf (es:List FE) (k:Nat):Ex:=(es[k]?.map FE.x).getD zeroX
theorem xOf_at (es:List FE) (k:Nat) (h:k < es.length):xOf es k=es[k].x:=by unfold xOf; rw [List.getElem?_eq_getElem h]; rfl
theorem bare_zero {P:Nat->Prop} {w:World} {d:Nd} {A:Option Addr} {n:Nat} (h:IsP P w zeroX d A n):bareB d n=true:=by
 unfold zeroX at h
 rw [IsP] at h
 obtain ⟨rfl,rfl,_⟩:=h
 decide
theorem form_base {rs:List Rw} {es:List FE} {P:Nat->Prop} {w:World} {A:Option Addr} (h:es.map FE.v=formF rs) (hr:FRow P w A es):OfBase rs (es.map FE.fd) (xOf es) (plc rs):=by
 obtain ⟨hc,_,_⟩:=form_places h
 have hl:(es.map FE.fd).length=countV rs:=by rw [List.length_map,hc]
 refine ⟨hl,fun i hi => by rw [hl] at hi ⊢; exact plc_lt rs i hi,fun i j hi hj e => by rw [hl] at hi hj; exact plc_inj rs i j hi hj e,fun j hj => ?_,fun i hi hb => ?_⟩
 ·rw [hl] at hj ⊢
  refine ⟨plc rs j,plc_lt rs j hj,?_⟩
  unfold plc; split <;> omega
 ·have hi':i < es.length:=by simpa using hi
  have hj:i < (formF rs).length:=by rw [formF_len,← hl]; exact hi
  have e:=fe_at h i hi' hj
  rw [formF_at rs i hj] at e
  rw [List.getElem_map,xOf_at es i hi']
  obtain ⟨g,_,_,_,his⟩:=hr i hi'
  refine ⟨congrArg FV.nm e,congrArg FV.kind e,congrArg FV.ty e,congrArg FV.x e,fun hz => ?_⟩
  show bareB es[i].x.d es[i].m=true
  rw [hz] at his ⊢
  exact bare_zero his
theorem form_forms {rs:List Rw} {es:List FE} {P:Nat->Prop} {w:World} {A:Option Addr} (h:es.map FE.v=formF rs) (hr:FRow P w A es):Forms w (es.map FE.fd) (xOf es):=fun k hk => by
 have hk':k < es.length:=by simpa using hk
 obtain ⟨g,_,_,_,his⟩:=hr k hk'
 rw [List.getElem_map,xOf_at es k hk']
 refine ⟨?_,IsP.is _ _ _ _ his⟩
 have:=((form_places h).2.1 k hk').2
 show es[k].nm.size<=maxLen
 unfold maxLen; omega
end Go.Proofs.YtepikijjagoehaaGreatDoor.FrmO
namespace Go.Proofs.YtepikijjagoehaaGreatDoor.PgF
open Go.RowKit
open ValM LexM NumM ExM NmM Kit ExL ExP ExN ExC RawV Within RawL RawN GenL Gen GenT GenV FrmM Frm FldP FldR FldC FrmT TyM Ty TyG NmG FrmO PgM
set_option linter.unusedVariables false
structure Good (fs:List GenL.Fd) (ps:List PE):Prop where
 few:1<=ps.length/\ps.length<=6
 nm:∀ (k:Nat) (h:k < ps.length),LexB.nameE ps[k].nm.data.toList=0
 inj:∀ (j k:Nat) (hj:j < ps.length) (hk:k < ps.length),ps[j].nm=ps[k].nm->j=k
 sk:∀ (k:Nat) (h:k < ps.length),bareB ps[k].x.d ps[k].m=true ∨ fitsT (fts fs) ps[k].x 2=0
structure GoodN (fs:List GenL.Fd) (ps:List PE):Prop where
 at':∀ (k:Nat) (h:k < ps.length),∀ s ∈ ps[k].fs,atF fs s < fs.length
 one:∀ (j k:Nat) (hj:j < ps.length) (hk:k < ps.length) (s:ByteArray),s ∈ ps[j].fs->s ∈ ps[k].fs->j=k
 nd:∀ (k:Nat) (h:k < ps.length),ps[k].fs.Nodup
theorem Good.found {fs:List GenL.Fd} {ps:List PE} (h:Good fs ps) (k:Nat) (hk:k < ps.length):pAt ps ps[k].nm=k:=by
 unfold pAt
 exact fi_hit hk (fun j hj hjk => by unfold nmP; exact decide_eq_false fun e => by have:=h.inj j k hj hk e; omega) (by unfold nmP; exact decide_eq_true rfl)
theorem Good.page {fs:List GenL.Fd} {ps:List PE} (h:Good fs ps) (k:Nat) (hk:k < ps.length) (L:List ByteArray) (hL:ps[k].fs=L):pageE fs ps k=scan (nameE fs (metP ps k) L) L.length:=by
 subst hL
 unfold pageE
 rw [dif_pos hk,if_pos (h.nm k hk),h.found k hk,if_neg (Nat.lt_irrefl k)]
 by_cases h0:scan (nameE fs (metP ps k) ps[k].fs) ps[k].fs.length=0
 ·rw [if_pos h0,h0]
  rcases h.sk k hk with e | e
  ·rw [if_pos e]
  ·split
   ·rfl
   ·exact e
 ·rw [if_neg h0]
theorem met_mem (ps:List PE) (s:ByteArray):∀ k,k<=ps.length->(s ∈ metP ps k ↔ ∃ (j:Nat) (hj:j < ps.length),j < k/\s ∈ ps[j].fs)
 | 0,_ => by rw [metP_zero]; simp
 | k + 1,hk => by
  rw [metP_succ ps k (by omega),List.mem_append,met_mem ps s k (by omega)]
  constructor
  ·rintro (⟨j,hj,h1,h2⟩ | h)
   ·exact ⟨j,hj,by omega,h2⟩
   ·exact ⟨k,by omega,by omega,h⟩
  ·rintro ⟨j,hj,h1,h2⟩
   by_cases e:j=k
   ·subst e; exact .inr h2
   ·exact .inl ⟨j,hj,by omega,h2⟩
theorem nameE_ok {fs:List GenL.Fd} {met L:List ByteArray} {j:Nat} (hj:j < L.length) (ha:atF fs L[j] < fs.length) (hm:L[j] ∉ met) (hn:L[j] ∉ L.take j):nameE fs met L j=0:=by
 unfold nameE
 rw [dif_pos hj,if_pos ha,if_neg]
 rw [hasB_true,List.mem_append]
 rintro (h | h)
 ·exact hm h
 ·exact hn h
theorem nodup_take {L:List ByteArray} (h:L.Nodup) (j:Nat) (hj:j < L.length):L[j] ∉ L.take j:=fun hm => by
 obtain ⟨i,hi,e⟩:=List.getElem_of_mem hm
 rw [List.getElem_take] at e
 rw [List.length_take] at hi
 exact List.pairwise_iff_getElem.1 h i j (by omega) hj (by omega) e
theorem check_good {fs:List GenL.Fd} {ps:List PE} (h:Good fs ps) (hn:GoodN fs ps):checkP fs ps=0:=by
 have hf:=h.few
 unfold checkP
 rw [if_neg (by omega)]
 refine scan_zero _ fun k hk => ?_
 rw [h.page k hk _ rfl]
 refine scan_zero _ fun j hj => ?_
 refine nameE_ok hj (hn.at' k hk _ (List.getElem_mem hj)) (fun hm => ?_) (nodup_take (hn.nd k hk) j hj)
 obtain ⟨i,hi,h1,h2⟩:=(met_mem ps _ k (by omega)).1 hm
 have:=hn.one i k hi hk _ h2 (List.getElem_mem hj)
 omega
theorem pages_at (rs:List Rw) (l:List FV) (n a:Nat):∀ N,∀ (i:Nat) (h:i < (pagesV rs l n a N).1.length),∃ b,(pagesV rs l n a N).1[i]=⟨pgName i,onV l n i l.length,(skipV rs l b).1⟩
 | 0,i,h => absurd h (by simp [pagesV])
 | N + 1,i,h => by
  have hl:=pagesV_len rs l n a N
  have hl':=pagesV_len rs l n a (N + 1)
  by_cases hi:i < (pagesV rs l n a N).1.length
  ·have:(pagesV rs l n a (N + 1)).1[i]=(pagesV rs l n a N).1[i]:=List.getElem_append_left hi
   rw [this]; exact pages_at rs l n a N i hi
  ·have e:i=N:=by omega
   subst e
   refine ⟨(pagesV rs l n a i).2,?_⟩
   have key:∀ (l:List PV) (z:PV) (h:l.length < (l ++ [z]).length),(l ++ [z])[l.length]=z:=fun l z h => by simp
   have e2:(pagesV rs l n a (i + 1)).1[(pagesV rs l n a i).1.length]'(by omega)=⟨pgName i,onV l n i l.length,(skipV rs l (pagesV rs l n a i).2).1⟩:=key (pagesV rs l n a i).1 _ (by simp)
   have e3:(pagesV rs l n a (i + 1)).1[i]=(pagesV rs l n a (i + 1)).1[(pagesV rs l n a i).1.length]'(by omega):=by congr 1; exact hl.symm
   rw [e3,e2]
theorem on_mem (l:List FV) (n i:Nat) (s:ByteArray):∀ k,k<=l.length->s ∈ onV l n i k->∃ (j:Nat) (h:j < l.length),j < k/\j % (n + 1)=i/\s=l[j].nm
 | 0,_,h => by unfold onV at h; simp at h
 | k + 1,hk,h => by
  have e:(l[k]?.map FV.nm).getD ⟨#[]⟩=(l[k]'(by omega)).nm:=by rw [List.getElem?_eq_getElem (by omega)]; rfl
  unfold onV at h
  rw [e] at h
  have go:s ∈ onV l n i k->∃ (j:Nat) (h:j < l.length),j < k + 1/\j % (n + 1)=i/\s=l[j].nm:=fun h => by
   obtain ⟨j,a,b,c⟩:=on_mem l n i s k (by omega) h
   exact ⟨j,a,by omega,c⟩
  by_cases hm:k % (n + 1)=i
  ·rw [if_pos hm,List.mem_append] at h
   rcases h with h | h
   ·exact go h
   ·simp at h; exact ⟨k,by omega,by omega,hm,h⟩
  ·rw [if_neg hm] at h; exact go h
theorem on_nd (l:List FV) (hinj:∀ (i j:Nat) (hi:i < l.length) (hj:j < l.length),l[i].nm=l[j].nm->i=j) (n i:Nat):∀ k,k<=l.length->(onV l n i k).Nodup
 | 0,_ => List.nodup_nil
 | k + 1,hk => by
  have e:(l[k]?.map FV.nm).getD ⟨#[]⟩=(l[k]'(by omega)).nm:=by rw [List.getElem?_eq_getElem (by omega)]; rfl
  have ih:=on_nd l hinj n i k (by omega)
  unfold onV
  rw [e]
  split
  ·refine List.pairwise_append.2 ⟨ih,List.pairwise_singleton _ _,fun a ha b hb => ?_⟩
   simp at hb; subst hb
   obtain ⟨j,hj,h1,_,h2⟩:=on_mem l n i a k (by omega) ha
   intro e2
   have:=hinj j k hj (by omega) (h2.symm.trans e2)
   omega
  ·exact ih
theorem pgName_inj:∀ i,i < 4->∀ j,j < 4->pgName i=pgName j->i=j:=by decide
theorem pgName_ok:∀ i,i < 4->LexB.nameE (pgName i).data.toList=0:=by decide
theorem base_inj (rs:List Rw):∀ (i j:Nat) (hi:i < (baseV rs).length) (hj:j < (baseV rs).length),(baseV rs)[i].nm=(baseV rs)[j].nm->i=j:=fun i j hi hj e => by
 rw [(base_at rs i hi).nm,(base_at rs j hj).nm] at e
 have h1:=baseV_len rs
 have h2:=countV_bd rs
 exact nmK_inj i (by omega) j (by omega) e
theorem base_all {rs:List Rw} {fs:List GenL.Fd} {X:Nat->Ex} {π:Nat->Nat} (h:OfBase rs fs X π):∀ f ∈ (baseV rs).map fdOf,nmB f.nm.data.toList=true/\fieldT (fts fs) f.nm=(f.ty,0):=fun f hf => by
 obtain ⟨v,hv,rfl⟩:=List.mem_map.1 hf
 obtain ⟨m,hm,rfl⟩:=List.getElem_of_mem hv
 have hml:m < countV rs:=by rw [← baseV_len]; exact hm
 have hb:=base_at rs m hm
 have hl:=h.len
 obtain ⟨j,hj,e⟩:=h.sur m (by omega)
 have h10:=h.ten
 have hnm:(fdOf (baseV rs)[m]).nm=nmK m:=hb.nm
 refine ⟨by rw [hnm]; exact (nmK_ok m (by omega)).1,?_⟩
 have hT:=fieldT_fts (fs:=fs) (s:=nmK m) hj (fun q hq hqj eq => by
  rw [h.nm q hq] at eq
  have:=h.inj q j hq hj (nmK_inj _ (by have:=h.lt q hq; omega) _ (by omega) (eq.trans (by rw [e])))
  omega) (by rw [h.nm j hj,e])
 rw [hnm,hT]
 have h3:=(h.at' j hj (h.bl hj)).2.2.1
 have h4:(baseV rs)[π j]'(h.bl hj)=(baseV rs)[m]'hm:=by simp only [e]
 rw [h3,h4]; rfl
theorem skip_fits {rs:List Rw} {fs:List GenL.Fd} {X:Nat->Ex} {π:Nat->Nat} (h:OfBase rs fs X π) (b:Nat):(skipV rs (baseV rs) b).1=zeroX ∨ fitsT (fts fs) (skipV rs (baseV rs) b).1 2=0:=by
 unfold skipV
 split
 ·refine .inr ?_
  have ha:=base_all h
  rw [← nts_fdOf]
  have hg:=exprV_gn (rs:=rs) (fs:=(baseV rs).map fdOf) 1 2 (nextA rs b)
  obtain ⟨g1,g2,g3⟩:=gn_ok (fun f hf => (ha f hf).1) 1 2 _ hg
  have e1:nb 1<=13:=by decide
  have hc:(exprV rs (nts ((baseV rs).map fdOf)) 1 2 (nextA rs b)).1.checkE=0:=by rw [checkE_ok (by omega) (by omega)]; exact g1
  have ht:=gn_ty2 (fun f hf => (ha f hf).2) 1 2 _ (by decide) (by decide) hg
  have ho:=ofT_ty (fs:=fts fs) hc
  unfold fitsT
  rw [ho,ht,if_pos rfl,if_pos rfl]
 ·exact .inl rfl
theorem pe_at {l:List PV} {ps:List PE} (h:ps.map PE.v=l) (i:Nat) (hi:i < ps.length) (hj:i < l.length):ps[i].v=l[i]:=by
 have:(ps.map PE.v)[i]'(by simpa using hi)=l[i]:=by simp only [h]
 rw [← this,List.getElem_map]
theorem form_pages {rs:List Rw} {es:List FE} {ps:List PE} {P Q:Nat->Prop} {w w':World} {A PA:Option Addr} (h:es.map FE.v=formF rs) (hr:FRow P w A es) (hpv:ps.map PE.v=formP rs) (hpr:PRow Q w' PA ps) :
  (1<=ps.length/\ps.length<=4)/\Good (es.map FE.fd) ps/\GoodN (es.map FE.fd) ps/\∀ (k:Nat) (h:k < ps.length),ps[k].nm.size<=4/\∀ s ∈ ps[k].fs,s.size<=4:=by
 have hB:=form_base h hr
 have hbd:=pageN_bd rs
 have hlen:ps.length=pageN rs:=by
  have:=congrArg List.length hpv
  rw [List.length_map] at this
  rw [this]; exact pagesV_len _ _ _ _ _
 have hbl:=baseV_len rs
 have hcb:=countV_bd rs
 have at':∀ (k:Nat) (hk:k < ps.length),∃ b,ps[k].nm=pgName k/\ps[k].fs=onV (baseV rs) (pageN rs) k (baseV rs).length/\ps[k].x=(skipV rs (baseV rs) b).1:=fun k hk => by
  have hkf:k < (formP rs).length:=by rw [← hpv,List.length_map]; exact hk
  obtain ⟨b,e⟩:=pages_at rs (baseV rs) (pageN rs) (fieldsV rs (countV rs)).2 (pageN rs) k hkf
  have e1:=(pe_at hpv k hk hkf).trans e
  exact ⟨b,congrArg PV.nm e1,congrArg PV.fs e1,congrArg PV.x e1⟩
 have mem:∀ (k:Nat) (hk:k < ps.length) (s:ByteArray),s ∈ ps[k].fs->∃ j,j < countV rs/\j % (pageN rs + 1)=k/\s=nmK j:=fun k hk s hs => by
  obtain ⟨b,_,e,_⟩:=at' k hk
  rw [e] at hs
  obtain ⟨j,hj,_,h2,h3⟩:=on_mem _ _ _ s _ (Nat.le_refl _) hs
  exact ⟨j,by omega,h2,by rw [h3,(base_at rs j hj).nm]⟩
 refine ⟨by omega,⟨by omega,fun k hk => ?_,fun j k hj hk e => ?_,fun k hk => ?_⟩,⟨fun k hk s hs => ?_,fun j k hj hk s h1 h2 => ?_,fun k hk => ?_⟩,fun k hk => ⟨?_,fun s hs => ?_⟩⟩
 ·obtain ⟨b,e,_⟩:=at' k hk
  rw [e]; exact pgName_ok k (by omega)
 ·obtain ⟨b,e1,_⟩:=at' j hj
  obtain ⟨b,e2,_⟩:=at' k hk
  rw [e1,e2] at e
  exact pgName_inj j (by omega) k (by omega) e
 ·obtain ⟨b,_,_,e⟩:=at' k hk
  rcases skip_fits hB b with h1 | h1
  ·refine .inl ?_
   obtain ⟨g,_,_,_,his⟩:=hpr k hk
   have his:=his.skip
   rw [e.trans h1] at his ⊢
   exact bare_zero his
  ·exact .inr (by rw [e]; exact h1)
 ·obtain ⟨j,hj,_,rfl⟩:=mem k hk s hs
  obtain ⟨i,hi,e⟩:=hB.sur j (by rw [hB.len]; exact hj)
  have:=hB.place i hi
  rw [e] at this
  rw [this]; exact hi
 ·obtain ⟨a,ha,h3,h4⟩:=mem j hj s h1
  obtain ⟨b,hb,h5,h6⟩:=mem k hk s h2
  have:=nmK_inj a (by omega) b (by omega) (h4.symm.trans h6)
  subst this
  omega
 ·obtain ⟨b,_,e,_⟩:=at' k hk
  rw [e]; exact on_nd _ (base_inj rs) _ _ _ (Nat.le_refl _)
 ·obtain ⟨b,e,_⟩:=at' k hk
  rw [e]; show 2<=4; decide
 ·obtain ⟨j,hj,_,rfl⟩:=mem k hk s hs
  exact nmK_size j
theorem prow_pgs {P:Nat->Prop} {w:World} {A:Option Addr} {ps:List PE} (h:PRow P w A ps):Pgs w A ps:=fun i hi => by
 obtain ⟨g,e,_,hc,_⟩:=h i hi
 refine ⟨_,e,?_⟩
 rw [add_block]
 exact ⟨hc 0 (by decide),hc 1 (by decide),hc 2 (by decide),hc 3 (by decide),hc 4 (by decide),hc 5 (by decide),hc 6 (by decide),hc 7 (by decide)⟩
theorem strP_trow {P:Nat->Prop} {w:World} {A:Option Addr} {L:List ByteArray} (h:StrP P w A L):TRow w A L:=fun j hj => by
 obtain ⟨a,e,_,hc⟩:=h j hj
 exact ⟨a,e,hc⟩
theorem prow_ok {P:Nat->Prop} {w:World} {A:Option Addr} {ps:List PE} (h:PRow P w A ps) (hs:∀ (k:Nat) (h:k < ps.length),ps[k].nm.size<=4/\∀ s ∈ ps[k].fs,s.size<=4):PgsOk w ps:=fun e he => by
 obtain ⟨k,hk,rfl⟩:=List.getElem_of_mem he
 obtain ⟨g,_,_,_,hi⟩:=h k hk
 obtain ⟨h1,h2⟩:=hs k hk
 exact ⟨by unfold maxLen; omega,strP_trow hi.str,fun s hs => by have:=h2 s hs; unfold maxLen; omega,by have:=hi.len; unfold maxLen; omega,IsP.is _ _ _ _ hi.skip⟩
end Go.Proofs.YtepikijjagoehaaGreatDoor.PgF
namespace Go.Proofs.YtepikijjagoehaaGreatDoor.FrmO
open Go.RowKit
open ValM LexM NumM ExM NmM Kit ExL ExP ExN ExC RawV Within RawL RawN GenL Gen GenT GenV FrmM Frm FldP FldR FldC FrmT TyM Ty TyG NmG NmO NmI NmT RkM RkD
set_option linter.unusedVariables false
namespace OfBase
variable {rs:List Rw} {fs:List GenL.Fd} {X:Nat->Ex} {π:Nat->Nat}
theorem needs (h:OfBase rs fs X π) (i:Nat) (hi:i < fs.length):∀ j ∈ nd (needsF fs X) i,j < fs.length/\π j < π i:=fun j hj => by
 rw [needsF_nd _ _ _ hi] at hj
 unfold needF at hj
 rw [dif_pos hi] at hj
 by_cases hk:fs[i].kind=1
 ·rw [if_pos hk] at hj; simp at hj
 ·rw [if_neg hk] at hj
  obtain ⟨c1,_,c3⟩:=h.src i hi hk
  obtain ⟨s,hs,rfl⟩:=List.mem_map.1 hj
  have hs2:s ∈ Ex.refs (X i):=by
   have e:=bytes_refs (Ex.refs (X i))
   unfold ofL at hs
   rw [if_pos c1] at hs
   unfold mkL at hs e
   obtain ⟨b,hb,rfl⟩:=List.mem_map.1 hs
   rw [rise_mem] at hb
   rw [← e]
   exact List.mem_map.2 ⟨b,hb,rfl⟩
  obtain ⟨q,q1,q2,q3⟩:=c3 s hs2
  have:plN fs s=q:=by unfold plN; rw [q3,h.place q q1,if_pos q1]
  rw [this]; exact ⟨q1,q2⟩
end OfBase
end Go.Proofs.YtepikijjagoehaaGreatDoor.FrmO
namespace Go.Proofs.YtepikijjagoehaaGreatDoor.RkS
open Go.RowKit
open ValM LexM NumM ExM NmM Kit ExL ExP ExN ExC RawV Within RawL RawN GenL Gen GenT GenV FrmM Frm FldP FldR FldC FrmT FrmO TyM Ty TyG NmG NmO NmI NmR RkM RkA RkB RkC RkD RkO
set_option linter.unusedVariables false
end Go.Proofs.YtepikijjagoehaaGreatDoor.RkS
namespace Go.Proofs.YtepikijjagoehaaGreatDoor.RkK
open Go.RowKit
open ValM LexM NumM ExM NmM Kit ExL ExP ExN ExC RawV Within RawL RawN GenL Gen GenT GenV FrmM Frm FldP FldR FldC FrmT FrmO TyM Ty TyG NmG NmO NmI NmR RkM RkA RkB RkC RkD RkO RkS
set_option linter.unusedVariables false
def RankAt (ns:List (List Nat)) (n:Nat) (w:World) (e:Ending) (w':World):Prop :=
 ∃ g cap,e=.returned (.tuple #[.slice (some ⟨g,0,none⟩) n cap,.slice none 0 0,.int .i64 0])/\(∀ j,j < n->w'.cell? ⟨g,j,none⟩=some (.int .i64 (rk (rankF ns) j)))/\w.heap.size<=g/\Below w.heap.size w w'
theorem RankOk.at {ns:List (List Nat)} {n:Nat} (hn:ns.length=n) (h0:0 < n) {w:World} {e:Ending} {w':World} (h:RankOk ns w e w'):RankAt ns n w e w':=by
 obtain ⟨v,rfl,hown,hb⟩:=h
 subst hn
 obtain ⟨g,cap,rfl,hg,_,_,_,hc⟩:=GenL.own_form hown h0
 exact ⟨g,cap,rfl,fun j hj => by rw [hc j (by omega),iV_at _ _ (by rw [rankF_len]; exact hj)],hg,hb⟩
structure FormRank (rs:List Rw) (es:List FE) (FA:Option Addr) (fc:Nat) (w:World):Prop where
 of:∀ V:World,Below w.heap.size w V->Calls Tryz.prog 83 #[.slice FA es.length fc] V (RankAt (needsF (es.map FE.fd) (xOf es)) es.length V)
 base:OfBase rs (es.map FE.fd) (xOf es) (plc rs)
 flds:Flds w FA (es.map FE.fd)
 forms:Forms w (es.map FE.fd) (xOf es)
 ge:∀ i,i < es.length->0<=rk (rankF (needsF (es.map FE.fd) (xOf es))) i/\rk (rankF (needsF (es.map FE.fd) (xOf es))) i<=(plc rs i:Int)
 len:es.length=countV rs
theorem form_rank {rs:List Rw} {es:List FE} {P:Nat->Prop} {w:World} {FA:Option Addr} {fc:Nat} (h:es.map FE.v=formF rs) (hr:FRow P w FA es) (hcap:es.length<=fc/\fc<=maxLen) (hT:Tab w):FormRank rs es FA fc w:=by
 have hB:=form_base h hr
 have hl:(es.map FE.fd).length=es.length:=List.length_map _
 have hlen:es.length=countV rs:=(form_places h).1
 have hge:∀ i,i < es.length->0<=rk (rankF (needsF (es.map FE.fd) (xOf es))) i/\rk (rankF (needsF (es.map FE.fd) (xOf es))) i<=(plc rs i:Int):=fun i hi => by
  refine rankF_ok (m:=plc rs) (fun k hk j hj => ?_) _ i (Nat.le_refl _) (by rw [needsF_len,hl]; exact hi)
  rw [needsF_len] at hk ⊢
  exact hB.needs k hk j hj
 refine ⟨fun V hV => ?_,hB,frow_flds hr,form_forms h hr,hge,hlen⟩
 have h10:=hB.ten
 have:=of_ok (es.map FE.fd) (xOf es) FA fc V (by omega) ((frow_flds hr).below hV) ((form_forms h hr).below hV) (hT.below hV) (by rw [hl]; exact hcap) hB.check (fun i hi => (hge i (by omega)).1)
 rw [hl] at this
 exact this.mono fun e w' hh => RankOk.at (by rw [needsF_len,hl]) (by have:=(countV_bd rs).1; omega) hh
end Go.Proofs.YtepikijjagoehaaGreatDoor.RkK
namespace Go.Proofs.YtepikijjagoehaaGreatDoor.RkR
open Go.RowKit
open ValM LexM NumM ExM NmM Kit ExL ExP ExN ExC RawV Within RawL RawN GenL Gen GenT GenV FrmM Frm FldP FldR FldC FrmT FrmO TyM Ty TyG NmG NmO NmI NmT NmR NmV RkM RkA RkB RkC RkD RkO RkS RkK
set_option linter.unusedVariables false
end Go.Proofs.YtepikijjagoehaaGreatDoor.RkR
namespace Go.Proofs.YtepikijjagoehaaGreatDoor.ShG
open Go.RowKit
open ValM LexM NumM ExM NmM Kit ExL ExP ExN RawV Within RawL RawN GenL FldP FldR FldC FrmM Frm FrmT FrmO PgM PgA PgF RkM RkA RkD RkO RkS RkK ShT ShL
set_option linter.unusedVariables false
theorem form_check {rs:List Rw} {es:List FE} {ps:List PE} {P Q:Nat->Prop} {w:World} {FA PA:Option Addr} {fc pc:Nat} (hv:es.map FE.v=formF rs) (hr:FRow P w FA es) (hpv:ps.map PE.v=formP rs) (hpr:PRow Q w PA ps) (hcap:es.length<=fc/\fc<=maxLen) (hpcap:ps.length<=pc/\pc<=maxLen) (hT:Tab w) :
  ∀ V,Below w.heap.size w V->Calls Tryz.prog 39 #[.agg #[.slice FA es.length fc,.slice PA ps.length pc]] V fun e w' => e=.returned (.int .i64 0)/\Below V.heap.size V w':=fun V hV => by
 have hR:=form_rank (fc:=fc) hv hr hcap hT
 obtain ⟨hpl,hgood,hgn,hsz⟩:=form_pages hv hr hpv hpr
 have hck:=check_good hgood hgn
 have hcl:=(form_places hv).1
 have hcb:=countV_bd rs
 have hB:=form_base hv hr
 have:=ShT.check_any es.length FA fc ps.length PA pc 0 0 V (fun V' hV' => (hR.of V' (hV.trans (hV'.mono hV.size))).mono fun e w' h => by
  obtain ⟨g,cap,rfl,_,_,hb⟩:=h
  exact ⟨_,_,rfl,hb⟩) (fun _ V' hV' => by
  have hb:=hV.trans (hV'.mono hV.size)
  have:=PgB.check_any ps PA pc (es.map FE.fd) FA fc V' (by rw [List.length_map]; omega) ((frow_flds hr).below hb) (fun k hk => by
   rw [hB.nm k hk]
   have:=nmK_size (plc rs k)
   unfold maxLen; omega) ((prow_pgs hpr).below hb) ((prow_ok hpr hsz).below hb) (by unfold maxLen; omega) (fun e he => by
   obtain ⟨k,hk,rfl⟩:=List.getElem_of_mem he
   obtain ⟨g,_,_,_,hi⟩:=hpr k hk
   have:=hi.len; omega) (hT.below hb) hpcap
  rw [hck,List.length_map] at this
  exact this)
 rw [if_pos rfl] at this
 exact this
end Go.Proofs.YtepikijjagoehaaGreatDoor.ShG
namespace Go.Proofs.YtepikijjagoehaaGreatDoor.TxK
open Go.RowKit
open ValM LexM NumM ExM NmM ShowM PrM Ty Kit ExL ExP ExN ExC RawV Within RawL RawN GenL Gen GenT GenV FrmM Frm FldP FldR FldC FrmT FrmO TyM PgM PgA PgF RkM RkA RkD RkO RkS RkK CycO RkY ShT ShE TxM TxR TxP TxT TxQ TxN TxF TxG TxD TxU KpS PsE PrU
set_option linter.unusedVariables false
theorem needs_same {es es':List FE} {X X':Nat->Ex} (h:es.map flE=es'.map flE) (hX:Srcs X es) (hX':Srcs X' es'):needsF (es.map FE.fd) X=needsF (es'.map FE.fd) X':=by
 have hl:=len_same h
 unfold needsF
 rw [List.length_map,List.length_map,← hl]
 refine List.map_congr_left fun k hk => ?_
 have hk:=List.mem_range.1 hk
 unfold needF
 rw [dif_pos (by rw [List.length_map]; exact hk),dif_pos (by rw [List.length_map]; omega),List.getElem_map,List.getElem_map,hX k hk,hX' k (by omega)]
 obtain ⟨a,b,c,d⟩:=fl_same (at_fl h k hk (by omega))
 have hpl:plN (es.map FE.fd)=plN (es'.map FE.fd):=by
  funext s
  unfold plN
  rw [at_same h s,List.length_map,List.length_map,hl]
 rw [hpl,d]
 show (if es[k].kind=1 then _ else _)=if es'[k].kind=1 then _ else _
 rw [b]
theorem rank_same {es es':List FE} {X X':Nat->Ex} {w w':World} (h:es.map flE=es'.map flE) (hi:FIs w es) (hi':FIs w' es') (hX:Srcs X es) (hX':Srcs X' es'):rankE (es.map FE.fd) X=rankE (es'.map FE.fd) X':=by
 unfold rankE
 rw [check_same h hi hi' hX hX',needs_same h hX hX',List.length_map,List.length_map,len_same h]
theorem srcs_xOf (es:List FE):Srcs (xOf es) es:=fun i h => xOf_at es i h
theorem gen_ok {rs:List Rw} {es:List FE} {ps:List PE} {P Q:Nat->Prop} {w:World} {FA PA:Option Addr} (hv:es.map FE.v=formF rs) (hr:FRow P w FA es) (hpv:ps.map PE.v=formP rs) (hpr:PRow Q w PA ps) :
  FormOk w es ps (xOf es)/\rankE (es.map FE.fd) (xOf es)=0/\es.length<=10/\ps.length<=4:=by
 obtain ⟨hpl,hgood,hgn,hsz⟩:=form_pages hv hr hpv hpr
 have hB:=form_base hv hr
 have hl:(es.map FE.fd).length=es.length:=List.length_map _
 have h10:=hB.ten
 rw [hl] at h10
 refine ⟨⟨fun i hi => ?_,fun i hi => ?_,srcs_xOf es,hB.check,check_good hgood hgn⟩,?_,h10,hpl.2⟩
 ·obtain ⟨g,_,_,_,his⟩:=hr i hi
  exact his.is
 ·obtain ⟨g,_,_,_,his⟩:=hpr i hi
  exact his.skip.is
 ·unfold rankE
  rw [if_pos hB.check,if_pos]
  intro i hi
  have:=(rankF_ok (ns:=needsF (es.map FE.fd) (xOf es)) (m:=plc rs) (fun k hk j hj => by
   rw [needsF_len] at hk ⊢
   exact hB.needs k hk j hj) _ i (Nat.le_refl _) (by rw [needsF_len]; exact hi)).1
  intro e
  have e:rk (rankF (needsF (es.map FE.fd) (xOf es))) i=-1:=e
  have this:0<=rk (rankF (needsF (es.map FE.fd) (xOf es))) i:=this
  omega
theorem prow_caps {P:Nat->Prop} {w:World} {A:Option Addr} {ps:List PE} (h:PRow P w A ps):∀ e ∈ ps,e.fs.length<=1048576/\e.fs.length<=e.fc:=fun e he => by
 obtain ⟨i,hi,rfl⟩:=List.getElem_of_mem he
 obtain ⟨g,_,_,_,his⟩:=h i hi
 exact ⟨by have:=his.len; omega,his.cap⟩
end Go.Proofs.YtepikijjagoehaaGreatDoor.TxK
namespace Go.Proofs
open Go.Shelf
def Tryz.laysNm222_ren:Go.Shelf.Ren:=⟨fun | 22 => 19 | 29 => 54 | 30 => 55 | 36 => 104 | 17 => 165 | n => n,fun | 24 => 35 | 9 => 9 | 3 => 3 | 4 => 4 | 0 => 0 | n => n,fun | n => n⟩
theorem Tryz.laysNm222:Go.Proofs.Lays2.n22 Tryz.prog Tryz.laysNm222_ren:={
 mixed:=by kernel_rfl
 f17:=Tryz.func165.trans (congrArg some (by kernel_rfl))
 f22:=Tryz.func19.trans (congrArg some (by kernel_rfl))
 f29:=Tryz.func54.trans (congrArg some (by kernel_rfl))
 f30:=Tryz.func55.trans (congrArg some (by kernel_rfl))
 f36:=Tryz.func104.trans (congrArg some (by kernel_rfl))
 t0:=Tryz.underlying0
 a0:=Tryz.isAgg0
 z0:=Tryz.sizeOf0
 v0:=Tryz.zeroValue0
 t3:=Tryz.underlying3
 a3:=Tryz.isAgg3
 z3:=Tryz.sizeOf3
 v3:=Tryz.zeroValue3
 t4:=Tryz.underlying4
 a4:=Tryz.isAgg4
 z4:=Tryz.sizeOf4
 v4:=Tryz.zeroValue4
 t9:=Tryz.underlying9
 a9:=Tryz.isAgg9
 z9:=Tryz.sizeOf9
 v9:=Tryz.zeroValue9
 t24:=Tryz.underlying35
 a24:=Tryz.isAgg35
 z24:=Tryz.sizeOf35
 v24:=Tryz.zeroValue35
 i9:=by kernel_rfl }
end Go.Proofs
namespace Go.Proofs.YtepikijjagoehaaGreatDoor.TxI
open Go.RowKit
open Kit FrmT
set_option linter.unusedVariables false
def insL (cs:List Value) (k:Nat) (v:Value):List Value:=cs.take k ++ (v :: cs.drop k)
theorem insL_at {cs:List Value} {k j:Nat} {v:Value} (hk:k < cs.length):(insL cs k v)[j]?=if j < k then cs[j]? else if j=k then some v else cs[j - 1]?:=by
 unfold insL
 have hl:(cs.take k).length=k:=by rw [List.length_take]; omega
 by_cases h1:j < k
 ·rw [if_pos h1,List.getElem?_append_left (by omega),List.getElem?_take,if_pos h1]
 ·rw [if_neg h1,List.getElem?_append_right (by omega),hl]
  by_cases h2:j=k
  ·subst h2; rw [if_pos rfl,Nat.sub_self]; rfl
  ·rw [if_neg h2,show j - k=(j - k - 1) + 1 by omega,List.getElem?_cons_succ,List.getElem?_drop]
   congr 1; omega
theorem shift_at {w:World} {b k n:Nat} {cs:List Value} {v:Value} (hn:cs.length=n) (hk:k < n) (hc:∀ j,j < n->w.cell? ⟨b,j,none⟩=cs[j]?) (hsp:∀ j,j < n + 1->(w.cell? ⟨b,j,none⟩).isSome=true) (j:Nat) (hj:j < n + 1) :
  ((w.setCells b (k + 1) (cs.drop k)).setCells b k [v]).cell? ⟨b,j,none⟩=(insL cs k v)[j]?:=by
 rw [insL_at (by omega)]
 have hdl:(cs.drop k).length=n - k:=by rw [List.length_drop]; omega
 have hs1:∀ i,i < (cs.drop k).length->(w.cell? ⟨b,k + 1 + i,none⟩).isSome=true:=fun i hi => hsp _ (by omega)
 by_cases h1:j < k
 ·rw [if_pos h1,World.cell?_setCells_out b _ _ _ _ (fun _ _ => .inl h1),World.cell?_setCells_out b _ _ _ _ (fun _ _ => .inl (by show j < k + 1; omega))]
  exact hc j (by omega)
 ·rw [if_neg h1]
  by_cases h2:j=k
  ·subst h2
   rw [if_pos rfl]
   have:=World.cell?_setCells_in b [v] j (w.setCells b (j + 1) (cs.drop j)) (fun i hi => by
    obtain rfl:i=0:=by simp at hi; omega
    rw [World.cell?_setCells_out b _ _ _ _ (fun _ _ => .inl (by show j + 0 < j + 1; omega))]
    exact hsp _ (by omega)) 0 (by simp)
   simpa using this
  ·rw [if_neg h2,World.cell?_setCells_out b _ _ _ _ (fun _ _ => .inr (by show k + 1<=j; omega))]
   have:=World.cell?_setCells_in b (cs.drop k) (k + 1) w hs1 (j - (k + 1)) (by omega)
   rw [show k + 1 + (j - (k + 1))=j by omega] at this
   rw [this,List.getElem_drop,List.getElem?_eq_getElem (show j - 1 < cs.length by omega)]
   congr 2; omega
theorem grow_at {w:World} {b k n:Nat} {cs:List Value} {v:Value} (hn:cs.length=n) (hk:k < n) (hc:∀ j,j < k->w.cell? ⟨b,j,none⟩=cs[j]?) (hsp:∀ j,j < n + 1->(w.cell? ⟨b,j,none⟩).isSome=true) (j:Nat) (hj:j < n + 1) :
  (((w.setCells b k [v]).drew).setCells b (k + 1) (cs.drop k)).cell? ⟨b,j,none⟩=(insL cs k v)[j]?:=by
 rw [insL_at (by omega)]
 have hdl:(cs.drop k).length=n - k:=by rw [List.length_drop]; omega
 have hd:∀ p,((w.setCells b k [v]).drew).cell? p=(w.setCells b k [v]).cell? p:=fun _ => rfl
 have hs1:∀ i,i < (cs.drop k).length->(((w.setCells b k [v]).drew).cell? ⟨b,k + 1 + i,none⟩).isSome=true:=fun i hi => by
  rw [hd,World.cell?_setCells_out b _ _ _ _ (fun _ _ => .inr (by show k + 1<=k + 1 + i; omega))]
  exact hsp _ (by omega)
 by_cases h1:j < k
 ·rw [if_pos h1,World.cell?_setCells_out b _ _ _ _ (fun _ _ => .inl (by show j < k + 1; omega)),hd,World.cell?_setCells_out b _ _ _ _ (fun _ _ => .inl h1)]
  exact hc j h1
 ·rw [if_neg h1]
  by_cases h2:j=k
  ·subst h2
   rw [if_pos rfl,World.cell?_setCells_out b _ _ _ _ (fun _ _ => .inl (by show j < j + 1; omega)),hd]
   have:=World.cell?_setCells_in b [v] j w (fun i hi => by
    obtain rfl:i=0:=by simp at hi; omega
    exact hsp _ (by omega)) 0 (by simp)
   simpa using this
  ·rw [if_neg h2]
   have:=World.cell?_setCells_in b (cs.drop k) (k + 1) _ hs1 (j - (k + 1)) (by omega)
   rw [show k + 1 + (j - (k + 1))=j by omega] at this
   rw [this,List.getElem_drop,List.getElem?_eq_getElem (show j - 1 < cs.length by omega)]
   congr 2; omega
theorem heap_other (g:Nat) (vs:List Value):∀ (o:Nat) (w:World) (b:Nat),b ≠ g->(w.setCells g o vs).heap[b]?=w.heap[b]?:=by
 induction vs with
 | nil => exact fun _ _ _ _ => rfl
 | cons v r ih => exact fun o w b hb => (ih (o + 1) (w.setCell ⟨g,o,none⟩ v) b hb).trans (Below.heap_setCell w ⟨g,o,none⟩ v b hb)
def InsOut (L:List ByteArray) (k:Nat) (s:ByteArray) (b:Nat) (w:World) (e:Ending) (w':World):Prop :=
 ∃ b' c':Nat,e=.returned (.slice (some ⟨b',0,none⟩) (L.length + 1) c')/\L.length + 1<=c'/\c'<=maxLen/\b' < w'.heap.size/\(∀ j x,(L.take k ++ (s :: L.drop k))[j]?=some x->w'.cell? ⟨b',j,none⟩=some (.string x))/\(∀ B,B<=b->Below B w w')/\∀ q,q < w.heap.size->q ≠ b->w'.heap[q]?=w.heap[q]?
theorem insL_map (L:List ByteArray) (k:Nat) (s:ByteArray):insL (L.map Value.string) k (.string s)=(L.take k ++ (s :: L.drop k)).map Value.string:=by
 unfold insL
 rw [List.map_append,List.map_cons,List.map_take,List.map_drop]
theorem insert_any (b c k v:Nat) (L:List ByteArray) (s:ByteArray) (cur:Array Value) (w:World) (hcur:w.heap[b]?=some (.cells cur 9 (0,0))) (hcs:cur.size=c) (hcm:c<=maxLen) (hLc:L.length<=c) (htake:cur.toList.take L.length=L.map Value.string) (hk:k < L.length) (hbig:L.length<=1000000)
  (hv:w.heap[v]?=some (.cells #[.string s] 9 (0,0))) (hvb:v ≠ b) :
  Calls Tryz.prog 19 #[.slice (some ⟨b,0,none⟩) L.length c,.int .i64 k,.slice (some ⟨v,0,none⟩) 1 1] w (InsOut L k s b w):=by
 have hbl:b < w.heap.size:=(Array.getElem?_eq_some_iff.1 hcur).1
 have hml:maxLen=140737488355328 ∨ maxLen<=9223372036854775807:=by first | exact .inl rfl | exact .inr (by decide)
 have hcb:∀ o,w.cell? ⟨b,o,none⟩=cur[o]?:=fun o => cell_blk hcur o
 have hcv:∀ o,w.cell? ⟨v,o,none⟩=(#[Value.string s]:Array Value)[o]?:=fun o => cell_blk hv o
 have hlen:(L.map Value.string).length=L.length:=List.length_map _
 have hrow:∀ j,j < L.length->w.cell? ⟨b,j,none⟩=(L.map Value.string)[j]?:=fun j hj => by
  rw [hcb,← htake,List.getElem?_take,if_pos hj,Array.getElem?_toList]
 have hsp:∀ j,j < c->(w.cell? ⟨b,j,none⟩).isSome=true:=fun j hj => by rw [hcb,Array.getElem?_eq_getElem (by omega)]; rfl
 have h1c:∀ x ∈ L.map Value.string,x.oneCell'=true:=fun x hx => by obtain ⟨t,_,rfl⟩:=List.mem_map.1 hx; rfl
 have h1v:∀ x ∈ [Value.string s],x.oneCell'=true:=fun x hx => by
  obtain rfl:x=.string s:=by simpa using hx
  rfl
 have hvs:∀ j x,[Value.string s][j]?=some x->w.cell? ⟨v,0 + j,none⟩=some x:=fun j x h => by
  obtain rfl:j=0:=by have:=(List.getElem?_eq_some_iff.1 h).1; simp at this; omega
  rw [hcv]; exact h
 by_cases hroom:L.length + 1<=c
 ·refine (Any2.slices_Insert_string_shift Tryz.laysNm222 b 0 L.length c k v 0 1 1 (L.map Value.string) [.string s] w hk (by decide) hroom (by unfold maxLen at hcm; omega) hvb hlen rfl (fun j x h => by
    rw [Nat.zero_add,hrow j (by have:=List.getElem?_eq_some_iff.1 h; have:=this.1; rw [hlen] at this; exact this)]; exact h)
   (fun j hj => by rw [Nat.zero_add]; exact hsp j (by omega)) (fun j hj => by simp [World.frozen?,hcur]) hvs h1c h1v 9 9 1 cur.size (by simp [World.shape?,hv]) (by simp [World.shape?,hcur]) (by omega) (by simp [World.frozen?,hv]) (by simp [World.frozen?,hv])).mono ?_
  rintro e w' ⟨rfl,rfl⟩
  refine ⟨b,c,rfl,hroom,hcm,?_,fun j x h => ?_,fun B hB => ?_,fun q _ hq => ?_⟩
  ·have:=(below_setCells (Nat.zero_le b) [.string s] (0 + k) _ (below_setCells (Nat.zero_le b) ((L.map Value.string).drop k) (0 + (k + 1)) _ (b_drew (Below.refl 0 w)))).size
   omega
  ·have hj:j < L.length + 1:=by
    have:=(List.getElem?_eq_some_iff.1 h).1
    simp only [List.length_append,List.length_cons,List.length_take,List.length_drop] at this
    omega
   rw [Nat.zero_add,Nat.zero_add]
   have:=shift_at (w:=w.drew) (b:=b) (v:=.string s) hlen hk hrow (fun j hj => hsp j (by omega)) j hj
   rw [this,insL_map,List.getElem?_map,h]; rfl
  ·exact below_setCells hB _ _ _ (below_setCells hB _ _ _ (b_drew (Below.refl B w)))
  ·rw [heap_other b _ _ _ q hq,heap_other b _ _ _ q hq]; rfl
 ·have hc0:c=L.length:=by omega
  refine (Any2.slices_Insert_string_grow Tryz.laysNm222 b 0 L.length c k v 0 1 1 (L.map Value.string) [.string s] w hk (by decide) hLc (by omega) (by omega) hlen rfl (fun j x h => by
    rw [Nat.zero_add,hrow j (by have:=List.getElem?_eq_some_iff.1 h; have:=this.1; rw [hlen] at this; exact this)]; exact h)
   hvs h1c h1v).mono ?_
  rintro e w' ⟨rfl,hw'⟩
  obtain ⟨cc,hcc⟩:∃ cc,grownCap w (L.length + 1) c 9=cc:=⟨_,rfl⟩
  have hge:=grownCap_ge w (L.length + 1) c 9
  have hle:=grownCap_le_maxLen w (L.length + 1) c 9 (by unfold maxLen; omega)
  rw [hcc] at hge hle
  obtain ⟨o,ho,hoz,hot⟩:∃ o:Array Value,w'=((((w.alloc (.cells o 9)).drew).setCells w.heap.size k [.string s]).drew).setCells w.heap.size (k + 1) ((L.map Value.string).drop k)/\o.size=cc/\∀ j,j < k->o[j]?=(L.map Value.string)[j]?:=by
   refine ⟨_,hw',?_,fun j hj => ?_⟩
   ·have:grownCap w (L.length + 1) c 9=cc:=hcc
    simp only [Array.size_append,List.size_toArray,size_zeroCells,Value.cells,List.length_take,hlen]
    show min k L.length + _ * 1 + (grownCap w (L.length + 1) c 9 - _) * 1=cc
    rw [this]; omega
   ·rw [Array.getElem?_append_left (by simp only [Array.size_append,List.size_toArray,List.length_take,hlen]; omega),Array.getElem?_append_left (by rw [List.size_toArray,List.length_take,hlen]; omega),List.getElem?_toArray,List.getElem?_take,if_pos hj]
  have hnew:∀ p,(w.alloc (.cells o 9)).drew.cell? ⟨w.heap.size,p,none⟩=o[p]?:=fun p => cell_blk (W:=(w.alloc (.cells o 9)).drew) (World.alloc_heap_new w _) p
  have hb':∀ B,B<=w.heap.size->Below B w w':=fun B hB => by
   rw [ho]
   exact below_setCells hB _ _ _ (b_drew (below_setCells hB _ _ _ (b_drew ((b_new w _).mono hB))))
  refine ⟨w.heap.size,cc,by rw [← hcc]; rfl,hge,hle,?_,fun j x h => ?_,fun B hB => hb' B (by omega),fun q hq _ => ?_⟩
  ·have h1:=(below_setCells (Nat.zero_le w.heap.size) ((L.map Value.string).drop k) (k + 1) _ (b_drew (below_setCells (Nat.zero_le w.heap.size) [.string s] k _ (b_drew (Below.refl 0 (w.alloc (.cells o 9))))))).size
   rw [World.size_alloc] at h1
   rw [ho]; omega
  ·have hj:j < L.length + 1:=by
    have:=(List.getElem?_eq_some_iff.1 h).1
    simp only [List.length_append,List.length_cons,List.length_take,List.length_drop] at this
    omega
   rw [ho,grow_at (n:=L.length) hlen hk (fun j hj => by rw [hnew]; exact hot j hj) (fun j hj => by rw [hnew,Array.getElem?_eq_getElem (by omega)]; rfl) j hj,insL_map,List.getElem?_map,h]; rfl
  ·exact (hb' w.heap.size (Nat.le_refl _)).block q hq
end Go.Proofs.YtepikijjagoehaaGreatDoor.TxI
namespace Go.Proofs
open Go.Shelf
def Tryz.laysNm216_ren:Go.Shelf.Ren:=⟨fun | 16 => 20 | n => n,fun | 24 => 35 | 9 => 9 | 4 => 4 | n => n,fun | n => n⟩
theorem Tryz.laysNm216:Go.Proofs.Lays2.n16 Tryz.prog Tryz.laysNm216_ren:={
 mixed:=by kernel_rfl
 f16:=Tryz.func20.trans (congrArg some (by kernel_rfl))
 t4:=Tryz.underlying4
 a4:=Tryz.isAgg4
 z4:=Tryz.sizeOf4
 v4:=Tryz.zeroValue4
 t9:=Tryz.underlying9
 a9:=Tryz.isAgg9
 z9:=Tryz.sizeOf9
 v9:=Tryz.zeroValue9
 t24:=Tryz.underlying35
 a24:=Tryz.isAgg35
 z24:=Tryz.sizeOf35
 v24:=Tryz.zeroValue35
 i9:=by kernel_rfl }
open Go.RowKit Go.Lib in
theorem Tryz.slices_Clone_string (b off n c:Nat) (zs:List ByteArray) (w:World) (hz:n<=zs.length) (hbig:n * 16<=140737488355328) (hc:∀ j,j < zs.length->w.cell? ⟨b,off + j,none⟩=some (.string (zs.getD j ByteArray.empty))) :
  Calls Tryz.prog 20 #[.slice (some ⟨b,off,none⟩) n c] w fun e w' => ∃ v',e=.returned v'/\w'.ownsRow w.heap.size 9 1 v' n ((zs.take n).map (Value.string))/\v' ≠ .slice none 0 0/\Below w.heap.size w w':=Any.slices_Clone_string Tryz.laysNm216 b off n c zs w hz hbig hc
end Go.Proofs
