/- Wh6 Wh7 ShapedAnd: what these laws name of them. -/
import Derived.Deep.RegionHeld3
import Derived.Deep.AppendLies
import Derived.RegionTactic
import Derived.BigQuiet
import Derived.Deep.QuietTactic
import Derived.Deep.RegionLaw
import Derived.RangeFuncBox
import Derived.OwnWalk
import Derived.Deep.RegionWith
import Derived.BigRegion
import Derived.Laws.OwnMore
import Derived.Laws.Pointers
import Derived.Test.YtepikijjagoehaaGreatDoorChecked
import Derived.WalkKit
import Derived.ProofKit
import Derived.Lib.ConvBytes
import Derived.Lib.AtoiErrMem
import Derived.Laws.IdiomStrings
import Derived.WalkSpells
import Derived.WalkLawsBesides
import Derived.Outline
import Derived.Lib.Hide
import Derived.Deep.LoopGhost
import Derived.Below
import Derived.Deep.Draws
import GoSem.Claim
import Derived.Lib.Bytealg
import Derived.Lib.Small
import Derived.Lib.AtoiAll
import Derived.Test.YtepikijjagoehaaGreatDoorProg
import Derived.IntWalk
import Derived.ChangeAlike
import Derived.WalkSmall
import Derived.Maps.Own
import Derived.Maps.OwnSet
import Derived.Maps.AppendAt
import Derived.Maps.Range
import Derived.Maps.RangeWalk
import Derived.RangeFuncNested
import Derived.RangeFuncBound
import Derived.RangeFuncCalls
import Derived.RangeFuncLeaves
import Derived.Shelf.Abstract
import Derived.Shelf.RegionOpen
import Derived.OwnWalkIn
import Derived.TacticsInMore
import Derived.LoopNIn
import Derived.LoopIn
import Derived.ChangeOld
import Derived.Deep.DrawnRows
import Derived.LaidMore
import Derived.LaidLaws
import Derived.ChangeArms
import Derived.Lib.LaidTab
import Derived.WideShapes
import Derived.Deep.CutBlock
import Derived.StringKeys
import Derived.Laws.Rows
import Derived.Shelf.Strings.Builder1
import Derived.Shelf.Strings.Builder2
import Derived.Shelf.Strings.OnBuilder
import Derived.Shelf.Small.Bits
import Derived.Shelf.Small.Strs
import Derived.Shelf.Small.Wraps
import Derived.Shelf.Strings.BuilderF
import Derived.Shelf.Strings.BuilderK
import Derived.Shelf.Strconv.Atoi
import Derived.Shelf.Strconv.Itoa0
import Derived.Shelf.Strconv.Itoa1
import Derived.Shelf.LaysM
import Derived.Shelf.Strconv.Itoa2
import Derived.Shelf.Strconv.Itoa3
import Derived.Shelf.Strconv.AtoiErrFast
import Derived.Shelf.Strconv.ParseIntEmpty
import Derived.Shelf.Strconv.AtoiFail
import Derived.Shelf.Strconv.Clone
import Derived.Shelf.Strconv.SyntaxError
import Derived.Shelf.LaysC
import Derived.Shelf.Strconv.ToError
import Derived.Shelf.Strconv.Lower
import Derived.Shelf.Strconv.ParseUint10
import Derived.Shelf.Strconv.ParseUint10Empty
import Derived.Shelf.Strconv.ParseUint10Any
import Derived.Shelf.Strconv.ParseInt10
import Derived.Shelf.Strconv.AtoiLong
import Derived.Shelf.Strconv.AtoiInnerAll
import Derived.Shelf.Strconv.RangeError
import Derived.Shelf.Strconv.ToErrorRange
import Derived.Shelf.Strconv.AtoiAll
import Derived.Shelf.Strconv.ErrVarAll
import Derived.Shelf.Strings.Search1
import Derived.Shelf.Strings.Search2
import Derived.Shelf.Strings.Search3
import Derived.Shelf.Strings.Cut
import Derived.Shelf.Strings.Count
import Derived.Shelf.Strings.Shaped
import Derived.Shelf.Strings.Prefix
import Derived.Shelf.Strings.Split
import Derived.Shelf.Bits.Mul64
import Derived.Shelf.Unicode.DecodeSlow
import Derived.Shelf.Slices.Turned
import Derived.Shelf.Slices.Equal
import Derived.Shelf.Slices.Empties2
import Derived.Ground.SlgfProg
import Derived.Shelf.SlicesE.IndexFunc
import Derived.Ground.SlsfProg
import Derived.Shelf.SlSortCmp.Insertion
import Derived.Ground.SlgmProg
import Derived.Shelf.SortM.Plain
import Derived.Shelf.SortM.SortNone
import Derived.DeepKeys4
import Derived.Deep.DeepCutAuto
import Derived.Lib.IndexMore
import Derived.Lib.Split
import Derived.Lib.Strings
import Derived.Lib.ReplaceLaws
import Derived.Lib.CountLaws
import Derived.Lib.AtoiTie
import Derived.Lib.ItoaMem
import Derived.Lib.UnsafeStr
import Derived.Lib.ItoaNum
import Derived.Laws.AppendOwnNone
import Derived.Sort.EncStr
import Derived.Laws.CopyOwn
import Derived.RangeFuncRecord
import Derived.Calls
import Derived.Orders
import Derived.OrdersHeld
import Derived.RangeFuncWrites
import Derived.Maps.OwnIn
import Derived.Shelf.SlIter.Nil
import Derived.Ground.GgzProg
import Derived.Sort.Walk13a
import Derived.Laws.Tables
import Derived.Deep.MidRow
import Derived.Deep.Slices
import Derived.OpenShut
import Derived.ChangeSame
import Derived.DataReads
import Derived.Lib.AppendIntMem
import Derived.Lib.ItoaLen
import Derived.Lib.SplitLaws
import Derived.Tactics
import Derived.Tactics2
import Derived.Defers
import Derived.Recover
import Derived.RegionDies
import Derived.Handed
import Derived.HandedShaped
import Derived.Shelf.Vars
import Derived.Test.YtepikijjagoehaaGreatDoorWtA01
import Derived.Test.YtepikijjagoehaaGreatDoorWtA07
import Derived.Test.YtepikijjagoehaaGreatDoorWtA12
import Derived.Test.YtepikijjagoehaaGreatDoorWtA16
import Derived.Test.YtepikijjagoehaaGreatDoorWtA17
import Derived.Test.YtepikijjagoehaaGreatDoorWtA21
namespace Go.Proofs.YtepikijjagoehaaGreatDoor
set_option linter.unusedVariables false
namespace WhA
end WhA
namespace Wh6
open Go.RowKit Go.Maps
open ValM LexM NumM ExM NmM StrM EvM EvP FoM Kit ExL ExP ExN RawV Within RawL RawN GenL TyM Ty EvF EvO EvR EvE FrmM Frm FrmT FrmO FldP FldC FcM PgM PgF ShE RkM RkD RkO RkT RkP RkS RkK TxR TxT TxK InpG WhM WhQ WhU WhT WhA Wh1 Wh2 Wh3 Wh4 Wh5 SMp KMp
set_option linter.unusedVariables false
theorem wf_nodes {es:List FE} {w:World} (hi:FIs w es) (hc:checkF (es.map FE.fd) (xOf es)=0) (k:Nat) (hk:k < es.length):(xOf es k).nodes<=1048576:=by
 obtain ⟨h1,h2⟩:=TxT.fl_ok (hi k hk) (TxT.own_zero (TxK.srcs_xOf es) hc k hk).1
 rw [TxK.srcs_xOf es k hk]
 have hk1:1<=es[k].kind/\es[k].kind<=3:=h1.k
 by_cases h:es[k].kind=1
 ·have:=h1.no h
  have e:es[k].x=noX:=this
  rw [e]; decide
 ·have:=(checkE_zero (h2 (by omega))).1
  omega
theorem gen_wf {rs:List Rw} {es:List FE} {ps:List PE} {P Q:Nat->Prop} {w:World} {FA PA:Option Addr} {fc pc:Nat} (hv:es.map FE.v=formF rs) (hr:FRow P w FA es) (hpv:ps.map PE.v=formP rs) (hpr:PRow Q w PA ps) (hcap:es.length<=fc/\fc<=maxLen) (hpcap:ps.length<=pc/\pc<=maxLen):WF es (xOf es) FA fc ps PA pc w:=by
 obtain ⟨hok,hrk,hn10,hp4⟩:=TxK.gen_ok hv hr hpv hpr
 obtain ⟨hpl,hgood,hgn,hsz⟩:=form_pages hv hr hpv hpr
 have hl:(es.map FE.fd).length=es.length:=List.length_map _
 refine ⟨⟨by omega,frow_flds hr,form_forms hv hr,fun k hk => wf_nodes hok.fi hok.fields k (by omega),by rw [hl]; exact hcap,prow_pgs hpr,prow_ok hpr hsz,hpcap,by omega,fun e he => ⟨(TxK.prow_caps hpr e he).1,?_⟩⟩,hok.src,hok.fi,?_⟩
 ·obtain ⟨k,hk,rfl⟩:=List.getElem_of_mem he
  exact form_nodes hv hr hpv k hk
 ·unfold formE
  rw [if_pos hrk]
  exact hok.pages
theorem small_wf {es:List FE} {ps:List PE} {P Q:Nat->Prop} {w:World} {FA PA:Option Addr} {fc pc:Nat} (hv:es.map FE.v=smallV) (hr:FRow P w FA es) (hpv:ps.map PE.v=smallP) (hpr:PRow Q w PA ps) (hcap:es.length<=fc/\fc<=maxLen) (hpcap:ps.length<=pc/\pc<=maxLen):WF es (xOf es) FA fc ps PA pc w:=by
 have hok:=TxK.small_ok hv hr hpv hpr
 obtain ⟨hF,hck,hnd⟩:=small_all hv hr
 obtain ⟨hpl,hpck,hsz⟩:=small_pages hv hpv hpr
 have hl:(es.map FE.fd).length=es.length:=List.length_map _
 have h3:=small_len hv
 refine ⟨⟨by omega,frow_flds hr,hF,fun k hk => wf_nodes hok.fi hok.fields k (by omega),by rw [hl]; exact hcap,prow_pgs hpr,prow_ok hpr hsz,hpcap,by omega,fun e he => ⟨(TxK.prow_caps hpr e he).1,?_⟩⟩,hok.src,hok.fi,?_⟩
 ·have hx:∀ v ∈ smallP,v.x.nodes<=1048576:=by decide
  have:=hx e.v (by rw [← hpv]; exact List.mem_map.2 ⟨e,he,rfl⟩)
  exact this
 ·unfold formE
  have hrk:rankE (es.map FE.fd) (xOf es)=0:=by
   unfold rankE
   rw [if_pos hck,if_pos]
   intro i hi
   rw [hnd,small_rank]
   obtain rfl | rfl | rfl:i=0 ∨ i=1 ∨ i=2:=by omega
   all_goals decide
  rw [if_pos hrk]
  exact hpck
def vW (v:FV):Fw:=⟨v.nm,v.kind,v.ty,v.x⟩
theorem small_w {es:List FE} (h:es.map FE.v=smallV):es.map toW=smallV.map vW:=by rw [← h,List.map_map]; rfl
def fa4:Fc:=⟨⟨#[97]⟩,0,0,⟨#[]⟩,⟨1,4,⟨#[]⟩⟩⟩
theorem small_vals:allV ([fa4].map toO) ([].map toO) (smallV.map vW)=[⟨1,5,⟨#[]⟩⟩,⟨1,4,⟨#[]⟩⟩,⟨4,0,⟨#[]⟩⟩]:=by kernel_rfl
theorem small_a4 {es:List FE} (h:es.map FE.v=smallV):factsE (es.map FE.fd) [fa4]=0:=by
 have hl:=small_len h
 match es,h,hl with
 | [a,b,c],h,_ =>
  simp only [List.map_cons,List.map_nil,smallV,List.cons.injEq,and_true] at h
  obtain ⟨h1,h2,h3⟩:=h
  have e1:a.fd.nm=⟨#[98]⟩:=congrArg FV.nm h1
  have e2:b.fd.nm=⟨#[97]⟩:=congrArg FV.nm h2
  have k2:b.fd.kind=1:=congrArg FV.kind h2
  have t2:b.fd.ty=1:=congrArg FV.ty h2
  have hat:atF [a.fd,b.fd,c.fd] ⟨#[97]⟩=1:=by
   unfold atF
   rw [if_neg (by rw [e1]; decide)]
   unfold atF
   rw [if_pos e2]
  have ht:toldE [a.fd,b.fd,c.fd] ⟨#[97]⟩ 1 4 ⟨#[]⟩=0:=by
   unfold toldE
   rw [dif_pos (show atF [a.fd,b.fd,c.fd] ⟨#[97]⟩ < [a.fd,b.fd,c.fd].length from (by rw [hat]; exact Nat.succ_lt_succ (Nat.succ_pos _)))]
   simp only [hat,List.getElem_cons_succ,List.getElem_cons_zero]
   rw [k2,if_pos rfl,t2,if_pos ⟨by decide,rfl⟩]
  simp only [List.map_cons,List.map_nil]
  have h0:factE [a.fd,b.fd,c.fd] [fa4] 0=0:=by
   unfold factE
   rw [dif_pos (show 0 < [fa4].length from Nat.zero_lt_one)]
   show (if toldE [a.fd,b.fd,c.fd] ⟨#[97]⟩ 1 4 ⟨#[]⟩=0 then (if keyZ fa4=true then (if metB [fa4] 0 ⟨#[97]⟩=true then 6 else 0) else 3) else toldE [a.fd,b.fd,c.fd] ⟨#[97]⟩ 1 4 ⟨#[]⟩)=0
   rw [if_pos ht,if_pos (show keyZ fa4=true by decide),metB_zero,if_neg (by decide)]
  exact facts_all fun j hj => by
   obtain rfl:j=0:=by
    have:j < 1:=hj
    omega
   exact h0
theorem small_order {es:List FE} {P:Nat->Prop} {w:World} {FA:Option Addr} {fc:Nat} (hv:es.map FE.v=smallV) (hr:FRow P w FA es) (hcap:es.length<=fc/\fc<=maxLen) (hT:Tab w):∀ V:World,Below w.heap.size w V->Calls Tryz.prog 58 #[.slice FA es.length fc] V (OrdOut es.length (rankF (needsF (es.map FE.fd) (xOf es))) V):=fun V hb => by
 obtain ⟨hF,hck,hnd⟩:=small_all hv hr
 have hl:(es.map FE.fd).length=es.length:=List.length_map _
 have h3:=small_len hv
 have hof:=of_ok (es.map FE.fd) (xOf es) FA fc V (by rw [hl,h3]; decide) ((frow_flds hr).below hb) (hF.below hb) (hT.below hb) (by rw [hl]; exact hcap) hck (fun i hi => by
   rw [hnd,small_rank]
   rw [hl,h3] at hi
   obtain rfl | rfl | rfl:i=0 ∨ i=1 ∨ i=2:=by omega
   all_goals decide)
 rw [hl] at hof
 exact (order_ok _ es.length FA fc V (by rw [needsF_len,hl]) (by omega) (by omega) hof).mono fun e w' h => ordOut_of h
set_option maxRecDepth 100000 in
set_option maxHeartbeats 4000000 in
theorem known_any (w:World) (hT:Tab w):Calls Tryz.prog 28 #[] w fun e w' => e=.returned (.bool true)/\Below w.heap.size w w':=by
 have HT:=Lib.hid hT
 clear hT
 go_enter Tryz.func28,Tryz.ntmps28
 go_wp2_with fail
 refine (small_any w).mono ?_; rintro e v1 ⟨es,FA,fc,ps,PA,pc,rfl,hv,hpv,hfr,hpr,hb,hcap,hpcap⟩
 obtain ⟨W2,hW2⟩:∃ V,v1.alloc (.cells #[.string ⟨#[97]⟩,.int .i64 0,.int .i64 0,.string ⟨#[]⟩,.int .i64 1,.int .i64 4,.string ⟨#[]⟩] 71)=V:=⟨_,rfl⟩
 have hb2:=b_new v1 (.cells #[.string ⟨#[97]⟩,.int .i64 0,.int .i64 0,.string ⟨#[]⟩,.int .i64 1,.int .i64 4,.string ⟨#[]⟩] 71)
 have hblk:=World.alloc_heap_new v1 (.cells #[.string ⟨#[97]⟩,.int .i64 0,.int .i64 0,.string ⟨#[]⟩,.int .i64 1,.int .i64 4,.string ⟨#[]⟩] 71)
 rw [hW2] at hb2 hblk
 have hwf:=small_wf hv hfr hpv hpr hcap hpcap
 have hfi:FctIn [fa4] (some ⟨v1.heap.size,0,none⟩) W2:=by
  refine ⟨fcs_of fun j hj => ?_,fun f hf => ?_,?_⟩
  ·have hj7:j < 7:=hj
   show W2.cell? ⟨v1.heap.size,j,none⟩=(fcR [fa4])[j]?
   have e:W2.cell? ⟨v1.heap.size,j,none⟩=(#[.string ⟨#[97]⟩,.int .i64 0,.int .i64 0,.string ⟨#[]⟩,.int .i64 1,.int .i64 4,.string ⟨#[]⟩]:Array Value)[j]?:=by simp [World.cell?,hblk]
   rw [e]
   obtain rfl | rfl | rfl | rfl | rfl | rfl | rfl:j=0 ∨ j=1 ∨ j=2 ∨ j=3 ∨ j=4 ∨ j=5 ∨ j=6:=by omega
   all_goals rfl
  ·rw [List.mem_singleton] at hf
   subst hf
   show (1:Nat)<=maxLen
   unfold maxLen; decide
  ·show (1:Nat)<=maxLen
   unfold maxLen; decide
 have hT1:=HT.out.below hb
 have hall:=all_any (ic:=1) (oc:=0) (hwf.below hb2) hfi (FctIn.nil W2) (small_a4 hv) rfl (hT1.below hb2) (fun V hV => small_order hv hfr hcap hT1 V (b_trans hb2 hV))
 rw [small_w hv,small_vals,small_len hv] at hall
 have HAll:=Lib.hid hall
 have HB2:=Lib.hid (b_trans hb hb2)
 have HW2:=Lib.hid hW2
 rw [small_len hv]
 clear hall hv hpv hfr hpr hb hcap hpcap hb2 hblk hwf hfi hT1 hW2
 go_wp2_with fail
 rw [HW2.out]
 refine HAll.out.mono ?_; rintro e w3 ⟨g,rfl,hg,hrow,hb3⟩
 have c0:=hrow.at 0 (by decide)
 have c2:=hrow.at 2 (by decide)
 have x1:w3.cell? ⟨g,1,none⟩=some (.int .i64 5):=c0.2.1
 have x6:w3.cell? ⟨g,6,none⟩=some (.int .i64 4):=c2.1
 have HBE:=Lib.hid (b_trans HB2.out hb3)
 clear c0 c2 hrow hb3 hg
 go_wp2_with fail
 go_ret
 exact ⟨rfl,HBE.out⟩
end Wh6
namespace Wh7
open Go.RowKit Go.Maps
open ValM LexM NumM ExM NmM StrM EvM EvP FoM Kit ExL ExP ExN RawV Within RawL RawN GenL TyM Ty EvF EvO EvR EvE FrmM Frm FrmT FrmO FldP FldC FcM PgM PgF ShE RkM RkD RkO RkT RkP RkS RkK TxR TxT TxK InpG FcF WhM WhQ WhU WhT WhA Wh1 Wh2 Wh3 Wh4 Wh5 Wh6 SMp KMp
set_option linter.unusedVariables false
structure GS (es:List FE) (ps:List PE) (FA:Option Addr) (fc:Nat) (PA:Option Addr) (pc:Nat) (qs:List Rw) (I:List Fc) (v:World):Prop where
 wf:WF es (xOf es) FA fc ps PA pc v
 tab:Tab v
 n1:1<=es.length
 n10:es.length<=10
 il:I.length<=10
 fz:factsE (es.map FE.fd) I=0
 nd:(I.map Fc.nm).Nodup
 inm:∀ f ∈ I,f.nm.size<=maxLen
 nms:∀ f ∈ es.map toW,nmB f.nm.data.toList=true
 inp:∀ (A:Option Addr) (c:Nat) (V:World),Below v.heap.size v V->RawsV V A qs c->Calls Tryz.prog 26 #[.agg #[.slice FA es.length fc,.slice PA ps.length pc],.slice A qs.length c] V fun e w' => ∃ (IA:Option Addr) (ic:Nat),e=.returned (.slice IA I.length ic)/\FctIn I IA w'/\Below V.heap.size V w'
 ord:∀ V,Below v.heap.size v V->Calls Tryz.prog 58 #[.slice FA es.length fc] V (OrdOut es.length (rankF (needsF (es.map FE.fd) (xOf es))) V)
theorem gen_start {rs:List Rw} {es:List FE} {ps:List PE} {P Q:Nat->Prop} {w:World} {FA PA:Option Addr} {fc pc:Nat} (qs:List Rw) (hv:es.map FE.v=formF rs) (hr:FRow P w FA es) (hpv:ps.map PE.v=formP rs) (hpr:PRow Q w PA ps) (hcap:es.length<=fc/\fc<=maxLen) (hpcap:ps.length<=pc/\pc<=maxLen) (hT:Tab w) :
  GS es ps FA fc PA pc qs (inpV qs (es.map FE.fd) (es.map FE.fd).length).1 w:=by
 have hB:=form_base hv hr
 have hO:=FcF.own_base hB
 have hl:(es.map FE.fd).length=es.length:=List.length_map _
 have h10:=hB.ten
 rw [hl] at h10
 have hR:=form_rank hv hr hcap hT
 have h1:=(countV_bd rs).1
 have hok:=TxK.gen_ok hv hr hpv hpr
 have hgood:=good_in hO qs
 have hnm:∀ (k:Nat) (h:k < (es.map FE.fd).length),(es.map FE.fd)[k].nm.size<=maxLen:=fun k hk => by
  rw [hB.nm k hk]
  have:=nmK_size (plc rs k)
  unfold maxLen; omega
 have hin:∀ f ∈ (inpV qs (es.map FE.fd) (es.map FE.fd).length).1,f.nm.size<=maxLen:=fun f hf => by
  obtain ⟨j,hj,r,_,_,rfl⟩:=inpV_mem qs _ _ f hf
  exact hnm j hj
 have hil:(inpV qs (es.map FE.fd) (es.map FE.fd).length).1.length<=10:=by
  have:=(inpV_le qs (es.map FE.fd) (es.map FE.fd).length).2
  omega
 refine { wf:=gen_wf hv hr hpv hpr hcap hpcap,tab:=hT,n1:=by rw [hR.len]; exact h1,n10:=h10,il:=hil,fz:=good_facts hgood,nd:=hgood.nd,inm:=hin,nms:=fun f hf => ?_,inp:=fun A c V hV hq => ?_,ord:=fun V hV => (RkF.form_order hv hr hcap hT V hV).mono fun e w' h => ordOut_of h }
 ·obtain ⟨e,he,rfl⟩:=List.mem_map.1 hf
  obtain ⟨k,hk,rfl⟩:=List.getElem_of_mem he
  exact (TxT.fl_ok (hok.1.fi k hk) (TxT.own_zero (TxK.srcs_xOf es) hok.1.fields k hk).1).1.nm
 ·have h:=inputs_any c A qs (es.map FE.fd) FA fc PA ps.length pc V hq ((frow_flds hr).below hV) (by omega)
  rw [hl] at h
  refine h.mono fun e w' h => ?_
  unfold InpOut at h
  obtain ⟨OA,oc,h2,hfc,hown,hb⟩:=h
  exact ⟨OA,oc,h2,⟨hfc,hin,by unfold maxLen; omega⟩,hb⟩
theorem GS.all {es:List FE} {ps:List PE} {FA:Option Addr} {fc:Nat} {PA:Option Addr} {pc:Nat} {qs:List Rw} {I:List Fc} {v:World} (h:GS es ps FA fc PA pc qs I v) {V:World} (hV:Below v.heap.size v V) {IA:Option Addr} {ic:Nat} {O:List Fc} {OA:Option Addr} {oc:Nat} (hi:FctIn I IA V) (ho:FctIn O OA V) (hor:orcE (es.map FE.fd) (xOf es) O=0) :
  Calls Tryz.prog 22 #[.agg #[.slice FA es.length fc,.slice PA ps.length pc],.slice IA I.length ic,.slice OA O.length oc] V (AllOut (allV (I.map toO) (O.map toO) (es.map toW)) V) :=
 all_any (ic:=ic) (oc:=oc) (h.wf.below hV) hi ho h.fz hor (h.tab.below hV) (fun V' hV' => h.ord V' (b_trans hV hV'))
theorem allW_len {es:List FE} (I O:List Fo):(allV I O (es.map toW)).length=es.length:=by rw [all_len,List.length_map]
def wantK (L:List Fc) (f:Fw):Nat->Vl
 | 0 => ⟨f.ty,0,e0⟩
 | k + 1 => if h:k < L.length then (if L[k].nm=f.nm then L[k].v else wantK L f k) else wantK L f k
theorem want_hit {L:List Fc} {f:Fw} {k:Nat} (h:k < L.length) (e:L[k].nm=f.nm):wantK L f (k + 1)=L[k].v:=by
 show (if h:k < L.length then _ else _)=_
 rw [dif_pos h,if_pos e]
theorem want_miss {L:List Fc} {f:Fw} {k:Nat} (h:k < L.length) (e:L[k].nm ≠ f.nm):wantK L f (k + 1)=wantK L f k:=by
 show (if h:k < L.length then _ else _)=_
 rw [dif_pos h,if_neg e]
theorem want_in {L:List Fc} {f:Fw} (hnd:(L.map Fc.nm).Nodup):wantK L f L.length=inV (L.map toO) f:=by
 have key:∀ k,k<=L.length->(∀ (j:Nat) (hj:j < L.length),j < k->L[j].nm=f.nm->wantK L f k=L[j].v)/\((∀ (j:Nat) (hj:j < L.length),j < k->L[j].nm ≠ f.nm)->wantK L f k=⟨f.ty,0,e0⟩):=by
  intro k
  induction k with
  | zero => exact fun _ => ⟨fun j _ hj => absurd hj (Nat.not_lt_zero _),fun _ => rfl⟩
  | succ k ih =>
   intro hk
   obtain ⟨i1,i2⟩:=ih (by omega)
   have hkl:k < L.length:=by omega
   by_cases e:L[k].nm=f.nm
   ·refine ⟨fun j hj hjk ej => ?_,fun h => absurd e (h k hkl (Nat.lt_succ_self _))⟩
    rw [want_hit hkl e]
    by_cases hjk2:j=k
    ·subst hjk2; rfl
    ·exfalso
     have:=List.pairwise_iff_getElem.1 hnd j k (by rw [List.length_map]; exact hj) (by rw [List.length_map]; exact hkl) (by omega)
     rw [List.getElem_map,List.getElem_map,ej,e] at this
     exact this rfl
   ·rw [want_miss hkl e]
    refine ⟨fun j hj hjk ej => ?_,fun h => i2 fun j hj hjk => h j hj (by omega)⟩
    by_cases hjk2:j=k
    ·subst hjk2; exact absurd ej e
    ·exact i1 j hj (by omega) ej
 obtain ⟨k1,k2⟩:=key L.length (Nat.le_refl _)
 by_cases h:∃ (j:Nat) (hj:j < L.length),L[j].nm=f.nm
 ·obtain ⟨j,hj,e⟩:=h
  rw [k1 j hj hj e]
  have hfirst:∀ i (hi:i < (L.map toO).length),i < j->(L.map toO)[i].nm ≠ f.nm:=fun i hi hij e2 => by
   rw [List.length_map] at hi
   rw [List.getElem_map] at e2
   have e2':L[i].nm=f.nm:=e2
   have:=List.pairwise_iff_getElem.1 hnd i j (by rw [List.length_map]; exact hi) (by rw [List.length_map]; exact hj) hij
   rw [List.getElem_map,List.getElem_map,e2',e] at this
   exact this rfl
  rw [inV_at f (L.map toO) j (by rw [List.length_map]; exact hj) hfirst (by rw [List.getElem_map]; exact e),List.getElem_map]
  rfl
 ·have hno:∀ (j:Nat) (hj:j < L.length),L[j].nm ≠ f.nm:=fun j hj e => h ⟨j,hj,e⟩
  rw [k2 fun j hj _ => hno j hj,inV_no f (L.map toO) fun j hj => by rw [List.length_map] at hj; rw [List.getElem_map]; exact hno j hj]
end Wh7
namespace ShA
open Go
variable {H:Type} {enc:TypeId × Value->H}
theorem and_shaped {a:Assume} {C:Checked} {os:Os} {f:FuncId} {fn:Func} {s:ChangeSpec} {conds:List PathCond} {apart fresh handsOn again:Bool} {X:World->Array Value->Prop} (hX:∀ (v v':World) (xs:Array Value),v.heap=v'.heap->X v xs->X v' xs)
  (own:ownKnob C.prog.godebug=none) (started:os.Started) (noInit:C.prog.inits.idxOf? f=none) (hfn:C.prog.funcs[f]?=some fn)
  (wit:∃ (v:World) (t:Tape) (i:Input),v.os=os/\(v.forCall t i).Shaped C.prog/\i.vars=[]/\Input.okWide C.prog (v.forCall t i) .any v.heap.size f i ∧
   ((s.pre enc C.prog fn conds apart (v.forCall t i).memory i.args/\X (v.forCall t i).memory i.args)/\sizedMet enc C.prog fn (OpenSpec.ofChange s) apart (v.forCall t i).memory i.args)/\a.holds C.prog (lone (Frame.enter C.prog f i.args .normal) [] (v.forCall t i)))
  (body:∀ (V:World) (b:Nat) (xs:Array Value) (ds gs:List (DataW H)) (bef:List MemPlace),(∀ (j:Nat) t v,fn.params[j]?=some t->xs[j]?=some v->Value.okWide C.prog V .any b t v)->DataW.Whole enc C.prog fn.params.toList s.vars apart V xs.toList ds gs bef →
   conds.all (PathCond.test C.prog ⟨fn.params.toList,ds,s.plain.varTypes C.prog,gs⟩)=true->(DataW.weightsEach C.prog (fn.params.toList ++ s.plain.varTypes C.prog) (ds ++ gs)).all (·<=reachBytes)=true->X V xs->V.ShapedOpen C.prog →
   a.holds C.prog (lone (Frame.enter C.prog f xs .normal) [] V)->Calls C.prog f xs V fun e V' => ∃ v,e=.returned v/\s.post enc C.prog fn apart fresh handsOn again V xs v V') :
  ReturnsInHanded a C os f .any (fun v xs => (s.pre enc C.prog fn conds apart v xs/\X v xs)/\sizedMet enc C.prog fn (OpenSpec.ofChange s) apart v xs) (s.post enc C.prog fn apart fresh handsOn again):=by
 refine returnsInHanded_of_calls own started noInit wit fun v t i _ hsh _ hok hpre hh => ?_
 obtain ⟨_,_,_,fn',hfn',_,_,_,_,hval⟩:=hok
 obtain rfl:fn'=fn:=Option.some.inj (hfn'.symm.trans hfn)
 obtain ⟨⟨⟨ds,gs,bef,hw,hc⟩,hx⟩,hz⟩:=hpre
 refine (body (v.forCall t i) v.heap.size i.args ds gs bef hval (DataW.Whole.of_heap (w':=v.forCall t i) (by rfl) hw) hc (hz.weights hw) (hX _ _ _ (by rfl) hx) hsh hh).mono fun e V' h => ?_
 obtain ⟨r,rfl,hp⟩:=h
 exact ChangeSpec.post_blind hp
end ShA
end Go.Proofs.YtepikijjagoehaaGreatDoor
