/- Wh6 Wh7 Wh8 Wh9: what these laws name of them. -/
import Derived.Test.YtonlkmkfcaadlaaGreatDoorKw21
namespace Go.Proofs.YtonlkmkfcaadlaaGreatDoor
set_option linter.unusedVariables false
namespace Wh6
open Go.RowKit Go.Maps
open ValM LexM NumM ExM NmM StrM EvM EvP FoM Kit ExL ExP ExN RawV Within RawL RawN GenL TyM Ty EvF EvO EvR EvE FrmM Frm FrmT FrmO FldP FldC FcM PgM PgF ShE RkM RkD RkO RkT RkP RkS RkK TxR TxT TxK InpG WhM WhQ WhU WhT WhA Wh1 Wh2 Wh3 Wh4 Wh5 SMp KMp
set_option linter.unusedVariables false
theorem wf_nodes {es:List FE} {w:World} (hi:FIs w es) (hc:checkF (es.map FE.fd) (xOf es)=0) (k:Nat) (hk:k < es.length):(xOf es k).nodes<=1048576:=by
 obtain ⟨h1,h2⟩:=TxT.fl_ok (hi k hk) (TxT.own_zero (TxK.srcs_xOf es) hc k hk).1
 rw [TxK.srcs_xOf es k hk]
 have hk1:1<=es[k].kind/\es[k].kind<=3:=h1.k
 by_cases h:es[k].kind=1
 ·have:=h1.no h
  have e:es[k].x=noX:=this
  rw [e]; decide
 ·have:=(checkE_zero (h2 (by omega))).1
  omega
theorem gen_wf {rs:List Rw} {es:List FE} {ps:List PE} {P Q:Nat->Prop} {w:World} {FA PA:Option Addr} {fc pc:Nat} (hv:es.map FE.v=formF rs) (hr:FRow P w FA es) (hpv:ps.map PE.v=formP rs) (hpr:PRow Q w PA ps) (hcap:es.length<=fc/\fc<=maxLen) (hpcap:ps.length<=pc/\pc<=maxLen):WF es (xOf es) FA fc ps PA pc w:=by
 obtain ⟨hok,hrk,hn10,hp4⟩:=TxK.gen_ok hv hr hpv hpr
 obtain ⟨hpl,hgood,hgn,hsz⟩:=form_pages hv hr hpv hpr
 have hl:(es.map FE.fd).length=es.length:=List.length_map _
 refine ⟨⟨by omega,frow_flds hr,form_forms hv hr,fun k hk => wf_nodes hok.fi hok.fields k (by omega),by rw [hl]; exact hcap,prow_pgs hpr,prow_ok hpr hsz,hpcap,by omega,fun e he => ⟨(TxK.prow_caps hpr e he).1,?_⟩⟩,hok.src,hok.fi,?_⟩
 ·obtain ⟨k,hk,rfl⟩:=List.getElem_of_mem he
  exact form_nodes hv hr hpv k hk
 ·unfold formE
  rw [if_pos hrk]
  exact hok.pages
theorem small_wf {es:List FE} {ps:List PE} {P Q:Nat->Prop} {w:World} {FA PA:Option Addr} {fc pc:Nat} (hv:es.map FE.v=smallV) (hr:FRow P w FA es) (hpv:ps.map PE.v=smallP) (hpr:PRow Q w PA ps) (hcap:es.length<=fc/\fc<=maxLen) (hpcap:ps.length<=pc/\pc<=maxLen):WF es (xOf es) FA fc ps PA pc w:=by
 have hok:=TxK.small_ok hv hr hpv hpr
 obtain ⟨hF,hck,hnd⟩:=small_all hv hr
 obtain ⟨hpl,hpck,hsz⟩:=small_pages hv hpv hpr
 have hl:(es.map FE.fd).length=es.length:=List.length_map _
 have h3:=small_len hv
 refine ⟨⟨by omega,frow_flds hr,hF,fun k hk => wf_nodes hok.fi hok.fields k (by omega),by rw [hl]; exact hcap,prow_pgs hpr,prow_ok hpr hsz,hpcap,by omega,fun e he => ⟨(TxK.prow_caps hpr e he).1,?_⟩⟩,hok.src,hok.fi,?_⟩
 ·have hx:∀ v ∈ smallP,v.x.nodes<=1048576:=by decide
  have:=hx e.v (by rw [← hpv]; exact List.mem_map.2 ⟨e,he,rfl⟩)
  exact this
 ·unfold formE
  have hrk:rankE (es.map FE.fd) (xOf es)=0:=by
   unfold rankE
   rw [if_pos hck,if_pos]
   intro i hi
   rw [hnd,small_rank]
   obtain rfl | rfl | rfl:i=0 ∨ i=1 ∨ i=2:=by omega
   all_goals decide
  rw [if_pos hrk]
  exact hpck
def vW (v:FV):Fw:=⟨v.nm,v.kind,v.ty,v.x⟩
theorem small_w {es:List FE} (h:es.map FE.v=smallV):es.map toW=smallV.map vW:=by rw [← h,List.map_map]; rfl
def fa4:Fc:=⟨⟨#[97]⟩,0,0,⟨#[]⟩,⟨1,4,⟨#[]⟩⟩⟩
theorem small_vals:allV ([fa4].map toO) ([].map toO) (smallV.map vW)=[⟨1,5,⟨#[]⟩⟩,⟨1,4,⟨#[]⟩⟩,⟨4,0,⟨#[]⟩⟩]:=by kernel_rfl
theorem small_a4 {es:List FE} (h:es.map FE.v=smallV):factsE (es.map FE.fd) [fa4]=0:=by
 have hl:=small_len h
 match es,h,hl with
 | [a,b,c],h,_ =>
  simp only [List.map_cons,List.map_nil,smallV,List.cons.injEq,and_true] at h
  obtain ⟨h1,h2,h3⟩:=h
  have e1:a.fd.nm=⟨#[98]⟩:=congrArg FV.nm h1
  have e2:b.fd.nm=⟨#[97]⟩:=congrArg FV.nm h2
  have k2:b.fd.kind=1:=congrArg FV.kind h2
  have t2:b.fd.ty=1:=congrArg FV.ty h2
  have hat:atF [a.fd,b.fd,c.fd] ⟨#[97]⟩=1:=by
   unfold atF
   rw [if_neg (by rw [e1]; decide)]
   unfold atF
   rw [if_pos e2]
  have ht:toldE [a.fd,b.fd,c.fd] ⟨#[97]⟩ 1 4 ⟨#[]⟩=0:=by
   unfold toldE
   rw [dif_pos (show atF [a.fd,b.fd,c.fd] ⟨#[97]⟩ < [a.fd,b.fd,c.fd].length from (by rw [hat]; exact Nat.succ_lt_succ (Nat.succ_pos _)))]
   simp only [hat,List.getElem_cons_succ,List.getElem_cons_zero]
   rw [k2,if_pos rfl,t2,if_pos ⟨by decide,rfl⟩]
  simp only [List.map_cons,List.map_nil]
  have h0:factE [a.fd,b.fd,c.fd] [fa4] 0=0:=by
   unfold factE
   rw [dif_pos (show 0 < [fa4].length from Nat.zero_lt_one)]
   show (if toldE [a.fd,b.fd,c.fd] ⟨#[97]⟩ 1 4 ⟨#[]⟩=0 then (if keyZ fa4=true then (if metB [fa4] 0 ⟨#[97]⟩=true then 6 else 0) else 3) else toldE [a.fd,b.fd,c.fd] ⟨#[97]⟩ 1 4 ⟨#[]⟩)=0
   rw [if_pos ht,if_pos (show keyZ fa4=true by decide),metB_zero,if_neg (by decide)]
  exact facts_all fun j hj => by
   obtain rfl:j=0:=by
    have:j < 1:=hj
    omega
   exact h0
theorem small_order {es:List FE} {P:Nat->Prop} {w:World} {FA:Option Addr} {fc:Nat} (hv:es.map FE.v=smallV) (hr:FRow P w FA es) (hcap:es.length<=fc/\fc<=maxLen) (hT:Tab w):∀ V:World,Below w.heap.size w V->Calls Tryz.prog 48 #[.slice FA es.length fc] V (OrdOut es.length (rankF (needsF (es.map FE.fd) (xOf es))) V):=fun V hb => by
 obtain ⟨hF,hck,hnd⟩:=small_all hv hr
 have hl:(es.map FE.fd).length=es.length:=List.length_map _
 have h3:=small_len hv
 have hof:=of_ok (es.map FE.fd) (xOf es) FA fc V (by rw [hl,h3]; decide) ((frow_flds hr).below hb) (hF.below hb) (hT.below hb) (by rw [hl]; exact hcap) hck (fun i hi => by
   rw [hnd,small_rank]
   rw [hl,h3] at hi
   obtain rfl | rfl | rfl:i=0 ∨ i=1 ∨ i=2:=by omega
   all_goals decide)
 rw [hl] at hof
 exact (order_ok _ es.length FA fc V (by rw [needsF_len,hl]) (by omega) (by omega) hof).mono fun e w' h => ordOut_of h
set_option maxRecDepth 100000 in
set_option maxHeartbeats 4000000 in
theorem known_any (w:World) (hT:Tab w):Calls Tryz.prog 16 #[] w fun e w' => e=.returned (.bool true)/\Below w.heap.size w w':=by
 have HT:=Lib.hid hT
 clear hT
 go_enter Tryz.func16,Tryz.ntmps16
 go_wp2_with fail
 refine (small_any w).mono ?_; rintro e v1 ⟨es,FA,fc,ps,PA,pc,rfl,hv,hpv,hfr,hpr,hb,hcap,hpcap⟩
 obtain ⟨W2,hW2⟩:∃ V,v1.alloc (.cells #[.string ⟨#[97]⟩,.int .i64 0,.int .i64 0,.string ⟨#[]⟩,.int .i64 1,.int .i64 4,.string ⟨#[]⟩] 57)=V:=⟨_,rfl⟩
 have hb2:=b_new v1 (.cells #[.string ⟨#[97]⟩,.int .i64 0,.int .i64 0,.string ⟨#[]⟩,.int .i64 1,.int .i64 4,.string ⟨#[]⟩] 57)
 have hblk:=World.alloc_heap_new v1 (.cells #[.string ⟨#[97]⟩,.int .i64 0,.int .i64 0,.string ⟨#[]⟩,.int .i64 1,.int .i64 4,.string ⟨#[]⟩] 57)
 rw [hW2] at hb2 hblk
 have hwf:=small_wf hv hfr hpv hpr hcap hpcap
 have hfi:FctIn [fa4] (some ⟨v1.heap.size,0,none⟩) W2:=by
  refine ⟨fcs_of fun j hj => ?_,fun f hf => ?_,?_⟩
  ·have hj7:j < 7:=hj
   show W2.cell? ⟨v1.heap.size,j,none⟩=(fcR [fa4])[j]?
   have e:W2.cell? ⟨v1.heap.size,j,none⟩=(#[.string ⟨#[97]⟩,.int .i64 0,.int .i64 0,.string ⟨#[]⟩,.int .i64 1,.int .i64 4,.string ⟨#[]⟩]:Array Value)[j]?:=by simp [World.cell?,hblk]
   rw [e]
   obtain rfl | rfl | rfl | rfl | rfl | rfl | rfl:j=0 ∨ j=1 ∨ j=2 ∨ j=3 ∨ j=4 ∨ j=5 ∨ j=6:=by omega
   all_goals rfl
  ·rw [List.mem_singleton] at hf
   subst hf
   show (1:Nat)<=maxLen
   unfold maxLen; decide
  ·show (1:Nat)<=maxLen
   unfold maxLen; decide
 have hT1:=HT.out.below hb
 have hall:=all_any (ic:=1) (oc:=0) (hwf.below hb2) hfi (FctIn.nil W2) (small_a4 hv) rfl (hT1.below hb2) (fun V hV => small_order hv hfr hcap hT1 V (b_trans hb2 hV))
 rw [small_w hv,small_vals,small_len hv] at hall
 have HAll:=Lib.hid hall
 have HB2:=Lib.hid (b_trans hb hb2)
 have HW2:=Lib.hid hW2
 rw [small_len hv]
 clear hall hv hpv hfr hpr hb hcap hpcap hb2 hblk hwf hfi hT1 hW2
 go_wp2_with fail
 rw [HW2.out]
 refine HAll.out.mono ?_; rintro e w3 ⟨g,rfl,hg,hrow,hb3⟩
 have c0:=hrow.at 0 (by decide)
 have c2:=hrow.at 2 (by decide)
 have x1:w3.cell? ⟨g,1,none⟩=some (.int .i64 5):=c0.2.1
 have x6:w3.cell? ⟨g,6,none⟩=some (.int .i64 4):=c2.1
 have HBE:=Lib.hid (b_trans HB2.out hb3)
 clear c0 c2 hrow hb3 hg
 go_wp2_with fail
 go_ret
 exact ⟨rfl,HBE.out⟩
end Wh6
namespace Wh7
open Go.RowKit Go.Maps
open ValM LexM NumM ExM NmM StrM EvM EvP FoM Kit ExL ExP ExN RawV Within RawL RawN GenL TyM Ty EvF EvO EvR EvE FrmM Frm FrmT FrmO FldP FldC FcM PgM PgF ShE RkM RkD RkO RkT RkP RkS RkK TxR TxT TxK InpG FcF WhM WhQ WhU WhT WhA Wh1 Wh2 Wh3 Wh4 Wh5 Wh6 SMp KMp
set_option linter.unusedVariables false
structure GS (es:List FE) (ps:List PE) (FA:Option Addr) (fc:Nat) (PA:Option Addr) (pc:Nat) (qs:List Rw) (I:List Fc) (v:World):Prop where
 wf:WF es (xOf es) FA fc ps PA pc v
 tab:Tab v
 n1:1<=es.length
 n10:es.length<=10
 il:I.length<=10
 fz:factsE (es.map FE.fd) I=0
 nd:(I.map Fc.nm).Nodup
 inm:∀ f ∈ I,f.nm.size<=maxLen
 nms:∀ f ∈ es.map toW,nmB f.nm.data.toList=true
 inp:∀ (A:Option Addr) (c:Nat) (V:World),Below v.heap.size v V->RawsV V A qs c->Calls Tryz.prog 13 #[.agg #[.slice FA es.length fc,.slice PA ps.length pc],.slice A qs.length c] V fun e w' => ∃ (IA:Option Addr) (ic:Nat),e=.returned (.slice IA I.length ic)/\FctIn I IA w'/\Below V.heap.size V w'
 ord:∀ V,Below v.heap.size v V->Calls Tryz.prog 48 #[.slice FA es.length fc] V (OrdOut es.length (rankF (needsF (es.map FE.fd) (xOf es))) V)
theorem gen_start {rs:List Rw} {es:List FE} {ps:List PE} {P Q:Nat->Prop} {w:World} {FA PA:Option Addr} {fc pc:Nat} (qs:List Rw) (hv:es.map FE.v=formF rs) (hr:FRow P w FA es) (hpv:ps.map PE.v=formP rs) (hpr:PRow Q w PA ps) (hcap:es.length<=fc/\fc<=maxLen) (hpcap:ps.length<=pc/\pc<=maxLen) (hT:Tab w) :
  GS es ps FA fc PA pc qs (inpV qs (es.map FE.fd) (es.map FE.fd).length).1 w:=by
 have hB:=form_base hv hr
 have hO:=FcF.own_base hB
 have hl:(es.map FE.fd).length=es.length:=List.length_map _
 have h10:=hB.ten
 rw [hl] at h10
 have hR:=form_rank hv hr hcap hT
 have h1:=(countV_bd rs).1
 have hok:=TxK.gen_ok hv hr hpv hpr
 have hgood:=good_in hO qs
 have hnm:∀ (k:Nat) (h:k < (es.map FE.fd).length),(es.map FE.fd)[k].nm.size<=maxLen:=fun k hk => by
  rw [hB.nm k hk]
  have:=nmK_size (plc rs k)
  unfold maxLen; omega
 have hin:∀ f ∈ (inpV qs (es.map FE.fd) (es.map FE.fd).length).1,f.nm.size<=maxLen:=fun f hf => by
  obtain ⟨j,hj,r,_,_,rfl⟩:=inpV_mem qs _ _ f hf
  exact hnm j hj
 have hil:(inpV qs (es.map FE.fd) (es.map FE.fd).length).1.length<=10:=by
  have:=(inpV_le qs (es.map FE.fd) (es.map FE.fd).length).2
  omega
 refine { wf:=gen_wf hv hr hpv hpr hcap hpcap,tab:=hT,n1:=by rw [hR.len]; exact h1,n10:=h10,il:=hil,fz:=good_facts hgood,nd:=hgood.nd,inm:=hin,nms:=fun f hf => ?_,inp:=fun A c V hV hq => ?_,ord:=fun V hV => (RkF.form_order hv hr hcap hT V hV).mono fun e w' h => ordOut_of h }
 ·obtain ⟨e,he,rfl⟩:=List.mem_map.1 hf
  obtain ⟨k,hk,rfl⟩:=List.getElem_of_mem he
  exact (TxT.fl_ok (hok.1.fi k hk) (TxT.own_zero (TxK.srcs_xOf es) hok.1.fields k hk).1).1.nm
 ·have h:=inputs_any c A qs (es.map FE.fd) FA fc PA ps.length pc V hq ((frow_flds hr).below hV) (by omega)
  rw [hl] at h
  refine h.mono fun e w' h => ?_
  unfold InpOut at h
  obtain ⟨OA,oc,h2,hfc,hown,hb⟩:=h
  exact ⟨OA,oc,h2,⟨hfc,hin,by unfold maxLen; omega⟩,hb⟩
theorem GS.all {es:List FE} {ps:List PE} {FA:Option Addr} {fc:Nat} {PA:Option Addr} {pc:Nat} {qs:List Rw} {I:List Fc} {v:World} (h:GS es ps FA fc PA pc qs I v) {V:World} (hV:Below v.heap.size v V) {IA:Option Addr} {ic:Nat} {O:List Fc} {OA:Option Addr} {oc:Nat} (hi:FctIn I IA V) (ho:FctIn O OA V) (hor:orcE (es.map FE.fd) (xOf es) O=0) :
  Calls Tryz.prog 15 #[.agg #[.slice FA es.length fc,.slice PA ps.length pc],.slice IA I.length ic,.slice OA O.length oc] V (AllOut (allV (I.map toO) (O.map toO) (es.map toW)) V) :=
 all_any (ic:=ic) (oc:=oc) (h.wf.below hV) hi ho h.fz hor (h.tab.below hV) (fun V' hV' => h.ord V' (b_trans hV hV'))
theorem allW_len {es:List FE} (I O:List Fo):(allV I O (es.map toW)).length=es.length:=by rw [all_len,List.length_map]
def wantK (L:List Fc) (f:Fw):Nat->Vl
 | 0 => ⟨f.ty,0,e0⟩
 | k + 1 => if h:k < L.length then (if L[k].nm=f.nm then L[k].v else wantK L f k) else wantK L f k
theorem want_hit {L:List Fc} {f:Fw} {k:Nat} (h:k < L.length) (e:L[k].nm=f.nm):wantK L f (k + 1)=L[k].v:=by
 show (if h:k < L.length then _ else _)=_
 rw [dif_pos h,if_pos e]
theorem want_miss {L:List Fc} {f:Fw} {k:Nat} (h:k < L.length) (e:L[k].nm ≠ f.nm):wantK L f (k + 1)=wantK L f k:=by
 show (if h:k < L.length then _ else _)=_
 rw [dif_pos h,if_neg e]
theorem want_in {L:List Fc} {f:Fw} (hnd:(L.map Fc.nm).Nodup):wantK L f L.length=inV (L.map toO) f:=by
 have key:∀ k,k<=L.length->(∀ (j:Nat) (hj:j < L.length),j < k->L[j].nm=f.nm->wantK L f k=L[j].v)/\((∀ (j:Nat) (hj:j < L.length),j < k->L[j].nm ≠ f.nm)->wantK L f k=⟨f.ty,0,e0⟩):=by
  intro k
  induction k with
  | zero => exact fun _ => ⟨fun j _ hj => absurd hj (Nat.not_lt_zero _),fun _ => rfl⟩
  | succ k ih =>
   intro hk
   obtain ⟨i1,i2⟩:=ih (by omega)
   have hkl:k < L.length:=by omega
   by_cases e:L[k].nm=f.nm
   ·refine ⟨fun j hj hjk ej => ?_,fun h => absurd e (h k hkl (Nat.lt_succ_self _))⟩
    rw [want_hit hkl e]
    by_cases hjk2:j=k
    ·subst hjk2; rfl
    ·exfalso
     have:=List.pairwise_iff_getElem.1 hnd j k (by rw [List.length_map]; exact hj) (by rw [List.length_map]; exact hkl) (by omega)
     rw [List.getElem_map,List.getElem_map,ej,e] at this
     exact this rfl
   ·rw [want_miss hkl e]
    refine ⟨fun j hj hjk ej => ?_,fun h => i2 fun j hj hjk => h j hj (by omega)⟩
    by_cases hjk2:j=k
    ·subst hjk2; exact absurd ej e
    ·exact i1 j hj (by omega) ej
 obtain ⟨k1,k2⟩:=key L.length (Nat.le_refl _)
 by_cases h:∃ (j:Nat) (hj:j < L.length),L[j].nm=f.nm
 ·obtain ⟨j,hj,e⟩:=h
  rw [k1 j hj hj e]
  have hfirst:∀ i (hi:i < (L.map toO).length),i < j->(L.map toO)[i].nm ≠ f.nm:=fun i hi hij e2 => by
   rw [List.length_map] at hi
   rw [List.getElem_map] at e2
   have e2':L[i].nm=f.nm:=e2
   have:=List.pairwise_iff_getElem.1 hnd i j (by rw [List.length_map]; exact hi) (by rw [List.length_map]; exact hj) hij
   rw [List.getElem_map,List.getElem_map,e2',e] at this
   exact this rfl
  rw [inV_at f (L.map toO) j (by rw [List.length_map]; exact hj) hfirst (by rw [List.getElem_map]; exact e),List.getElem_map]
  rfl
 ·have hno:∀ (j:Nat) (hj:j < L.length),L[j].nm ≠ f.nm:=fun j hj e => h ⟨j,hj,e⟩
  rw [k2 fun j hj _ => hno j hj,inV_no f (L.map toO) fun j hj => by rw [List.length_map] at hj; rw [List.getElem_map]; exact hno j hj]
end Wh7
namespace Wh8
open Go.RowKit Go.Maps
open ValM LexM NumM ExM NmM StrM EvM EvP FoM Kit ExL ExP ExN RawV Within RawL RawN GenL TyM Ty EvF EvO EvR EvE FrmM Frm FrmT FrmO FldP FldC FcM PgM PgF ShE RkM RkD RkO RkT RkP RkS RkK TxR TxT TxK InpG FcF WhM WhQ WhU WhT WhA Wh1 Wh2 Wh3 Wh4 Wh5 Wh6 Wh7 SMp KMp
set_option linter.unusedVariables false
def allK (F:List Fw) (vs:List Vl):List Fc:=kfs F (atV vs) (List.range F.length)
theorem allK_len (F:List Fw) (vs:List Vl):(allK F vs).length=F.length:=by unfold allK; rw [kfs_len,List.length_range]
theorem knO_at (F:List Fw) (a:Nat->Vl) (l:List Nat) (i:Nat) (h:i < (knO F a l).length) (h2:i < l.length):(knO F a l)[i]=(nmW F l[i],a l[i]):=by simp [knO]
theorem allK_fcs {F:List Fw} {vs:List Vl} (h:vs.length=F.length):fcs (allK F vs)=named F vs:=by
 unfold allK
 rw [kfs_fcs]
 refine List.ext_getElem (by unfold knO named; simp [h]) fun i h1 h2 => ?_
 have hi:i < F.length:=by unfold knO at h1; simpa using h1
 rw [named_at h i hi]
 rw [knO_at F (atV vs) _ i h1 (by rw [List.length_range]; exact hi),List.getElem_range,nmW_at F i hi,atV_at vs i (by omega)]
theorem kfs_range_succ (F:List Fw) (a:Nat->Vl) (t:Nat):fcR (kfs F a (List.range (t + 1)))=fcR (kfs F a (List.range t)) ++ [.string (nmW F t),.int .i64 0,.int .i64 0,.string ⟨#[]⟩,.int .i64 (a t).k,.int .i64 (a t).n,.string (a t).s]:=by
 unfold kfs
 rw [List.range_succ,List.map_append,fcR_app]; rfl
set_option maxRecDepth 100000 in
set_option maxHeartbeats 8000000 in
theorem keepFacts_any {es:List FE} {FA:Option Addr} {fc:Nat} {vs:List Vl} {g c:Nat} {w:World} (hf:Flds w FA (es.map FE.fd)) (hz:∀ (k:Nat) (h:k < es.length),es[k].nm.size<=maxLen) (hn:es.length<=1000) (hl:vs.length=es.length) (hr:RowV w g vs) :
  Calls Tryz.prog 18 #[.slice FA es.length fc,.slice (some ⟨g,0,none⟩) es.length c] w fun e w' => ∃ (KA:Option Addr) (kc:Nat),e=.returned (.slice KA es.length kc)/\FctIn (allK (es.map toW) vs) KA w'/\Below w.heap.size w w':=by
 obtain ⟨f0,hfi0,hfz0,hfz1,hfz2⟩:=info_parts infoFc
 have hFl:(es.map toW).length=es.length:=List.length_map _
 have hfld:∀ V,Below w.heap.size w V->∀ (i:Nat) (hi:i < es.length),∃ ad,FA=some ad/\FdAt V (ad.add (i * 9)) es[i].fd:=fun V hV i hi => by
  obtain ⟨ad,e,hat⟩:=hf.below hV i (by rw [List.length_map]; exact hi)
  exact ⟨ad,e,by rw [List.getElem_map] at hat; exact hat⟩
 have hnmw:∀ (i:Nat) (hi:i < es.length),nmW (es.map toW) i=es[i].nm:=fun i hi => by rw [nmW_at _ i (by rw [List.length_map]; exact hi),List.getElem_map]; rfl
 have hks:=fun t => kfs_range_succ (es.map toW) (atV vs) t
 have hfin:∀ (W:World) (v:Value),W.ownsRow w.heap.size 57 7 v es.length (fcR (kfs (es.map toW) (atV vs) (List.range es.length)))->∃ (KA:Option Addr) (kc:Nat),v=.slice KA es.length kc/\FctIn (allK (es.map toW) vs) KA W:=fun W v h => by
  have hlen:(kfs (es.map toW) (atV vs) (List.range es.length)).length=es.length:=by rw [kfs_len,List.length_range]
  obtain ⟨KA,kc,e,hfc⟩:=own_fcs h hlen
  rw [hlen] at e
  refine ⟨KA,kc,e,?_⟩
  have hk:allK (es.map toW) vs=kfs (es.map toW) (atV vs) (List.range es.length):=by unfold allK; rw [hFl]
  rw [hk]
  refine ⟨hfc,fun f hf => ?_,by rw [hlen]; unfold maxLen; omega⟩
  unfold kfs at hf
  obtain ⟨i,hi,rfl⟩:=List.mem_map.1 hf
  rw [List.mem_range] at hi
  show (nmW (es.map toW) i).size<=_
  rw [hnmw i hi]
  exact hz i hi
 have hvat:∀ V,Below w.heap.size w V->∀ (i:Nat) (hi:i < es.length),V.cell? ⟨g,i * 3,none⟩=some (.int .i64 (atV vs i).k)/\V.cell? ⟨g,i * 3 + 1,none⟩=some (.int .i64 (atV vs i).n)/\V.cell? ⟨g,i * 3 + 2,none⟩=some (.string (atV vs i).s):=fun V hV i hi => by
  rw [atV_at vs i (by omega)]
  exact (hr.below hV).at i (by omega)
 have hgl:=hr.lt
 obtain ⟨n,hne⟩:∃ n,es.length=n:=⟨_,rfl⟩
 obtain ⟨Fl,hFe⟩:∃ F,es.map toW=F:=⟨_,rfl⟩
 obtain ⟨a,hae⟩:∃ a,atV vs=a:=⟨_,rfl⟩
 rw [hFe] at hks hnmw
 rw [hae] at hks
 simp only [hFe,hae,hne] at hfin hvat hfld hnmw
 rw [hne] at hn ⊢
 have hnb:(n:Int)<=1000:=by omega
 have HFld:=Lib.hid hfld
 have HNmw:=Lib.hid hnmw
 have HKs:=Lib.hid hks
 have HFin:=Lib.hid hfin
 have HVat:=Lib.hid hvat
 obtain ⟨FK,hFK⟩:∃ FK,allK Fl vs=FK:=⟨_,rfl⟩
 rw [hFe,hFK]
 rw [hFK] at HFin
 clear hfld hnmw hks hfin hvat hf hz hl hr hFl hae hFe hFK
 go_enter Tryz.func18,Tryz.ntmps18
 go_wp2_with fail
 go_loopw [5,6,7,10] (fun s5 _ _ ii wr => ∃ (t:Nat) (v:Value),v=s5/\ii=.int .i64 t/\t<=n/\wr.ownsRow w.heap.size 57 7 v t (fcR (kfs Fl a (List.range t)))/\Below w.heap.size w wr) (fun _ _ _ ii _ => n - (intOf ii).toNat)
 case atStart => exact ⟨0,_,rfl,rfl,Nat.zero_le _,World.ownsRow_nil _ _ _ _,Below.refl _ _⟩
 case round =>
  obtain ⟨t,v,rfl,rfl,ht,hown,hb⟩:=hrel
  obtain ⟨wa,rfl⟩:∃ V,V=wr:=⟨_,rfl⟩
  by_cases hlt:t < n
  ·obtain ⟨ad,rfl,hat⟩:=HFld.out wa hb t hlt
   have hnm:=HNmw.out t hlt
   have hksu:=HKs.out t
   obtain ⟨f,hf⟩:∃ f,es[t].fd=f:=⟨_,rfl⟩
   have hnm2:nmW Fl t=f.nm:=by rw [hnm,← hf]; rfl
   rw [hf] at hat
   rw [hnm2] at hksu
   obtain ⟨q0,q1,q2,q3,q4,q5,q6,q7,q8⟩:=hat
   obtain ⟨W5,hW5⟩:∃ V,wa.alloc (ShF.fdBox f)=V:=⟨_,rfl⟩
   obtain ⟨B7,hB7⟩:∃ B,wa.heap.size=B:=⟨_,rfl⟩
   have hb5:=b_new wa (ShF.fdBox f)
   have hcf:=fd_cells9 wa f
   have own5:=hown.alloc (ShF.fdBox f)
   rw [hW5] at hb5 hcf own5
   rw [hB7] at hcf
   have hbw5:=b_trans hb hb5
   have hob:∀ q,v.ownBlock=some q->w.heap.size<=q/\q < B7:=fun q e => by have:=hown.lt q e; omega
   have hcl:∀ V,Below W5.heap.size W5 V->V.cell? ⟨B7,0,none⟩=some (.string f.nm)/\V.cell? ⟨g,t * 3,none⟩=some (.int .i64 (a t).k)/\V.cell? ⟨g,t * 3 + 1,none⟩=some (.int .i64 (a t).n)/\V.cell? ⟨g,t * 3 + 2,none⟩=some (.string (a t).s):=fun V hV => ⟨(hcf V hV).1,HVat.out V (b_trans hbw5 hV) t hlt⟩
   have hB7l:B7 < W5.heap.size:=by rw [← hW5,World.size_alloc,hB7]; omega
   have hB7w:w.heap.size<=B7:=by have:=hb.size; omega
   have hend:∀ (Wz w9:World),Below W5.heap.size W5 Wz->Wz.grownBy w9 v.ownBlock->(w9.cell? ⟨B7,0,none⟩=some (.string f.nm)/\w9.cell? ⟨g,t * 3,none⟩=some (.int .i64 (a t).k)/\w9.cell? ⟨g,t * 3 + 1,none⟩=some (.int .i64 (a t).n)/\w9.cell? ⟨g,t * 3 + 2,none⟩=some (.string (a t).s))/\Below w.heap.size w w9:=fun Wz w9 hz hgw => by
    have hba:Below w.heap.size w w9:=(b_trans hbw5 hz).grown hgw (b_trans hbw5 hz).size (fun q e => (hob q e).1)
    have e1:w9.heap[B7]?=W5.heap[B7]?:=(hgw.block B7 (Nat.lt_of_lt_of_le hB7l hz.size) (fun e => by have:=hob B7 e.symm; omega)).trans (hz.block B7 hB7l)
    exact ⟨⟨(World.cell?_of_block (a:=⟨B7,0,none⟩) e1).trans (hcf W5 (Below.refl _ _)).1,HVat.out w9 hba t hlt⟩,hba⟩
   obtain ⟨u0,u1,u2,u3⟩:=hcl W5 (Below.refl _ _)
   obtain ⟨ai,hai⟩:∃ ai,a t=ai:=⟨_,rfl⟩
   rw [hai] at hksu u1 u2 u3
   simp only [hai] at hcl hend
   obtain ⟨ak,an,az⟩:=ai
   obtain ⟨LL,hLL⟩:∃ l,fcR (kfs Fl a (List.range t))=l:=⟨_,rfl⟩
   rw [hLL] at own5 hksu
   have hz9:∀ ob:Obj,w.heap.size<=(W5.alloc ob).heap.size:=fun ob => by rw [World.size_alloc]; have:=hbw5.size; omega
   have HCl:=Lib.hid hcl
   have HEnd:=Lib.hid hend
   have HKsu:=Lib.hid hksu
   have HW5:=Lib.hid hW5
   have HB7:=Lib.hid hB7
   have hbl:Below W5.heap.size W5 W5:=Below.refl _ _
   have tlt:(t:Int) < (n:Int):=by omega
   clear hcl hend hksu hW5 hB7 hLL hai hnm hnm2 hf hcf hb5 hown hb hob
   unfold ShF.fdBox at HW5
   go_upto_region 5 with fail
   rw [HW5.out,HB7.out]
   go_wp2_with fail
   go_region_held3 (fun V => V.cell? ⟨B7,0,none⟩=some (.string f.nm)/\V.cell? ⟨g,t * 3,none⟩=some (.int .i64 ak)/\V.cell? ⟨g,t * 3 + 1,none⟩=some (.int .i64 an)/\V.cell? ⟨g,t * 3 + 2,none⟩=some (.string az)) (first | (with_reducible exact hS7) | (with_reducible exact HCl.out _ hbl) | (with_reducible exact HCl.out _ (b_drew hbl)) | (with_reducible exact HCl.out _ (b_more hbl _)) | (with_reducible exact HCl.out _ (b_more (b_drew hbl) _)) | (with_reducible exact HCl.out _ (b_drew (b_more hbl _))))
    (first | (refine step_append_lies _ (by rfl) _ _ _ (by rfl) w.heap.size 57 f0 _ 7 80 Tryz.underlying28 hfi0 hfz0 hfz1 hfz2 rfl (by omega) v t LL (by rfl) (own_drew (own5.alloc _)) ⟨W5.heap.size,0,none⟩ 1 1 [.string f.nm,.int .i64 0,.int .i64 0,.string ⟨#[]⟩,.int .i64 ak,.int .i64 an,.string az] (by rfl) (by rfl) (World.news_of_block (cs:=#[.string f.nm,.int .i64 0,.int .i64 0,.string ⟨#[]⟩,.int .i64 ak,.int .i64 an,.string az]) (t:=57) (fr:=(0,0)) (World.alloc_heap_new W5 _)) (by simp [Value.oneCell']) (by omega) (by unfold maxLen; omega) (by omega) (hz9 _) (W5.heap.size + 1) (by first | simp | exact World.size_alloc _ _) ?_; intro gg cap w9 hown9 hgrow9 hat9 hlt9; have hz8:=b_drew (b_more hbl (.cells #[.string f.nm,.int .i64 0,.int .i64 0,.string ⟨#[]⟩,.int .i64 ak,.int .i64 an,.string az] 57)); have hS7:=(HEnd.out _ w9 hz8 hgrow9).1; have H9:=Lib.hid (And.intro hown9 (HEnd.out _ w9 hz8 hgrow9).2); clear hown9 hgrow9 hat9 hlt9))
   all_goals
    have h9:=H9.out.1
    rw [← HKsu.out] at h9
    have HN:=Lib.hid (And.intro h9 H9.out.2)
    clear h9
    go_wp2_with fail
    go_roundw
    case rel => exact ⟨t + 1,_,rfl,by go_num,by omega,HN.out.1,HN.out.2⟩
    case measure => simp [intOf]; omega
  ·rw [show t=n by omega] at hown
   obtain ⟨KA,kc,rfl,hfc⟩:=HFin.out wa v hown
   have HN:=Lib.hid (And.intro hfc hb)
   clear hfc hown hb
   go_wp2_with fail
   go_ret
   exact ⟨KA,kc,rfl,HN.out.1,HN.out.2⟩
def fcA (q:Fc):Value:=.agg #[.string q.nm,.int .i64 q.kk,.int .i64 q.kn,.string q.ks,.int .i64 q.v.k,.int .i64 q.v.n,.string q.v.s]
set_option maxRecDepth 100000 in
set_option maxHeartbeats 4000000 in
theorem oclos_any (q:Fc) (B10 B11:Nat) (nm:ByteArray) (key:Vl) (w:World) (h1:w.cell? ⟨B10,0,none⟩=some (.string nm)) (h2:BV w B11 key.k key.n key.s) :
  Calls Tryz.prog 45 #[fcA q,.pointer (some ⟨B10,0,none⟩),.pointer (some ⟨B11,0,none⟩)] w fun e w' => e=.returned (.bool (hitB nm key (toO q)))/\Below w.heap.size w w':=by
 obtain ⟨gk,gn,gs⟩:=key
 have hb0:=b_new w (ShF.fcBox q)
 obtain ⟨z0,z1,z2⟩:=(h2.below hb0).cells
 have y0:(w.alloc (ShF.fcBox q)).cell? ⟨B10,0,none⟩=some (.string nm):=(hb0.cell (p:=⟨B10,0,none⟩) (cell_lt' h1)).trans h1
 have hcq:=ShF.fc_cells w q
 obtain ⟨W1,hW1⟩:∃ V,w.alloc (ShF.fcBox q)=V:=⟨_,rfl⟩
 obtain ⟨B1,hB1⟩:∃ B,w.heap.size=B:=⟨_,rfl⟩
 rw [hW1] at hb0 z0 z1 z2 y0 hcq
 rw [hB1] at hcq
 obtain ⟨x0,x1,x2,x3,x4,x5,x6⟩:=hcq W1 (Below.refl _ _)
 obtain ⟨R,hR⟩:∃ R,hitB nm ⟨gk,gn,gs⟩ (toO q)=R:=⟨_,rfl⟩
 rw [hR]
 have hne:(q.nm ≠ nm ∨ ¬ (q.kk=gk/\q.kn=gn/\q.ks=gs))->R=false:=fun h => by
  rw [← hR]
  cases hh:hitB nm ⟨gk,gn,gs⟩ (toO q) with
  | false => rfl
  | true =>
   obtain ⟨h1,h2⟩:=hit_iff.1 hh
   exfalso
   rcases h with h | h
   ·exact h h1
   ·exact h ⟨congrArg Vl.k h2,congrArg Vl.n h2,congrArg Vl.s h2⟩
 have hye:q.nm=nm->q.kk=gk->q.kn=gn->q.ks=gs->R=true:=fun a b c d => by rw [← hR]; exact hit_iff.2 ⟨a,by show (⟨q.kk,q.kn,q.ks⟩:Vl)=_; rw [b,c,d]⟩
 have HB0:=Lib.hid hb0
 have HW1:=Lib.hid hW1
 have HB1:=Lib.hid hB1
 clear hb0 hcq hR hW1 hB1 h1 h2
 unfold ShF.fcBox at HW1
 unfold fcA
 have hcases:(∃ t1:(q.nm.toList == nm.toList)=false,R=false) ∨ (∃ t1:(q.nm.toList == nm.toList)=true,∃ t2:(q.kk == gk)=false,R=false) ∨ (∃ t1:(q.nm.toList == nm.toList)=true,∃ t2:(q.kk == gk)=true,∃ t3:(q.kn == gn)=false,R=false) ∨ (∃ t1:(q.nm.toList == nm.toList)=true,∃ t2:(q.kk == gk)=true,∃ t3:(q.kn == gn)=true,∃ t4:(q.ks.toList == gs.toList)=false,R=false) ∨ (∃ t1:(q.nm.toList == nm.toList)=true,∃ t2:(q.kk == gk)=true,∃ t3:(q.kn == gn)=true,∃ t4:(q.ks.toList == gs.toList)=true,R=true):=by
  by_cases a:q.nm=nm
  ·by_cases b:q.kk=gk
   ·by_cases c:q.kn=gn
    ·by_cases d:q.ks=gs
     ·exact .inr (.inr (.inr (.inr ⟨eq_t a,beq_iff_eq.2 b,beq_iff_eq.2 c,eq_t d,hye a b c d⟩)))
     ·exact .inr (.inr (.inr (.inl ⟨eq_t a,beq_iff_eq.2 b,beq_iff_eq.2 c,eq_f d,hne (.inr fun h => d h.2.2)⟩)))
    ·exact .inr (.inr (.inl ⟨eq_t a,beq_iff_eq.2 b,beq_eq_false_iff_ne.2 c,hne (.inr fun h => c h.2.1)⟩))
   ·exact .inr (.inl ⟨eq_t a,beq_eq_false_iff_ne.2 b,hne (.inr fun h => b h.1)⟩)
  ·exact .inl ⟨eq_f a,hne (.inl a)⟩
 clear hne hye
 rcases hcases with ⟨t1,rfl⟩ | ⟨t1,t2,rfl⟩ | ⟨t1,t2,t3,rfl⟩ | ⟨t1,t2,t3,t4,rfl⟩ | ⟨t1,t2,t3,t4,rfl⟩
 all_goals
  go_enter Tryz.func45,Tryz.ntmps45
  go_upto_region 1 with fail
  rw [HW1.out,HB1.out]
  go_wp2_with fail
  go_ret
  exact ⟨rfl,HB0.out⟩
set_option maxRecDepth 100000 in
set_option maxHeartbeats 4000000 in
theorem oindex_any (L:List Fc) (A:Option Addr) (c B10 B11:Nat) (nm:ByteArray) (key:Vl) (w:World) (hl:Fcs w A L) (hn:L.length<=1000000) (h1:w.cell? ⟨B10,0,none⟩=some (.string nm)) (h2:BV w B11 key.k key.n key.s) :
  Calls Tryz.prog 57 #[.slice A L.length c,.func (.func 45) #[] #[.pointer (some ⟨B10,0,none⟩),.pointer (some ⟨B11,0,none⟩)]] w fun e w' => (∃ i:Int,e=.returned (.int .i64 i)/\decide (0<=i)=L.any fun q => hitB nm key (toO q))/\Below w.heap.size w w':=by
 have hcl:=fun (V:World) (hV:Below w.heap.size w V) (q:Fc) => oclos_any q B10 B11 nm key V ((hV.cell (p:=⟨B10,0,none⟩) (cell_lt' h1)).trans h1) (h2.below hV)
 obtain ⟨R,hR⟩:∃ R,(L.any fun q => hitB nm key (toO q))=R:=⟨_,rfl⟩
 have hyes:∀ (k:Nat) (h:k < L.length),hitB nm key (toO L[k])=true->R=true:=fun k h e => by rw [← hR,List.any_eq_true]; exact ⟨_,List.getElem_mem h,e⟩
 have hno:(∀ (k:Nat) (h:k < L.length),hitB nm key (toO L[k])=false)->R=false:=fun h => by
  rw [← hR,List.any_eq_false]
  intro q hq
  obtain ⟨k,hk,rfl⟩:=List.getElem_of_mem hq
  rw [h k hk]; decide
 rw [hR]
 have HCl:=Lib.hid hcl
 have HL:=Lib.hid hl
 have HY:=Lib.hid hyes
 have HNo:=Lib.hid hno
 clear hcl hl hyes hno hR h1 h2
 have hnl:L.length<=9223372036854775807:=by omega
 unfold fcA at HCl
 go_enter Tryz.func57,Tryz.ntmps57
 go_wp2_with fail
 go_loopw [5,8] (fun _ ii wr => ∃ k:Nat,ii=.int .i64 k/\k<=L.length/\(∀ (j:Nat) (h:j < L.length),j < k->hitB nm key (toO L[j])=false)/\Below w.heap.size w wr) (fun _ ii _ => L.length - (intOf ii).toNat)
 case atStart => exact ⟨0,rfl,Nat.zero_le _,fun j _ hj => absurd hj (Nat.not_lt_zero _),Below.refl _ _⟩
 case round =>
  obtain ⟨k,rfl,hk,hall,hb⟩:=hrel
  obtain ⟨wa,rfl⟩:∃ V,V=wr:=⟨_,rfl⟩
  by_cases hlt:k < L.length
  ·obtain ⟨ad,rfl,hat⟩:=HL.out.below hb k hlt
   have hy:=HY.out k hlt
   have hnx:hitB nm key (toO L[k])=false->∀ (j:Nat) (h:j < L.length),j < k + 1->hitB nm key (toO L[j])=false:=fun e j h hj => by
    by_cases ej:j=k
    ·subst ej; exact e
    ·exact hall j h (by omega)
   obtain ⟨q,hq⟩:∃ q,L[k]=q:=⟨_,rfl⟩
   rw [hq] at hat hy hnx
   obtain ⟨q0,q1,q2,q3,q4,q5,q6⟩:=hat
   have hc:=HCl.out wa hb q
   obtain ⟨b,hbq⟩:∃ b,hitB nm key (toO q)=b:=⟨_,rfl⟩
   rw [hbq] at hc hy hnx
   have HC:=Lib.hid hc
   have HYy:=Lib.hid hy
   have HNx:=Lib.hid hnx
   have HB:=Lib.hid hb
   clear hc hy hnx hb hq hbq hall
   go_wp2_with fail
   refine HC.out.mono ?_; rintro e w1 ⟨rfl,hb1⟩
   have HB1:=Lib.hid (b_trans HB.out hb1)
   clear hb1
   cases b with
   | true =>
    obtain rfl:=HYy.out (by first | trivial | rfl)
    go_wp2_with fail
    go_ret
    exact ⟨⟨(k:Int),rfl,decide_eq_true (Int.natCast_nonneg k)⟩,HB1.out⟩
   | false =>
    go_wp2_with fail
    go_roundw
    case rel => exact ⟨k + 1,by go_num,by omega,HNx.out (by first | trivial | rfl),HB1.out⟩
    case measure => simp [intOf]; omega
  ·obtain rfl:=HNo.out fun j hj => hall j hj (by omega)
   have HB:=Lib.hid hb
   clear hb hall
   go_wp2_with fail
   go_ret
   exact ⟨⟨-1,rfl,by decide⟩,HB.out⟩
theorem ocontains_any (L:List Fc) (A:Option Addr) (c B10 B11:Nat) (nm:ByteArray) (key:Vl) (w:World) (hl:Fcs w A L) (hn:L.length<=1000000) (h1:w.cell? ⟨B10,0,none⟩=some (.string nm)) (h2:BV w B11 key.k key.n key.s) :
  Calls Tryz.prog 44 #[.slice A L.length c,.func (.func 45) #[] #[.pointer (some ⟨B10,0,none⟩),.pointer (some ⟨B11,0,none⟩)]] w fun e w' => e=.returned (.bool (L.any fun q => hitB nm key (toO q)))/\Below w.heap.size w w':=by
 have hix:=oindex_any L A c B10 B11 nm key w hl hn h1 h2
 generalize (L.any fun q => hitB nm key (toO q))=R at hix
 have HIx:=Lib.hid hix
 clear hix hl h1 h2
 go_enter Tryz.func44,Tryz.ntmps44
 go_wp2_with fail
 refine HIx.out.mono ?_; rintro e w1 ⟨⟨i,rfl,hi⟩,hb1⟩
 have HB1:=Lib.hid hb1
 clear hb1
 cases R with
 | true =>
  have hi:0<=i:=by simpa using hi
  go_wp2_with fail
  go_ret
  exact ⟨rfl,HB1.out⟩
 | false =>
  have hi:¬ 0<=i:=by simpa using hi
  go_wp2_with fail
  go_ret
  exact ⟨rfl,HB1.out⟩
end Wh8
namespace Wh9
open Go.RowKit Go.Maps
open ValM LexM NumM ExM NmM StrM EvM EvP FoM Kit ExL ExP ExN RawV Within RawL RawN GenL TyM Ty EvF EvO EvR EvE FrmM Frm FrmT FrmO FldP FldC FcM PgM PgF ShE RkM RkD RkO RkT RkP RkS RkK TxR TxT TxK InpG FcF WhM WhQ WhU WhT WhA Wh1 Wh2 Wh3 Wh4 Wh5 Wh6 Wh7 Wh8 SMp KMp
set_option linter.unusedVariables false
theorem adds9 (a b:ByteArray) (ha:a.size<=2000000) (hb:b.size<=2000000):∀ W:World,(Op.stringOp .add a b).run Tryz.prog W=.ok (.string (a ++ b)) W:=fun W => run_string_add_sum W a b (by omega)
set_option maxRecDepth 100000 in
set_option maxHeartbeats 4000000 in
theorem answered_any (f:GenL.Fd) (x:Ex) (key:Vl) (w:World) (hk9:key.s.size<=40) (hn:f.nm.size<=10) :
  Calls Tryz.prog 46 #[fdA f,vlA key] w fun e w' => e=.returned (vlA (ansV ⟨f.nm,f.kind,f.ty,x⟩ key))/\Below w.heap.size w w':=by
 obtain ⟨gk,gn,gs⟩:=key
 have hk:gs.size<=40:=hk9
 obtain ⟨WA,hWA⟩:∃ V,((w.alloc (ShF.fdBox f)).alloc (.cells #[.int .i64 gk,.int .i64 gn,.string gs] 38)).alloc (.cells #[.int .i64 0,.int .i64 0,.string ⟨#[]⟩] 38)=V:=⟨_,rfl⟩
 obtain ⟨B,hB⟩:∃ B,w.heap.size=B:=⟨_,rfl⟩
 have hbA:Below w.heap.size w WA:=by rw [← hWA]; exact b_more (b_more (b_new w _) _) _
 have hz:BV WA (B + 1 + 1) 0 0 ⟨#[]⟩:=by
  have:=BV.new ((w.alloc (ShF.fdBox f)).alloc (.cells #[.int .i64 gk,.int .i64 gn,.string gs] 38)) 0 0 ⟨#[]⟩
  rw [World.size_alloc,World.size_alloc,hB,hWA] at this
  exact this
 have hky:BV WA (B + 1) gk gn gs:=by
  have:=(BV.new (w.alloc (ShF.fdBox f)) gk gn gs).below (b_new _ (.cells #[.int .i64 0,.int .i64 0,.string ⟨#[]⟩] 38))
  rw [World.size_alloc,hB,hWA] at this
  exact this
 have hcell:∀ V,Below WA.heap.size WA V->_:=fun V hV => fd_cells9 w f V (by rw [← hWA] at hV; exact b_then (b_then hV))
 rw [hB] at hcell
 obtain ⟨m,hm⟩:∃ m,ansN ⟨f.nm,f.kind,f.ty,x⟩ ⟨gk,gn,gs⟩=m:=⟨_,rfl⟩
 have hmb:=ansN_bd (f:=⟨f.nm,f.kind,f.ty,x⟩) (key:=⟨gk,gn,gs⟩) hk hn
 have hmd:Int.tmod gn 9 + 3 * (gs.size:Int) + (f.nm.size:Int)=m:=hm
 have htb:=WhA.tmod_bd gn
 have w1:IntKind.i64.wrap (Int.tmod gn 9)=Int.tmod gn 9:=IntWalk.i64_in _ (by omega)
 have w2:IntKind.i64.wrap (3 * (gs.size:Int))=3 * (gs.size:Int):=IntWalk.i64_in _ (by omega)
 have w3:IntKind.i64.wrap (Int.tmod gn 9 + 3 * (gs.size:Int))=Int.tmod gn 9 + 3 * (gs.size:Int):=IntWalk.i64_in _ (by omega)
 have w4:IntKind.i64.wrap (Int.tmod gn 9 + 3 * (gs.size:Int) + (f.nm.size:Int))=m:=by rw [hmd]; exact IntWalk.i64_in _ (by omega)
 have hav:ansV ⟨f.nm,f.kind,f.ty,x⟩ ⟨gk,gn,gs⟩=if f.ty=1 then ⟨1,m,e0⟩ else if f.ty=2 then ⟨2,pick m 2,e0⟩ else ⟨3,0,f.nm ++ abcK m⟩:=by
  unfold ansV
  rw [hm]
 obtain ⟨R,hR⟩:∃ R,ansV ⟨f.nm,f.kind,f.ty,x⟩ ⟨gk,gn,gs⟩=R:=⟨_,rfl⟩
 rw [hR] at hav ⊢
 rw [hm] at hmb
 have hwf:(Lit.int .i64 m).wf=true:=by
  have hmin:IntKind.i64.min=-9223372036854775808:=rfl
  have hmax:IntKind.i64.max=9223372036854775807:=rfl
  simp only [Lit.wf,Bool.and_eq_true,decide_eq_true_eq]
  omega
 have hp2:=fun V => picked_any m 2 V hwf (by decide) (by decide)
 have hp9:=fun V => picked_any m 9 V hwf (by decide) (by decide)
 have hb9:=pick_bd m 9 (by decide)
 obtain ⟨x0,x1,x2,x3,x4,x5,x6,x7,x8⟩:=hcell WA (Below.refl _ _)
 obtain ⟨y0,y1,y2⟩:=hky.cells
 obtain ⟨z0,z1,z2⟩:=hz.cells
 have z3:=hz.frozen
 have z4:=hz.lt
 have hBw:w.heap.size<=B + 1 + 1:=by omega
 have HP2:=Lib.hid hp2
 have HP9:=Lib.hid hp9
 have HCell:=Lib.hid hcell
 have HZ:=Lib.hid hz
 have HbA:=Lib.hid hbA
 have HWA:=Lib.hid hWA
 have HB:=Lib.hid hB
 have HM:=Lib.hid hm
 have HMd:=Lib.hid hmd
 have HAv:=Lib.hid hav
 clear hp2 hp9 hcell hz hbA hWA hB hm hmd hav hky hR
 unfold ShF.fdBox at HWA
 unfold vlA
 obtain ⟨rk,rn,rs⟩:=R
 by_cases h1:f.ty=1
 ·have hav:=HAv.out
  rw [if_pos h1] at hav
  injection hav with e1 e2 e3
  subst e1 e2 e3
  have t1:(f.ty == 1)=true:=beq_iff_eq.2 h1
  have hbE:=b_set3 HbA.out (B + 1 + 1) hBw (.int .i64 1) (.int .i64 rn) (.string ⟨#[]⟩)
  have HBE:=Lib.hid hbE
  clear hbE h1
  go_enter Tryz.func46,Tryz.ntmps46
  go_upto_region 1 with fail
  rw [HWA.out,HB.out]
  go_wp2_with fail
  refine bodyPost_ret (v:=.agg #[.int .i64 1,.int .i64 rn,.string ⟨#[]⟩]) (by simp [results,Tryz.results46,go_sem,z0,z1,z2]) rfl ⟨rfl,HBE.out⟩
 ·have t1:(f.ty == 1)=false:=beq_eq_false_iff_ne.2 h1
  by_cases h2:f.ty=2
  ·have hav:=HAv.out
   rw [if_neg h1,if_pos h2] at hav
   injection hav with e1 e2 e3
   subst e1 e3
   have t2:(f.ty == 2)=true:=beq_iff_eq.2 h2
   rw [← e2] at HP2
   have hbE:=b_set3 HbA.out (B + 1 + 1) hBw (.int .i64 2) (.int .i64 rn) (.string ⟨#[]⟩)
   have HBE:=Lib.hid hbE
   clear hbE h1 h2 e2 HAv
   go_enter Tryz.func46,Tryz.ntmps46
   go_upto_region 1 with fail
   rw [HWA.out,HB.out]
   go_wp2_with fail
   refine (HP2.out _).mono ?_; rintro e w9 ⟨rfl,rfl⟩
   go_wp2_with fail
   refine bodyPost_ret (v:=.agg #[.int .i64 2,.int .i64 rn,.string ⟨#[]⟩]) (by simp [results,Tryz.results46,go_sem,z0,z1,z2]) rfl ⟨rfl,HBE.out⟩
  ·have hav:=HAv.out
   rw [if_neg h1,if_neg h2] at hav
   injection hav with e1 e2 e3
   subst e1 e2
   have t2:(f.ty == 2)=false:=beq_eq_false_iff_ne.2 h2
   obtain ⟨p,hp⟩:∃ p:Nat,pick m 9=(p:Int)/\p<=9:=⟨(pick m 9).toNat,by omega,by omega⟩
   obtain ⟨hp,hp9l⟩:=hp
   simp only [hp] at HP9
   have e3':rs=f.nm ++ abc.extract 0 p:=by rw [e3]; unfold abcK; rw [hp]; rfl
   have HE3:=Lib.hid e3'
   clear h1 h2 e3 e3' HAv hb9 hp
   go_enter Tryz.func46,Tryz.ntmps46
   go_upto_region 1 with fail
   rw [HWA.out,HB.out]
   go_upto_region 7 with fail
   have hsz:=abc_size p hp9l
   have hbl:Below WA.heap.size WA WA:=Below.refl _ _
   have hset:∀ (U:World) (a b d:Value),Below WA.heap.size WA U->∀ V,V=((U.setCell ⟨B + 1 + 1,0,none⟩ a).setCell ⟨B + 1 + 1,1,none⟩ b).setCell ⟨B + 1 + 1,2,none⟩ d->V.cell? ⟨B,0,none⟩=some (.string f.nm):=fun U a b d hU V hV => by
    have e1:V.heap[B]?=U.heap[B]?:=by
     rw [hV,Below.heap_setCell _ _ _ _ (show B ≠ B + 1 + 1 by omega),Below.heap_setCell _ _ _ _ (show B ≠ B + 1 + 1 by omega),Below.heap_setCell _ _ _ _ (show B ≠ B + 1 + 1 by omega)]
    exact (World.cell?_of_block (a:=⟨B,0,none⟩) e1).trans (HCell.out U hU).1
   have HSet:=Lib.hid hset
   clear hset
   unfold abc at HE3 hsz
   have s1:=adds9 f.nm ((⟨#[97,98,99,100,101,102,103,104,105]⟩:ByteArray).extract 0 p) (by omega) (by omega)
   have hp0:(0:Int)<=(p:Int):=by omega
   have hp1:¬ (9:Int) < (p:Int):=by omega
   have htn:(p:Int).toNat=p:=by omega
   go_region_held3 (fun V => V.cell? ⟨B,0,none⟩=some (.string f.nm)) (first | (with_reducible exact (HCell.out _ hbl).1) | (with_reducible exact (HCell.out _ (b_drew hbl)).1) | (with_reducible exact HSet.out _ _ _ _ hbl _ rfl) | (with_reducible exact HSet.out _ _ _ _ (b_drew hbl) _ rfl))
    (first | (go_at_call 21; (with_reducible refine (HP9.out _).mono ?_); rintro e wn ⟨rfl,rfl⟩))
   all_goals
    have hbE:=b_set3 (b_trans HbA.out hbl) (B + 1 + 1) hBw (.int .i64 3) (.int .i64 0) (.string rs)
    rw [HE3.out] at hbE
    have HBE:=Lib.hid (b_drew hbE)
    clear hbE
    go_wp2_with fail
    refine bodyPost_ret (v:=.agg #[.int .i64 3,.int .i64 0,.string (f.nm ++ (⟨#[97,98,99,100,101,102,103,104,105]⟩:ByteArray).extract 0 p)]) (by simp [results,Tryz.results46,go_sem,z0,z1,z2]) rfl ⟨by rw [HE3.out],HBE.out⟩
end Wh9
end Go.Proofs.YtonlkmkfcaadlaaGreatDoor
