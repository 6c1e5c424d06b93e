/- Wh10 Wh11 Wh12 Wh13: what these laws name of them. -/
import Derived.Test.YtonlkmkfcaadlaaGreatDoorKw22
namespace Go.Proofs.YtonlkmkfcaadlaaGreatDoor
set_option linter.unusedVariables false
namespace Wh10
open Go.RowKit Go.Maps
open ValM LexM NumM ExM NmM StrM EvM EvP FoM Kit ExL ExP ExN RawV Within RawL RawN GenL TyM Ty EvF EvO EvR EvE FrmM Frm FrmT FrmO FldP FldC FcM PgM PgF ShE RkM RkD RkO RkT RkP RkS RkK TxR TxT TxK InpG FcF WhM WhQ WhU WhT WhA Wh1 Wh2 Wh3 Wh4 Wh5 Wh6 Wh7 Wh8 Wh9 SMp KMp
set_option linter.unusedVariables false
def ofO (o:Fo):Fc:=⟨o.nm,o.key.k,o.key.n,o.key.s,o.has⟩
theorem toO_of (l:List Fo):(l.map ofO).map toO=l:=by
 rw [List.map_map]
 have:toO ∘ ofO=id:=funext fun o => rfl
 rw [this,List.map_id]
theorem of_snoc (l:List Fo) (o:Fo):fcR ((l ++ [o]).map ofO)=fcR (l.map ofO) ++ [.string o.nm,.int .i64 o.key.k,.int .i64 o.key.n,.string o.key.s,.int .i64 o.has.k,.int .i64 o.has.n,.string o.has.s]:=by
 rw [List.map_append,fcR_app]; rfl
theorem of_any (l:List Fo) (nm:ByteArray) (key:Vl):((l.map ofO).any fun q => hitB nm key (toO q))=hasB' l nm key:=by
 unfold hasB'; rw [List.any_map]; rfl
theorem add1_len (an:Fw->Vl->Vl) (kn:List (ByteArray × Vl)) (out:List Fo) (f:Fw):(add1 an kn out f).length<=out.length + 1:=by
 unfold add1; split <;> simp
theorem addO_len (an:Fw->Vl->Vl) (kn:List (ByteArray × Vl)):∀ (l:List Fw) (out:List Fo),(addO an kn out l).length<=out.length + l.length
 | [],_ => Nat.le_refl _
 | f :: l,out => by
  have h1:=addO_len an kn l (add1 an kn out f)
  have h2:=add1_len an kn out f
  show (addO an kn (add1 an kn out f) l).length<=_
  rw [List.length_cons]; omega
theorem orcV_len (an:Fw->Vl->Vl) (ins:List Fo) (F:List Fw):∀ t,(orcV an ins F t).length<=t * F.length
 | 0 => by unfold orcV; simp
 | t + 1 => by
  have h1:=orcV_len an ins F t
  have h2:=addO_len an (named F (allV ins (orcV an ins F t) F)) F (orcV an ins F t)
  show (addO an _ _ F).length<=_
  rw [Nat.succ_mul]; omega
theorem addO_take (an:Fw->Vl->Vl) (kn:List (ByteArray × Vl)) (out:List Fo) (F:List Fw) (j:Nat) (h:j < F.length):addO an kn out (F.take (j + 1))=add1 an kn (addO an kn out (F.take j)) F[j]:=by
 rw [List.take_succ_eq_append_getElem h,addO_snoc]
theorem bvz_keep {W W':World} {b:Nat} {k n:Int} {s:ByteArray} (h:BV W b k n s) (hb:Below W.heap.size W W'):BV W' b k n s:=h.below hb
theorem bvz_at (W:World):BV (W.alloc (.cells #[.int .i64 0,.int .i64 0,.string ⟨#[]⟩] 38)) W.heap.size 0 0 ⟨#[]⟩:=World.alloc_heap_new W _
theorem b_set3' {B:Nat} {a w:World} (h:Below B a w) (b:Nat) (hb:B<=b) (o0 o1 o2:Nat) (v0 v1 v2:Value):Below B a (((w.setCell ⟨b,o0,none⟩ v0).setCell ⟨b,o1,none⟩ v1).setCell ⟨b,o2,none⟩ v2) :=
 ((h.setCell (p:=⟨b,o0,none⟩) hb _).setCell (p:=⟨b,o1,none⟩) hb _).setCell (p:=⟨b,o2,none⟩) hb _
def OsAt (n:Nat) (A:Option Addr) (c:Nat):Prop:=(A=none/\n=0/\c=0) ∨ ∃ g,A=some ⟨g,0,none⟩/\n<=c/\c<=maxLen
theorem os_of {w:World} {base:Nat} {e:TypeId} {size n c:Nat} {A:Option Addr} {xs:List Value} (h:w.ownsRow base e size (.slice A n c) n xs):OsAt n A c:=by
 rcases Nat.eq_zero_or_pos n with h0 | h0
 ·rcases h.2 with ⟨h1,h2⟩ | ⟨g,cap,cur,h1,h2,h3,h4,h5,_⟩
  ·injection h1 with e1 e2 e3
   exact .inl ⟨e1,h0,e3⟩
  ·injection h1 with e1 e2 e3
   subst e3
   exact .inr ⟨g,e1,by omega,by omega⟩
 ·obtain ⟨g,cap,e1,_,_,h4,h5,_⟩:=own_form h h0
  injection e1 with e1 e2 e3
  subst e3
  exact .inr ⟨g,e1,h4,h5⟩
def KeepOut (O:List Fo) (w:World) (e:Ending) (w':World):Prop :=
 ∃ (OA:Option Addr) (oc:Nat),e=.returned (.tuple #[.slice OA O.length oc,.bool true])/\FctIn (O.map ofO) OA w'/\Below w.heap.size w w'/\OsAt O.length OA oc
set_option maxRecDepth 100000 in
set_option maxHeartbeats 16000000 in
theorem keepOracle_any {es:List FE} {ps:List PE} {FA:Option Addr} {fc:Nat} {PA:Option Addr} {pc:Nat} {qs:List Rw} {I:List Fc} {v:World} (h:GS es ps FA fc PA pc qs I v) {w:World} (hV:Below v.heap.size v w) {IA:Option Addr} {ic:Nat} (hi:FctIn I IA w) :
  Calls Tryz.prog 14 #[.agg #[.slice FA es.length fc,.slice PA ps.length pc],.slice IA I.length ic] w (KeepOut (orcV ansV (I.map toO) (es.map toW) es.length) w):=by
 have hmf:=Num.hmf
 obtain ⟨f0,hfi0,hfz0,hfz1,hfz2⟩:=info_parts infoFc
 have hW:=h.wf.wt
 have ha:AnOk ansV (es.map toW):=ans_ok hW h.nms
 have horc:∀ t,OrcOk ansV (es.map toW) (orcV ansV (I.map toO) (es.map toW) t):=orc_ok hW (facts_tyin h.wf.src h.wf.check h.fz) (facts_oks h.fz) ha
 have hFl:(es.map toW).length=es.length:=List.length_map _
 have hnmF:∀ f ∈ es.map toW,f.nm.size<=10:=fun f hf => by
  have:=h.nms f hf
  unfold nmB at this
  simp only [Bool.and_eq_true,decide_eq_true_eq] at this
  have e:f.nm.data.toList.length=f.nm.size:=Array.length_toList
  omega
 obtain ⟨F,hF⟩:∃ F,es.map toW=F:=⟨_,rfl⟩
 obtain ⟨OV,hOV⟩:∃ OV,orcV ansV (I.map toO) (es.map toW)=OV:=⟨_,rfl⟩
 have hlenO:∀ t,t<=es.length->(OV t).length<=100:=fun t ht => by
  have h1:=orcV_len ansV (I.map toO) (es.map toW) t
  rw [hOV,hFl] at h1
  have h2:t * es.length<=10 * 10:=Nat.mul_le_mul (by have:=h.n10; omega) h.n10
  omega
 have hfin:∀ (t:Nat) (V:World) (u:Value) (base:Nat),t<=es.length->V.ownsRow base 57 7 u (OV t).length (fcR ((OV t).map ofO))->∃ OA oc,u=.slice OA (OV t).length oc/\FctIn ((OV t).map ofO) OA V/\OsAt (OV t).length OA oc:=fun t V u base ht hu => by
  obtain ⟨OA,oc,e,hfo⟩:=own_fcs hu (List.length_map _)
  rw [List.length_map] at e
  subst e
  refine ⟨OA,oc,rfl,⟨hfo,fun f hf => ?_,?_⟩,os_of hu⟩
  ·obtain ⟨o,ho,rfl⟩:=List.mem_map.1 hf
   have hh:=horc t
   rw [hOV] at hh
   obtain ⟨g,hg,e1,_⟩:=hh.each o ho
   have:=hnmF g hg
   show o.nm.size<=maxLen
   rw [e1]; unfold maxLen; omega
  ·rw [List.length_map]
   have:=hlenO t ht
   unfold maxLen; omega
 have hall:∀ (t:Nat) (V:World),t<=es.length->Below w.heap.size w V->∀ (OA:Option Addr) (oc:Nat),FctIn ((OV t).map ofO) OA V->Calls Tryz.prog 15 #[.agg #[.slice FA es.length fc,.slice PA ps.length pc],.slice IA I.length ic,.slice OA (OV t).length oc] V (AllOut (allV (I.map toO) (OV t) F) V):=fun t V ht hb OA oc ho => by
  have h1:=h.all (ic:=ic) (oc:=oc) (b_trans hV hb) (hi.below hb) ho (orc_good h.wf.src h.wf.check hW ha (by rw [toO_of,← hOV]; exact horc t))
  rw [toO_of,List.length_map,hF] at h1
  exact h1
 have hal:∀ t,(allV (I.map toO) (OV t) F).length=es.length:=fun t => by rw [all_len,← hF,hFl]
 have hO0:OV 0=[]:=by rw [← hOV]; rfl
 have hOs:∀ t,OV (t + 1)=addO ansV (named F (allV (I.map toO) (OV t) F)) (OV t) F:=fun t => by rw [← hOV,← hF]; rfl
 have hfld:∀ V,Below w.heap.size w V->∀ (i:Nat) (hi:i < es.length),∃ ad,FA=some ad/\FdAt V (ad.add (i * 9)) es[i].fd:=fun V hb i hi => by
  obtain ⟨ad,e,hat⟩:=(h.wf.fin.fl.below (b_trans hV hb)) i (by rw [List.length_map]; exact hi)
  exact ⟨ad,e,by rw [List.getElem_map] at hat; exact hat⟩
 have hfac:∀ (vs:List Vl) (g:Nat) (V:World),Below w.heap.size w V->vs.length=es.length->RowV V g vs->Calls Tryz.prog 18 #[.slice FA es.length fc,.slice (some ⟨g,0,none⟩) es.length es.length] V fun e w' => ∃ (KA:Option Addr) (kc:Nat),e=.returned (.slice KA es.length kc)/\FctIn (allK F vs) KA w'/\Below V.heap.size V w':=fun vs g V hb hl hr => by
  have h1:=keepFacts_any (fc:=fc) (c:=es.length) (h.wf.fin.fl.below (b_trans hV hb)) (fun k hk => by
   have:=(h.wf.fin.fx k (by rw [List.length_map]; exact hk)).1
   rw [List.getElem_map] at this
   exact this) (by have:=h.n10; omega) hl hr
  rw [hF] at h1
  exact h1
 have hof:∀ (vs:List Vl) (V:World) (n:Nat) (hne:es.length=n) (j:Nat) (hj:j < es.length) (KA:Option Addr) (kc:Nat),Below w.heap.size w V->vs.length=n->FctIn (allK F vs) KA V->Calls Tryz.prog 42 #[.agg #[.int .i64 es[j].fd.d.op,.int .i64 es[j].fd.d.k,.int .i64 es[j].fd.d.n,.string es[j].fd.d.s,.string es[j].fd.d.nm,.slice es[j].fd.A es[j].fd.n es[j].fd.c],.slice KA n kc] V fun e w' => (∃ E:Int,e=.returned (.tuple #[.agg #[.int .i64 (ofV (named F vs) es[j].x).k,.int .i64 (ofV (named F vs) es[j].x).n,.string (ofV (named F vs) es[j].x).s],.int .i64 E]))/\Below V.heap.size V w':=fun vs V n hne j hj KA kc hb hl hk => by
  subst hne
  have hlF:vs.length=F.length:=by rw [← hF,hFl]; exact hl
  have hlk:(allK F vs).length=es.length:=by rw [allK_len,← hF,hFl]
  have h1:=EvE.of_any es[j].x (allK F vs) KA kc es[j].fd.d es[j].fd.A es[j].fd.n es[j].fd.c V (by rw [hlk]; have:=h.n10; omega) hk.nm ((h.wf.fis j hj).below (b_trans hV hb)) hk.fc (h.tab.below (b_trans hV hb))
  rw [allK_fcs hlF,hlk] at h1
  exact h1.mono fun e w' he => ⟨⟨_,he.1⟩,he.2⟩
 have hFat:∀ (j:Nat) (hj:j < es.length),∃ h2:j < F.length,F[j]=⟨es[j].fd.nm,es[j].fd.kind,es[j].fd.ty,es[j].x⟩:=fun j hj => by
  refine ⟨by rw [← hF,hFl]; exact hj,?_⟩
  simp only [← hF,List.getElem_map]; rfl
 have hn10:=h.n10
 obtain ⟨W1,hW1⟩:∃ V,w.alloc (ShF.frBox FA es.length fc PA ps.length pc)=V:=⟨_,rfl⟩
 obtain ⟨B1,hB1⟩:∃ B,w.heap.size=B:=⟨_,rfl⟩
 have hb1:=b_new w (ShF.frBox FA es.length fc PA ps.length pc)
 have hcell:=ShF.fr_cells w FA es.length fc PA ps.length pc
 rw [hW1] at hb1 hcell
 rw [hB1] at hcell
 obtain ⟨x0,x1⟩:=hcell W1 (Below.refl _ _)
 have hO9:∀ t,t<=es.length->(OV t).length<=100:=hlenO
 obtain ⟨ins,hins⟩:∃ l,I.map toO=l:=⟨_,rfl⟩
 rw [hins] at hall hal hOs
 obtain ⟨n,hn⟩:∃ n,es.length=n:=⟨_,rfl⟩
 have hFn:F.length=n:=by rw [← hF,hFl,hn]
 rw [hOV,hn]
 have hfldn:∀ V,Below w.heap.size w V->∀ (i:Nat) (hi:i < n),∃ (h9:i < es.length) (ad:Addr),FA=some ad/\FdAt V (ad.add (i * 9)) es[i].fd:=fun V hb i hi => ⟨by omega,hfld V hb i (by omega)⟩
 rw [hn] at hn10 hO9 hal hW1
 have hofn:=fun vs V j hj => hof vs V n hn j hj
 simp only [hn] at hall hfac hcell x0
 simp only [hn] at hfin
 clear hfld hlenO hFl
 have HAll:=Lib.hid hall
 have HAl:=Lib.hid hal
 have HO0:=Lib.hid hO0
 have HOs:=Lib.hid hOs
 have HO9:=Lib.hid hO9
 have HFld:=Lib.hid hfldn
 have HFac:=Lib.hid hfac
 have HOf:=Lib.hid hofn
 have HFat:=Lib.hid hFat
 have HFin:=Lib.hid hfin
 have HnF:=Lib.hid hnmF
 have HFn:=Lib.hid hFn
 have HFe:=Lib.hid hF
 have HW1:=Lib.hid hW1
 have HB1:=Lib.hid hB1
 have Hb1:=Lib.hid hb1
 have HCell:=Lib.hid hcell
 clear hall hal hO0 hOs hO9 hfldn hfac hof hofn hFat hfin hnmF hFn hF hW1 hB1 hb1 hcell horc ha hW hOV hins h hi hV
 unfold ShF.frBox at HW1
 go_enter Tryz.func14,Tryz.ntmps14
 go_upto_region 1 with fail
 rw [HW1.out,HB1.out]
 go_wp2_with fail
 go_loopw [6,7,8,10,11,12,16] (fun s6 _ _ _ _ _ ii wr => ∃ (t:Nat) (u:Value),u=s6/\ii=.int .i64 t/\t<=n/\wr.ownsRow W1.heap.size 57 7 u (OV t).length (fcR ((OV t).map ofO))/\Below W1.heap.size W1 wr) (fun _ _ _ _ _ _ ii _ => n - (intOf ii).toNat)
 case atStart => exact ⟨0,_,rfl,rfl,Nat.zero_le _,by rw [HO0.out]; exact World.ownsRow_nil _ _ _ _,Below.refl _ _⟩
 case round =>
  obtain ⟨t,u,rfl,rfl,ht,hown,hb⟩:=hrel
  obtain ⟨wa,rfl⟩:∃ V,V=wr:=⟨_,rfl⟩
  by_cases hlt:t < n
  ·obtain ⟨OA,oc,rfl,hfo,-⟩:=HFin.out t wa u _ ht hown
   obtain ⟨x0,x1⟩:=HCell.out wa hb
   have hbw:Below w.heap.size w wa:=b_trans Hb1.out hb
   have hall:=HAll.out t wa (by omega) hbw OA oc hfo
   have hvl:=HAl.out t
   have hos:=HOs.out t
   obtain ⟨vs,hvs⟩:∃ vs,allV ins (OV t) F=vs:=⟨_,rfl⟩
   rw [hvs] at hall hvl hos
   unfold AllOut at hall
   rw [hvl] at hall
   have HAll1:=Lib.hid hall
   have HVl:=Lib.hid hvl
   have HOs1:=Lib.hid hos
   have HOwn:=Lib.hid hown
   have HB:=Lib.hid hb
   clear hall hvl hos hown hb hvs hbw hfo
   go_wp2_with fail
   refine HAll1.out.mono ?_; rintro e w4 ⟨g,rfl,hgl,hrow,hb4⟩
   have hb14:=b_trans HB.out hb4
   obtain ⟨x0,x1⟩:=HCell.out w4 hb14
   have hown4:=own_below HOwn.out hb4
   have hq4:∀ q,(Value.slice OA (OV t).length oc).ownBlock=some q->q ≠ g:=fun q e => by have:=HOwn.out.lt q e; omega
   have HSt:=Lib.hid (And.intro hown4 (And.intro hrow (And.intro hq4 hb14)))
   clear hown4 hrow hq4 hb14 hb4 hgl
   go_wp2_with fail
   go_loopw [6,10,11,12,38] (fun s6 _ _ _ jj wy => ∃ (j:Nat) (O:List Fo) (u:Value),u=s6/\jj=.int .i64 j/\j<=n/\O=addO ansV (named F vs) (OV t) (F.take j)/\O.length<=(OV t).length + j/\wy.ownsRow W1.heap.size 57 7 u O.length (fcR (O.map ofO))/\RowV wy g vs/\(∀ q,u.ownBlock=some q->q ≠ g)/\Below W1.heap.size W1 wy) (fun _ _ _ _ jj _ => n - (intOf jj).toNat)
   case atStart => exact ⟨0,OV t,_,rfl,rfl,Nat.zero_le _,rfl,Nat.le_refl _,HSt.out.1,HSt.out.2.1,HSt.out.2.2.1,HSt.out.2.2.2⟩
   case round =>
    obtain ⟨j,O,u,rfl,rfl,hj,hOe,hOl,hown,hrow,hq,hb⟩:=hrel
    obtain ⟨wy,rfl⟩:∃ V,V=wr:=⟨_,rfl⟩
    by_cases hjl:j < n
    ·obtain ⟨h9,ad,rfl,hat⟩:=HFld.out wy (b_trans Hb1.out hb) j hjl
     obtain ⟨hjF,hfw⟩:=HFat.out j h9
     have hst:=addO_take ansV (named F vs) (OV t) F j hjF
     rw [hfw,← hOe] at hst
     have hof1:=fun V KA kc => HOf.out vs V j h9 KA kc
     have hnm10:es[j].fd.nm.size<=10:=by
      have:=HnF.out F[j] (by rw [HFe.out]; exact List.getElem_mem hjF)
      rw [hfw] at this
      exact this
     obtain ⟨f,hf⟩:∃ f,es[j].fd=f:=⟨_,rfl⟩
     obtain ⟨x,hx⟩:∃ x,es[j].x=x:=⟨_,rfl⟩
     simp only [hf,hx] at hat hof1 hst hnm10
     obtain ⟨K,hK⟩:∃ K,ofV (named F vs) x=K:=⟨_,rfl⟩
     unfold add1 at hst
     simp only [hK] at hst hof1
     have hans:=fun V (hk9:K.s.size<=40) => Wh9.answered_any f x K V hk9 hnm10
     obtain ⟨R,hR⟩:∃ R,ansV ⟨f.nm,f.kind,f.ty,x⟩ K=R:=⟨_,rfl⟩
     rw [hR] at hst
     simp only [hR] at hans
     obtain ⟨kk,kn,ks⟩:=K
     obtain ⟨rk,rn,rz⟩:=R
     obtain ⟨A2,c2,hu,hfc⟩:=own_fcs hown (List.length_map _)
     rw [List.length_map] at hu
     subst hu
     have hOn:O.length<=110:=by have:=HO9.out t ht; omega
     obtain ⟨q0,q1,q2,q3,q4,q5,q6,q7,q8⟩:=hat
     obtain ⟨W5,hW5⟩:∃ V,wy.alloc (ShF.fdBox f)=V:=⟨_,rfl⟩
     obtain ⟨B10,hB10⟩:∃ B,wy.heap.size=B:=⟨_,rfl⟩
     have hb5:=b_new wy (ShF.fdBox f)
     have hcf:=fd_cells9 wy f
     have own5:=hown.alloc (ShF.fdBox f)
     rw [hW5] at hb5 hcf own5
     rw [hB10] at hcf
     have hb15:=b_trans hb hb5
     have hrow5:=hrow.below hb5
     have hfc5:=hfc.below hb5
     have hgB:g < B10:=by have:=hrow.lt; omega
     have hB10l:B10 < W5.heap.size:=by rw [← hW5,World.size_alloc,hB10]; omega
     have hob:∀ q,(Value.slice A2 O.length c2).ownBlock=some q->W1.heap.size<=q/\q < B10:=fun q e => by have:=hown.lt q e; omega
     obtain ⟨y0,y1,y2,y3,y4,y5,y6,y7,y8⟩:=hcf W5 (Below.refl _ _)
     obtain ⟨x0,x1⟩:=HCell.out W5 hb15
     have HSt5:=Lib.hid (And.intro own5 (And.intro hrow5 (And.intro hq (And.intro hb15 hfc5))))
     have HW5:=Lib.hid hW5
     have HB10:=Lib.hid hB10
     have HOb:=Lib.hid hob
     have HCf:=Lib.hid hcf
     clear hown hrow hb own5 hrow5 hb15 hfc hfc5 hW5 hB10 hob hcf hb5 hfw hR hK hx hf hOe
     unfold ShF.fdBox at HW5
     go_upto_region 10 with fail
     rw [HW5.out,HB10.out]
     by_cases hk:f.kind=3
     ·have t3:(f.kind != 3)=false:=by rw [hk]; rfl
      have HK3:=Lib.hid hk
      clear hk
      have hfac1:=fun V (hV:Below W5.heap.size W5 V) => HFac.out vs g V (b_trans Hb1.out (b_trans HSt5.out.2.2.2.1 hV)) HVl.out (HSt5.out.2.1.below hV)
      have hof2:=fun V KA kc (hV:Below W5.heap.size W5 V) hkf => hof1 V KA kc (b_trans Hb1.out (b_trans HSt5.out.2.2.2.1 hV)) HVl.out hkf
      have hcl:∀ V,Below W5.heap.size W5 V->V.cell? ⟨B10,3,none⟩=some (.int .i64 f.d.op)/\V.cell? ⟨B10,4,none⟩=some (.int .i64 f.d.k)/\V.cell? ⟨B10,5,none⟩=some (.int .i64 f.d.n)/\V.cell? ⟨B10,6,none⟩=some (.string f.d.s)/\V.cell? ⟨B10,7,none⟩=some (.string f.d.nm)/\V.cell? ⟨B10,8,none⟩=some (.slice f.A f.n f.c)/\V.cell? ⟨B1,0,none⟩=some (.slice (some ad) n fc):=fun V hV => by
       obtain ⟨_,_,_,z3,z4,z5,z6,z7,z8⟩:=HCf.out V hV
       exact ⟨z3,z4,z5,z6,z7,z8,(HCell.out V (b_trans HSt5.out.2.2.2.1 hV)).1⟩
      have hset:∀ (U:World) (B:Nat) (u0 u1 u2:Value),Below W5.heap.size W5 U->W5.heap.size<=B->∀ V,V=((U.setCell ⟨B,0,none⟩ u0).setCell ⟨B,1,none⟩ u1).setCell ⟨B,2,none⟩ u2->V.cell? ⟨B10,3,none⟩=some (.int .i64 f.d.op)/\V.cell? ⟨B10,4,none⟩=some (.int .i64 f.d.k)/\V.cell? ⟨B10,5,none⟩=some (.int .i64 f.d.n)/\V.cell? ⟨B10,6,none⟩=some (.string f.d.s)/\V.cell? ⟨B10,7,none⟩=some (.string f.d.nm)/\V.cell? ⟨B10,8,none⟩=some (.slice f.A f.n f.c)/\V.cell? ⟨B1,0,none⟩=some (.slice (some ad) n fc):=fun U B u0 u1 u2 hU hB V hV => by
       subst hV
       exact hcl _ (b_set3' hU B hB 0 1 2 u0 u1 u2)
      have HFa:=Lib.hid hfac1
      have HOf1:=Lib.hid hof2
      have HCl:=Lib.hid hcl
      have HSet:=Lib.hid hset
      have HAn:=Lib.hid hans
      have HStep:=Lib.hid hst
      have hbl:=Below.refl W5.heap.size W5
      have sw:W5.heap.size<=W5.heap.size:=Nat.le_refl _
      clear hfac1 hof1 hof2 hcl hset hans hst
      go_upto_region 11 with fail
      go_cut [11,12] (fun s11 s12 wx => ∃ (B:Nat) (E:Int),s11=.pointer (some ⟨B,0,none⟩)/\s12=.int .i64 E/\W5.heap.size<=B/\BV wx B kk kn ks/\Below W5.heap.size W5 wx)
      case first =>
       go_region_held3 (fun V => V.cell? ⟨B10,3,none⟩=some (.int .i64 f.d.op)/\V.cell? ⟨B10,4,none⟩=some (.int .i64 f.d.k)/\V.cell? ⟨B10,5,none⟩=some (.int .i64 f.d.n)/\V.cell? ⟨B10,6,none⟩=some (.string f.d.s)/\V.cell? ⟨B10,7,none⟩=some (.string f.d.nm)/\V.cell? ⟨B10,8,none⟩=some (.slice f.A f.n f.c)/\V.cell? ⟨B1,0,none⟩=some (.slice (some ad) n fc)) (first | (with_reducible exact HCl.out _ hbl) | (with_reducible exact HCl.out _ (b_drew hbl)) | (with_reducible exact HCl.out _ (b_more hbl _)) | (with_reducible exact HCl.out _ (b_more (b_drew hbl) _)) | (with_reducible exact HCl.out _ (b_drew (b_more hbl _))) | (with_reducible exact HSet.out _ _ _ _ _ hbl (by first | exact Nat.le_refl _ | exact sn | exact sk) _ rfl))
        (first | (go_at_call 18; (with_reducible refine (HFa.out _ ?_).mono ?_); (first | exact hbl | exact b_drew hbl | exact b_more hbl _ | exact b_more (b_drew hbl) _ | exact b_drew (b_more hbl _)); rintro e wn ⟨KA,kc,rfl,hkf,hbn⟩; have hbl:Below W5.heap.size W5 wn:=(by first | exact TyO.b_step hbl hbn | exact TyO.b_step (b_drew hbl) hbn | exact TyO.b_step (b_more hbl _) hbn | exact TyO.b_step (b_more (b_drew hbl) _) hbn | exact TyO.b_step (b_drew (b_more hbl _)) hbn); have sn:=hbl.size; (first | (have bx:BV wn W5.heap.size 0 0 ⟨#[]⟩:=bvz_keep (by first | exact bvz_at W5 | exact bvz_at W5.drew) hbn) | skip)) | (go_at_call 42; (with_reducible refine (HOf1.out _ _ _ ?_ ?_).mono ?_); (first | exact hbl | exact b_drew hbl | exact b_more hbl _ | exact b_more (b_drew hbl) _ | exact b_drew (b_more hbl _)); (first | exact hkf | exact hkf.below (b_drew (Below.refl _ _)) | exact hkf.below (b_new _ _) | exact hkf.below (b_more (b_drew (Below.refl _ _)) _) | exact hkf.below (b_drew (b_new _ _))); rintro e wk ⟨⟨E,rfl⟩,hbk⟩; have hbl:Below W5.heap.size W5 wk:=(by first | exact TyO.b_step hbl hbk | exact TyO.b_step (b_drew hbl) hbk | exact TyO.b_step (b_more hbl _) hbk | exact TyO.b_step (b_more (b_drew hbl) _) hbk | exact TyO.b_step (b_drew (b_more hbl _)) hbk); have sk:=hbl.size; (first | (have bx:BV wk W5.heap.size 0 0 ⟨#[]⟩:=bvz_keep (bvz_keep bx (by first | exact (Below.refl _ _) | exact (b_drew (Below.refl _ _)) | exact (b_new _ _) | exact (b_more (b_drew (Below.refl _ _)) _) | exact (b_drew (b_new _ _)))) hbk) | (have bx:BV wk wn.heap.size 0 0 ⟨#[]⟩:=bvz_keep (by first | exact bvz_at wn | exact bvz_at wn.drew) hbk) | skip); (first | (obtain ⟨xx0,xx1,xx2⟩:=bx.cells; have xf:=bx.frozen; have xl:=bx.lt) | skip)))
       all_goals (go_wp2_with fail; go_meet)
       all_goals (first | (exact ⟨_,E,rfl,rfl,(by first | exact Nat.le_refl _ | exact sn | exact sk),bx.set3 kk kn ks,b_set3' hbl _ (by first | exact Nat.le_refl _ | exact sn | exact sk) 0 1 2 _ _ _⟩) | (exact ⟨_,E,rfl,rfl,sk,BV.new wk kk kn ks,b_more hbl _⟩))
      case rest =>
       obtain ⟨B11,E,rfl,rfl,hB11,hbv,hbc⟩:=hcut
       have hbc1:=b_trans HSt5.out.2.2.2.1 hbc
       have ownc:=own_below HSt5.out.1 hbc
       have hrowc:=HSt5.out.2.1.below hbc
       have hfcc:=HSt5.out.2.2.2.2.below hbc
       have hcfc:=fun V (hV:Below wc.heap.size wc V) => HCf.out V (b_trans hbc hV)
       have hkn:=fun V => Val.known_any kk kn ks V
       have hct:=fun V (hV:Below wc.heap.size wc V) => ocontains_any (O.map ofO) A2 c2 B10 B11 f.nm ⟨kk,kn,ks⟩ V (hfcc.below hV) (by rw [List.length_map]; omega) (hcfc V hV).1 (hbv.below hV)
       simp only [of_any,List.length_map] at hct
       obtain ⟨x0',x1',x2'⟩:=hbv.cells
       obtain ⟨z0,z1,z2,z3,z4,z5,z6,z7,z8⟩:=hcfc wc (Below.refl _ _)
       have hst:=HStep.out
       obtain ⟨kb,hkb⟩:∃ b,knV ⟨kk,kn,ks⟩=b:=⟨_,rfl⟩
       have hkb2:knownB kk kn ks.data.toList=kb:=hkb
       obtain ⟨hh,hhh⟩:∃ b,hasB' O f.nm ⟨kk,kn,ks⟩=b:=⟨_,rfl⟩
       simp only [hkb2] at hkn
       simp only [hhh] at hct
       have hk40:kb=true->ks.size<=40:=fun e => WhA.kn_size (v:=⟨kk,kn,ks⟩) (hkb.trans e)
       rw [hkb,hhh] at hst
       have HKn:=Lib.hid hkn
       have HCt:=Lib.hid hct
       have HSt2:=Lib.hid hst
       have HC:=Lib.hid (And.intro ownc (And.intro hrowc (And.intro hbc1 hbv)))
       have HCfc:=Lib.hid hcfc
       have HB11:=Lib.hid hB11
       have Hbc:=Lib.hid hbc
       have HK40:=Lib.hid hk40
       clear hbc1 ownc hrowc hfcc hcfc hkn hct hst hkb hkb2 hhh hbv hbc hB11 hk40
       have hbl:Below wc.heap.size wc wc:=Below.refl _ _
       cases kb with
       | false =>
        have hst:=HSt2.out.trans (if_neg (fun h => absurd h.2.1 (by decide)))
        have HStep2:=Lib.hid hst
        clear hst
        go_wp2_with (first | (go_at_call 43; (with_reducible refine (HKn.out _).mono ?_); rintro e w1 ⟨rfl,hb1⟩; have HBE:=Lib.hid hb1; clear hb1))
        go_roundw
        case rel => exact ⟨j + 1,O,_,rfl,by go_num,by omega,HStep2.out.symm,by omega,own_below HC.out.1 HBE.out,HC.out.2.1.below HBE.out,HSt5.out.2.2.1,b_trans HC.out.2.2.1 HBE.out⟩
        case measure => simp [intOf]; omega
       | true =>
        cases hh with
        | true =>
         have hst:=HSt2.out.trans (if_neg (fun h => absurd h.2.2 (by decide)))
         have HStep2:=Lib.hid hst
         clear hst
         go_wp2_with (first | (go_at_call 43; (with_reducible refine (HKn.out _).mono ?_); rintro e w1 ⟨rfl,hb1⟩; have HBE:=Lib.hid hb1; clear hb1) | (go_at_call 44; (with_reducible refine (HCt.out _ HBE.out).mono ?_); rintro e w2 ⟨rfl,hb2⟩; have HBE2:=Lib.hid (b_trans HBE.out hb2); clear hb2))
         go_roundw
         case rel => exact ⟨j + 1,O,_,rfl,by go_num,by omega,HStep2.out.symm,by omega,own_below HC.out.1 HBE2.out,HC.out.2.1.below HBE2.out,HSt5.out.2.2.1,b_trans HC.out.2.2.1 HBE2.out⟩
         case measure => simp [intOf]; omega
        | false =>
         have hst:=HSt2.out.trans (if_pos ⟨HK3.out,rfl,rfl⟩)
         have hk4:=HK40.out rfl
         have hans:=fun V => HAn.out V hk4
         unfold fdA vlA at hans
         have HStep2:=Lib.hid hst
         have HAns:=Lib.hid hans
         clear hst hans
         go_upto_region 13 with (first | (go_at_call 43; (with_reducible refine (HKn.out _).mono ?_); rintro e w1 ⟨rfl,hb1⟩; have HBE:=Lib.hid hb1; clear hb1) | (go_at_call 44; (with_reducible refine (HCt.out _ HBE.out).mono ?_); rintro e w2 ⟨rfl,hb2⟩; have HBE2:=Lib.hid (b_trans HBE.out hb2); clear hb2))
         have hb52:=b_trans Hbc.out HBE2.out
         have own2:=own_below HC.out.1 HBE2.out
         have hrow2:=HC.out.2.1.below HBE2.out
         have hbv2:=HC.out.2.2.2.below HBE2.out
         have hb12:=b_trans HC.out.2.2.1 HBE2.out
         have hc2:∀ V,Below w2.heap.size w2 V->V.cell? ⟨B10,0,none⟩=some (.string f.nm)/\V.cell? ⟨B10,1,none⟩=some (.int .i64 f.kind)/\V.cell? ⟨B10,2,none⟩=some (.int .i64 f.ty)/\V.cell? ⟨B10,3,none⟩=some (.int .i64 f.d.op)/\V.cell? ⟨B10,4,none⟩=some (.int .i64 f.d.k)/\V.cell? ⟨B10,5,none⟩=some (.int .i64 f.d.n)/\V.cell? ⟨B10,6,none⟩=some (.string f.d.s)/\V.cell? ⟨B10,7,none⟩=some (.string f.d.nm)/\V.cell? ⟨B10,8,none⟩=some (.slice f.A f.n f.c)/\V.cell? ⟨B11,0,none⟩=some (.int .i64 kk)/\V.cell? ⟨B11,1,none⟩=some (.int .i64 kn)/\V.cell? ⟨B11,2,none⟩=some (.string ks):=fun V hV => by
          obtain ⟨a0,a1,a2,a3,a4,a5,a6,a7,a8⟩:=HCf.out V (b_trans hb52 hV)
          exact ⟨a0,a1,a2,a3,a4,a5,a6,a7,a8,(hbv2.below hV).cells⟩
         have hB10w:B10 < w2.heap.size:=by have:=hb52.size; omega
         have hbase2:W1.heap.size<=w2.heap.size:=hb12.size
         have hends:∀ wn,Below w2.heap.size w2 wn->∀ Wz w9,Below wn.heap.size wn Wz->Wz.grownBy w9 (Value.slice A2 O.length c2).ownBlock->(w9.cell? ⟨B10,0,none⟩=some (.string f.nm)/\w9.cell? ⟨B10,1,none⟩=some (.int .i64 f.kind)/\w9.cell? ⟨B10,2,none⟩=some (.int .i64 f.ty)/\w9.cell? ⟨B10,3,none⟩=some (.int .i64 f.d.op)/\w9.cell? ⟨B10,4,none⟩=some (.int .i64 f.d.k)/\w9.cell? ⟨B10,5,none⟩=some (.int .i64 f.d.n)/\w9.cell? ⟨B10,6,none⟩=some (.string f.d.s)/\w9.cell? ⟨B10,7,none⟩=some (.string f.d.nm)/\w9.cell? ⟨B10,8,none⟩=some (.slice f.A f.n f.c)/\w9.cell? ⟨B11,0,none⟩=some (.int .i64 kk)/\w9.cell? ⟨B11,1,none⟩=some (.int .i64 kn)/\w9.cell? ⟨B11,2,none⟩=some (.string ks))/\RowV w9 g vs/\Below W1.heap.size W1 w9:=fun wn hn Wz w9 hz hgw => by
          have hnz:Below w2.heap.size w2 Wz:=b_trans hn hz
          have hq9:=HSt5.out.2.2.1
          have hkeep:∀ q,q < w2.heap.size->(∀ p,(Value.slice A2 O.length c2).ownBlock=some p->p ≠ q)->w9.heap[q]?=w2.heap[q]?:=fun q hq hne =>
           (hgw.block q (Nat.lt_of_lt_of_le hq hnz.size) (fun e => hne q e.symm rfl)).trans (hnz.block q hq)
          have e10:=hkeep B10 hB10w (fun p e => by have:=HOb.out p e; omega)
          have e11:=hkeep B11 hbv2.lt (fun p e => by have:=HOb.out p e; have:=HB11.out; omega)
          have eg:=hkeep g hrow2.lt hq9
          have hk10:∀ o,w9.cell? ⟨B10,o,none⟩=w2.cell? ⟨B10,o,none⟩:=fun o => World.cell?_of_block (a:=⟨B10,o,none⟩) e10
          have hv9:BV w9 B11 kk kn ks:=e11.trans hbv2
          obtain ⟨a0,a1,a2,a3,a4,a5,a6,a7,a8,_⟩:=hc2 w2 (Below.refl _ _)
          exact ⟨⟨(hk10 _).trans a0,(hk10 _).trans a1,(hk10 _).trans a2,(hk10 _).trans a3,(hk10 _).trans a4,(hk10 _).trans a5,(hk10 _).trans a6,(hk10 _).trans a7,(hk10 _).trans a8,hv9.cells⟩,eg.trans hrow2,(b_trans hb12 hnz).grown hgw (b_trans hb12 hnz).size (fun q e => (HOb.out q e).1)⟩
         have hgw2:g < w2.heap.size:=hrow2.lt
         obtain ⟨LL,hLL⟩:∃ l,fcR (O.map ofO)=l:=⟨_,rfl⟩
         rw [hLL] at own2
         have hfin9:∀ (W9:World) (gg cap:Nat),W9.ownsRow W1.heap.size 57 7 (.slice (some ⟨gg,0,none⟩) (O.length + 1) cap) (O.length + 1) (LL ++ [.string f.nm,.int .i64 kk,.int .i64 kn,.string ks,.int .i64 rk,.int .i64 rn,.string rz])->W9.ownsRow W1.heap.size 57 7 (.slice (some ⟨gg,0,none⟩) (O.length + 1) cap) (O ++ ([⟨f.nm,⟨kk,kn,ks⟩,⟨rk,rn,rz⟩⟩]:List Fo)).length (fcR ((O ++ ([⟨f.nm,⟨kk,kn,ks⟩,⟨rk,rn,rz⟩⟩]:List Fo)).map ofO)):=fun W9 gg cap h => by
          rw [of_snoc,hLL,List.length_append]
          exact h
         have HFin9:=Lib.hid hfin9
         have HEnds:=Lib.hid hends
         have HC2:=Lib.hid hc2
         have Own2:=Lib.hid own2
         have Hgw2:=Lib.hid hgw2
         obtain ⟨y0,y1,y2,y3,y4,y5,y6,y7,y8,yy0,yy1,yy2⟩:=hc2 w2 (Below.refl _ _)
         clear hends hc2 own2 hbv2 hrow2 hb12 hb52 hLL hfin9 hgw2
         have hbl:Below w2.heap.size w2 w2:=Below.refl _ _
         go_region_held3 (fun V => V.cell? ⟨B10,0,none⟩=some (.string f.nm)/\V.cell? ⟨B10,1,none⟩=some (.int .i64 f.kind)/\V.cell? ⟨B10,2,none⟩=some (.int .i64 f.ty)/\V.cell? ⟨B10,3,none⟩=some (.int .i64 f.d.op)/\V.cell? ⟨B10,4,none⟩=some (.int .i64 f.d.k)/\V.cell? ⟨B10,5,none⟩=some (.int .i64 f.d.n)/\V.cell? ⟨B10,6,none⟩=some (.string f.d.s)/\V.cell? ⟨B10,7,none⟩=some (.string f.d.nm)/\V.cell? ⟨B10,8,none⟩=some (.slice f.A f.n f.c)/\V.cell? ⟨B11,0,none⟩=some (.int .i64 kk)/\V.cell? ⟨B11,1,none⟩=some (.int .i64 kn)/\V.cell? ⟨B11,2,none⟩=some (.string ks)) (first | (with_reducible exact hS7) | (with_reducible exact HC2.out _ hbl) | (with_reducible exact HC2.out _ (b_drew hbl)) | (with_reducible exact HC2.out _ (b_more hbl _)) | (with_reducible exact HC2.out _ (b_more (b_drew hbl) _)) | (with_reducible exact HC2.out _ (b_drew (b_more hbl _))))
          (first | (go_at_call 46; (with_reducible refine (HAns.out _).mono ?_); rintro e wn ⟨rfl,hbn⟩; have hbl:Below w2.heap.size w2 wn:=(by first | exact TyO.b_step hbl hbn | exact TyO.b_step (b_drew hbl) hbn); have hownn:=own_below Own2.out hbl; have hnsz:w2.heap.size<=wn.heap.size:=hbl.size; have hnz8:W1.heap.size<=(wn.alloc (.cells #[.string f.nm,.int .i64 kk,.int .i64 kn,.string ks,.int .i64 rk,.int .i64 rn,.string rz] 57)).heap.size:=(by rw [World.size_alloc]; omega)) | (refine step_append_lies _ (by rfl) _ _ _ (by rfl) W1.heap.size 57 f0 _ 7 80 Tryz.underlying28 hfi0 hfz0 hfz1 hfz2 rfl (by omega) (.slice A2 O.length c2) O.length LL (by rfl) (by first | with_reducible exact own_drew (hownn.alloc _) | with_reducible exact hownn.alloc _ | with_reducible exact (own_drew hownn).alloc _) ⟨wn.heap.size,0,none⟩ 1 1 [.string f.nm,.int .i64 kk,.int .i64 kn,.string ks,.int .i64 rk,.int .i64 rn,.string rz] (by rfl) (by rfl) (World.news_of_block (cs:=#[.string f.nm,.int .i64 kk,.int .i64 kn,.string ks,.int .i64 rk,.int .i64 rn,.string rz]) (t:=57) (fr:=(0,0)) (World.alloc_heap_new wn _)) (by simp [Value.oneCell']) (by omega) (by unfold maxLen; omega) (by omega) hnz8 (wn.heap.size + 1) (by first | simp | exact World.size_alloc _ _) ?_; intro gg cap w9 hown9 hgrow9 hat9 hlt9; have hz8:=HEnds.out wn hbl _ w9 (by first | with_reducible exact b_drew (b_new wn _) | with_reducible exact b_new wn _ | with_reducible exact b_more (b_drew (Below.refl _ _)) _) hgrow9; have hS7:=hz8.1; have H9:=Lib.hid (And.intro (HFin9.out w9 gg cap hown9) (And.intro hz8.2 hat9)); clear hz8; clear hown9 hgrow9 hat9 hlt9))
         all_goals
          have hq9:∀ q,(Value.slice (some ⟨gg,0,none⟩) (O.length + 1) cap).ownBlock=some q->q ≠ g:=fun q e => by
           have e2:gg=q:=by simpa [Value.ownBlock] using e
           subst e2
           rcases H9.out.2.2 with h | h
           ·exact HSt5.out.2.2.1 _ h
           ·have:=Hgw2.out; omega
          have HQ9:=Lib.hid hq9
          clear hq9
          go_wp2_with fail
          go_roundw
          case rel => exact ⟨j + 1,O ++ [⟨f.nm,⟨kk,kn,ks⟩,⟨rk,rn,rz⟩⟩],_,rfl,by go_num,by omega,HStep2.out.symm,by rw [List.length_append,List.length_singleton]; omega,H9.out.1,H9.out.2.1.1,HQ9.out,H9.out.2.1.2⟩
          case measure => simp [intOf]; omega
     ·have t3:(f.kind != 3)=true:=bne_iff_ne.2 hk
      rw [if_neg (fun hh => hk hh.1)] at hst
      have HStep:=Lib.hid hst
      clear hst hof1 hans
      go_wp2_with fail
      go_roundw
      case rel => exact ⟨j + 1,O,_,rfl,by go_num,by omega,HStep.out.symm,by omega,HSt5.out.1,HSt5.out.2.1,HSt5.out.2.2.1,HSt5.out.2.2.2.1⟩
      case measure => simp [intOf]; omega
    ·have hje:j=n:=by omega
     subst hje
     rw [List.take_of_length_le (Nat.le_of_eq HFn.out),← HOs1.out] at hOe
     subst hOe
     have HN:=Lib.hid (And.intro hown hb)
     clear hown hb hrow hq
     go_wp2_with fail
     go_roundw
     case rel => exact ⟨t + 1,_,rfl,by go_num,by omega,HN.out.1,HN.out.2⟩
     case measure => simp [intOf]; omega
  ·rw [show t=n by omega] at hown
   obtain ⟨OA,oc,rfl,hfo,hos⟩:=HFin.out n wa u _ (Nat.le_refl _) hown
   have HN:=Lib.hid (And.intro hfo (And.intro hb hos))
   clear hfo hown hb hos
   go_wp2_with fail
   go_ret2
   exact ⟨OA,oc,rfl,HN.out.1,b_trans Hb1.out HN.out.2.1,HN.out.2.2⟩
end Wh10
namespace Wh11
open Go.RowKit Go.Maps
open ValM LexM NumM ExM NmM StrM EvM EvP FoM Kit ExL ExP ExN RawV Within RawL RawN GenL TyM Ty EvF EvO EvR EvE FrmM Frm FrmT FrmO FldP FldC FcM PgM PgF ShE RkM RkD RkO RkT RkP RkS RkK TxR TxT TxK InpG FcF WhM WhQ WhU WhT WhA Wh1 Wh2 Wh3 Wh4 Wh5 Wh6 Wh7 Wh8 Wh9 Wh10 SMp KMp
set_option linter.unusedVariables false
theorem okO {es:List FE} {ps:List PE} {FA:Option Addr} {fc:Nat} {PA:Option Addr} {pc:Nat} {qs:List Rw} {I:List Fc} {v:World} (h:GS es ps FA fc PA pc qs I v) (t:Nat):OrcOk ansV (es.map toW) (orcV ansV (I.map toO) (es.map toW) t) :=
 orc_ok h.wf.wt (facts_tyin h.wf.src h.wf.check h.fz) (facts_oks h.fz) (ans_ok h.wf.wt h.nms) t
theorem oksO {es:List FE} {ps:List PE} {FA:Option Addr} {fc:Nat} {PA:Option Addr} {pc:Nat} {qs:List Rw} {I:List Fc} {v:World} (h:GS es ps FA fc PA pc qs I v) (t:Nat):Oks (orcV ansV (I.map toO) (es.map toW) t):=(okO h t).oks (ans_ok h.wf.wt h.nms)
theorem zeroO {es:List FE} {ps:List PE} {FA:Option Addr} {fc:Nat} {PA:Option Addr} {pc:Nat} {qs:List Rw} {I:List Fc} {v:World} (h:GS es ps FA fc PA pc qs I v) (t:Nat):orcE (es.map FE.fd) (xOf es) ((orcV ansV (I.map toO) (es.map toW) t).map ofO)=0 :=
 orc_good h.wf.src h.wf.check h.wf.wt (ans_ok h.wf.wt h.nms) (by rw [toO_of]; exact okO h t)
theorem allO {es:List FE} {ps:List PE} {FA:Option Addr} {fc:Nat} {PA:Option Addr} {pc:Nat} {qs:List Rw} {I:List Fc} {v:World} (h:GS es ps FA fc PA pc qs I v) (t:Nat) {V:World} (hV:Below v.heap.size v V) {IA:Option Addr} {ic:Nat} (hi:FctIn I IA V) {OA:Option Addr} {oc:Nat} (ho:FctIn ((orcV ansV (I.map toO) (es.map toW) t).map ofO) OA V) :
  Calls Tryz.prog 15 #[.agg #[.slice FA es.length fc,.slice PA ps.length pc],.slice IA I.length ic,.slice OA (orcV ansV (I.map toO) (es.map toW) t).length oc] V (AllOut (allV (I.map toO) (orcV ansV (I.map toO) (es.map toW) t) (es.map toW)) V):=by
 have h1:=h.all (ic:=ic) (oc:=oc) hV hi ho (zeroO h t)
 rw [toO_of,List.length_map] at h1
 exact h1
theorem oneFix {es:List FE} {ps:List PE} {FA:Option Addr} {fc:Nat} {PA:Option Addr} {pc:Nat} {qs:List Rw} {I:List Fc} {v:World} (h:GS es ps FA fc PA pc qs I v) (t:Nat) {vs:List Vl} (hvs:allV (I.map toO) (orcV ansV (I.map toO) (es.map toW) t) (es.map toW)=vs) {V:World} (hV:Below v.heap.size v V) {IA:Option Addr} {ic:Nat} (hi:FctIn I IA V) {OA:Option Addr} {oc:Nat} (ho:FctIn ((orcV ansV (I.map toO) (es.map toW) t).map ofO) OA V) {KA:Option Addr} {kc:Nat} (hk:FctIn (allK (es.map toW) vs) KA V) (i:Nat) (hil:i < es.length) (hil2:i < vs.length) :
  Calls Tryz.prog 17 #[fdA es[i].fd,.slice IA I.length ic,.slice OA (orcV ansV (I.map toO) (es.map toW) t).length oc,.slice KA es.length kc] V fun e w' => e=.returned (vlA vs[i])/\Below V.heap.size V w':=by
 have hl:vs.length=(es.map toW).length:=by rw [← hvs,all_len]
 have hlk:(allK (es.map toW) vs).length=es.length:=by rw [allK_len,List.length_map]
 have hilF:i < (es.map toW).length:=by rw [List.length_map]; exact hil
 have hkd:=h.wf.wt.kinds _ (List.getElem_mem hilF)
 have e2:(es.map toW)[i]=⟨es[i].fd.nm,es[i].fd.kind,es[i].fd.ty,es[i].x⟩:=by rw [List.getElem_map]; rfl
 rw [e2] at hkd
 have h1:=one_any es[i].fd es[i].x I IA ic ((orcV ansV (I.map toO) (es.map toW) t).map ofO) OA oc (allK (es.map toW) vs) KA kc V (by
  have hkd':1<=es[i].fd.kind/\es[i].fd.kind<=3:=hkd
  omega) hi.fc hi.len ho.fc ho.len hk.fc (by rw [hlk]; have:=h.n10; omega) hk.nm ((h.wf.fis i hil).below hV) (h.tab.below hV)
 have ha:=all_at h.wf.wt.toWk (facts_oks h.fz) (oksO h t) i hilF
 simp only [hvs] at ha
 rw [toO_of,List.length_map,hlk,allK_fcs hl,← e2,← ha] at h1
 exact h1
end Wh11
namespace Wh12
open Go.RowKit Go.Maps
open ValM LexM NumM ExM NmM StrM EvM EvP FoM Kit ExL ExP ExN RawV Within RawL RawN GenL TyM Ty EvF EvO EvR EvE FrmM Frm FrmT FrmO FldP FldC FcM PgM PgF ShE RkM RkD RkO RkT RkP RkS RkK TxR TxT TxK InpG FcF WhM WhQ WhU WhT WhA Wh1 Wh2 Wh3 Wh4 Wh5 Wh6 Wh7 Wh8 Wh9 Wh10 Wh11 SMp KMp
set_option linter.unusedVariables false
set_option maxRecDepth 100000 in
set_option maxHeartbeats 4000000 in
theorem aclos_any (v:Vl) (w:World):Calls Tryz.prog 20 #[vlA v] w fun e w' => e=.returned (.bool (v.k == 4))/\Below w.heap.size w w':=by
 obtain ⟨k,n,s⟩:=v
 have hbv:=BV.new w k n s
 have hb1:=b_new w (.cells #[.int .i64 k,.int .i64 n,.string s] 38)
 obtain ⟨W1,hW1⟩:∃ V,w.alloc (.cells #[.int .i64 k,.int .i64 n,.string s] 38)=V:=⟨_,rfl⟩
 obtain ⟨B1,hB1⟩:∃ B,w.heap.size=B:=⟨_,rfl⟩
 rw [hW1] at hbv hb1
 rw [hB1] at hbv
 obtain ⟨z0,z1,z2⟩:=hbv.cells
 have HW1:=Lib.hid hW1
 have HB1:=Lib.hid hB1
 have Hb1:=Lib.hid hb1
 clear hW1 hB1 hb1 hbv
 unfold vlA
 go_enter Tryz.func20,Tryz.ntmps20
 first
  | (go_upto_region 1 with fail; rw [HW1.out,HB1.out]; go_wp2_with fail; go_ret; exact ⟨rfl,Hb1.out⟩)
  | (go_wp2_with fail; go_ret; exact ⟨rfl,Below.refl _ _⟩)
set_option maxRecDepth 100000 in
set_option maxHeartbeats 4000000 in
theorem aindex_any (L:List Vl) (g n c:Nat) (w:World) (hr:RowV w g L) (hl:L.length=n) (hn:n<=1000000) :
  Calls Tryz.prog 53 #[.slice (some ⟨g,0,none⟩) n c,.func (.func 20) #[] #[]] w fun e w' => (∃ i:Int,e=.returned (.int .i64 i)/\decide (0<=i)=L.any fun q => q.k == 4)/\Below w.heap.size w w':=by
 have hcl:=fun (V:World) (q:Vl) => aclos_any q V
 obtain ⟨R,hR⟩:∃ R,(L.any fun q => q.k == 4)=R:=⟨_,rfl⟩
 have hyes:∀ (k:Nat) (h:k < L.length),(L[k].k == 4)=true->R=true:=fun k h e => by rw [← hR,List.any_eq_true]; exact ⟨_,List.getElem_mem h,e⟩
 have hno:(∀ (k:Nat) (h:k < L.length),(L[k].k == 4)=false)->R=false:=fun h => by
  rw [← hR,List.any_eq_false]
  intro q hq
  obtain ⟨k,hk,rfl⟩:=List.getElem_of_mem hq
  rw [h k hk]; decide
 rw [hR]
 have HCl:=Lib.hid hcl
 have HL:=Lib.hid hr
 have HY:=Lib.hid hyes
 have HNo:=Lib.hid hno
 have HLen:=Lib.hid hl
 clear hcl hr hyes hno hR hl
 have hnl:n<=9223372036854775807:=by omega
 unfold vlA at HCl
 go_enter Tryz.func53,Tryz.ntmps53
 go_wp2_with fail
 go_loopw [5,8] (fun _ ii wr => ∃ k:Nat,ii=.int .i64 k/\k<=n/\(∀ (j:Nat) (h:j < L.length),j < k->(L[j].k == 4)=false)/\Below w.heap.size w wr) (fun _ ii _ => n - (intOf ii).toNat)
 case atStart => exact ⟨0,rfl,Nat.zero_le _,fun j _ hj => absurd hj (Nat.not_lt_zero _),Below.refl _ _⟩
 case round =>
  obtain ⟨k,rfl,hk,hall,hb⟩:=hrel
  obtain ⟨wa,rfl⟩:∃ V,V=wr:=⟨_,rfl⟩
  by_cases hlt:k < n
  ·have hkl:k < L.length:=by have:=HLen.out; omega
   obtain ⟨q0,q1,q2⟩:=(HL.out.below hb).at k hkl
   have hy:=HY.out k hkl
   have hnx:(L[k].k == 4)=false->∀ (j:Nat) (h:j < L.length),j < k + 1->(L[j].k == 4)=false:=fun e j h hj => by
    by_cases ej:j=k
    ·subst ej; exact e
    ·exact hall j h (by omega)
   obtain ⟨q,hq⟩:∃ q,L[k]=q:=⟨_,rfl⟩
   rw [hq] at q0 q1 q2 hy hnx
   have hc:=HCl.out wa q
   obtain ⟨b,hbq⟩:∃ b,(q.k == 4)=b:=⟨_,rfl⟩
   rw [hbq] at hc hy hnx
   have HC:=Lib.hid hc
   have HYy:=Lib.hid hy
   have HNx:=Lib.hid hnx
   have HB:=Lib.hid hb
   clear hc hy hnx hb hq hbq hall
   go_wp2_with fail
   refine HC.out.mono ?_; rintro e w1 ⟨rfl,hb1⟩
   have HB1:=Lib.hid (b_trans HB.out hb1)
   clear hb1
   cases b with
   | true =>
    obtain rfl:=HYy.out (by first | trivial | rfl)
    go_wp2_with fail
    go_ret
    exact ⟨⟨(k:Int),rfl,decide_eq_true (Int.natCast_nonneg k)⟩,HB1.out⟩
   | false =>
    go_wp2_with fail
    go_roundw
    case rel => exact ⟨k + 1,by go_num,by omega,HNx.out (by first | trivial | rfl),HB1.out⟩
    case measure => simp [intOf]; omega
  ·obtain rfl:=HNo.out fun j hj => hall j hj (by have:=HLen.out; omega)
   have HB:=Lib.hid hb
   clear hb hall
   go_wp2_with fail
   go_ret
   exact ⟨⟨-1,rfl,by decide⟩,HB.out⟩
theorem acontains_any (L:List Vl) (g n c:Nat) (w:World) (hr:RowV w g L) (hl:L.length=n) (hn:n<=1000000) :
  Calls Tryz.prog 19 #[.slice (some ⟨g,0,none⟩) n c,.func (.func 20) #[] #[]] w fun e w' => e=.returned (.bool (L.any fun q => q.k == 4))/\Below w.heap.size w w':=by
 have hix:=aindex_any L g n c w hr hl hn
 generalize (L.any fun q => q.k == 4)=R at hix
 have HIx:=Lib.hid hix
 clear hix hr hl hn
 go_enter Tryz.func19,Tryz.ntmps19
 go_wp2_with fail
 refine HIx.out.mono ?_; rintro e w1 ⟨⟨i,rfl,hi⟩,hb1⟩
 have HB1:=Lib.hid hb1
 clear hb1
 cases R with
 | true =>
  have hi:0<=i:=by simpa using hi
  go_wp2_with fail
  go_ret
  exact ⟨rfl,HB1.out⟩
 | false =>
  have hi:¬ 0<=i:=by simpa using hi
  go_wp2_with fail
  go_ret
  exact ⟨rfl,HB1.out⟩
theorem no_pend {es:List FE} {ps:List PE} {FA:Option Addr} {fc:Nat} {PA:Option Addr} {pc:Nat} {qs:List Rw} {I:List Fc} {v:World} (h:GS es ps FA fc PA pc qs I v):((allV (I.map toO) (orcV ansV (I.map toO) (es.map toW) es.length) (es.map toW)).any fun q => q.k == 4)=false:=by
 have hl:(es.map toW).length=es.length:=List.length_map _
 have h1:=all_answered h.wf.wt (facts_tyin h.wf.src h.wf.check h.fz) (facts_oks h.fz) (ans_ok h.wf.wt h.nms) (facts_nop h.wf.src h.wf.check h.fz h.wf.wt.toWk.ty)
 rw [hl] at h1
 rw [List.any_eq_false]
 intro q hq
 have:=h1 q hq
 simpa using this
end Wh12
namespace Wh13
open Go.RowKit Go.Maps
open ValM LexM NumM ExM NmM StrM EvM EvP FoM Kit ExL ExP ExN RawV Within RawL RawN GenL TyM Ty EvF EvO EvR EvE FrmM Frm FrmT FrmO FldP FldC FcM PgM PgF ShE RkM RkD RkO RkT RkP RkS RkK TxR TxT TxK InpG FcF WhM WhQ WhU WhT WhA Wh1 Wh2 Wh3 Wh4 Wh5 Wh6 Wh7 Wh8 Wh9 Wh10 Wh11 SMp KMp
set_option linter.unusedVariables false
theorem fct_take {L:List Fc} {A:Option Addr} {w:World} (h:FctIn L A w) (m:Nat):FctIn (L.take m) A w:=by
 refine ⟨fun i hi => ?_,fun f hf => h.nm f (List.mem_of_mem_take hf),?_⟩
 ·have hi':i < L.length:=by rw [List.length_take] at hi; omega
  obtain ⟨ad,e,h1⟩:=h.fc i hi'
  exact ⟨ad,e,by rw [List.getElem_take]; exact h1⟩
 ·rw [List.length_take]; have:=h.len; omega
theorem allT {es:List FE} {ps:List PE} {FA:Option Addr} {fc:Nat} {PA:Option Addr} {pc:Nat} {qs:List Rw} {I:List Fc} {v:World} (h:GS es ps FA fc PA pc qs I v) (t m:Nat) (hm:m<=(orcV ansV (I.map toO) (es.map toW) t).length) {V:World} (hV:Below v.heap.size v V) {IA:Option Addr} {ic:Nat} (hi:FctIn I IA V) {OA:Option Addr} {oc:Nat} (ho:FctIn ((orcV ansV (I.map toO) (es.map toW) t).map ofO) OA V) :
  Calls Tryz.prog 15 #[.agg #[.slice FA es.length fc,.slice PA ps.length pc],.slice IA I.length ic,.slice OA m oc] V (AllOut (allV (I.map toO) ((orcV ansV (I.map toO) (es.map toW) t).take m) (es.map toW)) V):=by
 have ho2:=fct_take ho m
 rw [← List.map_take] at ho2
 have h1:=h.all (ic:=ic) (oc:=oc) hV hi ho2 (orc_good h.wf.src h.wf.check h.wf.wt (ans_ok h.wf.wt h.nms) (by rw [toO_of]; exact orc_good_take (okO h t) m))
 rw [toO_of,List.length_map,List.length_take,Nat.min_eq_left hm] at h1
 exact h1
theorem grows {es:List FE} {ps:List PE} {FA:Option Addr} {fc:Nat} {PA:Option Addr} {pc:Nat} {qs:List Rw} {I:List Fc} {v:World} (h:GS es ps FA fc PA pc qs I v) (t m:Nat) {us vs:List Vl} (hus:allV (I.map toO) ((orcV ansV (I.map toO) (es.map toW) t).take m) (es.map toW)=us) (hvs:allV (I.map toO) (orcV ansV (I.map toO) (es.map toW) t) (es.map toW)=vs) :
  us.length=es.length/\vs.length=es.length/\∀ (i:Nat) (h1:i < us.length) (h2:i < vs.length),us[i].k=4 ∨ us[i]=vs[i] ∨ (us[i].k=5/\vs[i].k=5):=by
 have hl:(es.map toW).length=es.length:=List.length_map _
 have l1:us.length=es.length:=by rw [← hus,all_len,hl]
 have l2:vs.length=es.length:=by rw [← hvs,all_len,hl]
 have hg:=all_grows h.wf.wt.toWk (facts_oks h.fz) (oksO h t) m
 rw [hus,hvs] at hg
 refine ⟨l1,l2,fun i h1 h2 => ?_⟩
 rcases hg i (by omega) h2 h1 with e | e | ⟨e1,e2⟩
 ·exact .inl e
 ·exact .inr (.inl e.symm)
 ·exact .inr (.inr ⟨e2,e1⟩)
theorem gro_tests {a b:Vl} (h:a.k=4 ∨ a=b ∨ (a.k=5/\b.k=5)) :
  (a.k != 4)=false ∨ ((a.k != 4)=true/\a=b) ∨ ((a.k != 4)=true/\a.k=5/\b.k=5):=by
 by_cases h4:a.k=4
 ·exact .inl (by rw [h4]; rfl)
 ·have t:(a.k != 4)=true:=bne_iff_ne.2 h4
  rcases h with h | h | h
  ·exact absurd h h4
  ·exact .inr (.inl ⟨t,h⟩)
  ·exact .inr (.inr ⟨t,h.1,h.2⟩)
end Wh13
end Go.Proofs.YtonlkmkfcaadlaaGreatDoor
