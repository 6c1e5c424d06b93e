/- Wh1 KMap Wh2 FrmBase: what these laws name of them. -/
import Derived.DeepKeys4
import Derived.Test.YtonlkmkfcaadlaaGreatDoorKw06
import Derived.Test.YtonlkmkfcaadlaaGreatDoorKw09
namespace Go.Proofs.YtonlkmkfcaadlaaGreatDoor
set_option linter.unusedVariables false
namespace Wh1
open Go.RowKit
open ValM LexM NumM ExM NmM StrM EvM EvP FoM Kit ExL ExN RawV Within RawL GenL TyM Ty EvF EvO EvE FldP FcM ShF WhM WhQ
set_option linter.unusedVariables false
def vlA (v:Vl):Value:=.agg #[.int .i64 v.k,.int .i64 v.n,.string v.s]
theorem askF_at (nm:ByteArray) (key:Vl):∀ (l:List Fo) (k:Nat) (hk:k < l.length),(∀ j (hj:j < l.length),j < k->hitB nm key l[j]=false)->hitB nm key l[k]=true->askF l nm key=l[k].has
 | o :: l,0,_,_,h => by unfold askF; rw [if_pos (show hitB nm key o=true from h)]; rfl
 | o :: l,k + 1,hk,hn,h => by
  unfold askF
  have h0:hitB nm key o=false:=hn 0 (by simp) (by omega)
  rw [if_neg (by rw [h0]; decide)]
  exact askF_at nm key l k (by simpa using hk) (fun j hj hjk => hn (j + 1) (by simpa using hj) (by omega)) h
theorem askF_no (nm:ByteArray) (key:Vl):∀ (l:List Fo),(∀ j (hj:j < l.length),hitB nm key l[j]=false)->askF l nm key=pen
 | [],_ => rfl
 | o :: l,hn => by
  unfold askF
  have h0:hitB nm key o=false:=hn 0 (by simp)
  rw [if_neg (by rw [h0]; decide)]
  exact askF_no nm key l fun j hj => hn (j + 1) (by simpa using hj)
theorem inV_at (f:Fw):∀ (l:List Fo) (k:Nat) (hk:k < l.length),(∀ j (hj:j < l.length),j < k->l[j].nm ≠ f.nm)->l[k].nm=f.nm->inV l f=l[k].has
 | o :: l,0,_,_,h => by unfold inV; rw [if_pos (show o.nm=f.nm from h)]; rfl
 | o :: l,k + 1,hk,hn,h => by
  unfold inV
  rw [if_neg (show ¬ o.nm=f.nm from hn 0 (by simp) (by omega))]
  exact inV_at f l k (by simpa using hk) (fun j hj hjk => hn (j + 1) (by simpa using hj) (by omega)) h
theorem inV_no (f:Fw):∀ (l:List Fo),(∀ j (hj:j < l.length),l[j].nm ≠ f.nm)->inV l f=⟨f.ty,0,e0⟩
 | [],_ => rfl
 | o :: l,hn => by
  unfold inV
  rw [if_neg (show ¬ o.nm=f.nm from hn 0 (by simp))]
  exact inV_no f l fun j hj => hn (j + 1) (by simpa using hj)
set_option maxRecDepth 100000 in
set_option maxHeartbeats 4000000 in
theorem entered_any (f:GenL.Fd) (x:Ex) (L:List Fc) (A:Option Addr) (c:Nat) (w:World) (hl:Fcs w A L) (hln:L.length<=maxLen) :
  Calls Tryz.prog 50 #[.agg #[.string f.nm,.int .i64 f.kind,.int .i64 f.ty,.int .i64 f.d.op,.int .i64 f.d.k,.int .i64 f.d.n,.string f.d.s,.string f.d.nm,.slice f.A f.n f.c],.slice A L.length c] w fun e w' => e=.returned (vlA (inV (L.map toO) ⟨f.nm,f.kind,f.ty,x⟩))/\Below w.heap.size w w':=by
 obtain ⟨WA,hWA⟩:∃ V,(w.alloc (ShF.fdBox f)).alloc (.cells #[.int .i64 0,.int .i64 0,.string ⟨#[]⟩] 38)=V:=⟨_,rfl⟩
 obtain ⟨B,hB⟩:∃ B,w.heap.size=B:=⟨_,rfl⟩
 have hba:=b_new w (ShF.fdBox f)
 have hbA:Below w.heap.size w WA:=by rw [← hWA]; exact b_more hba _
 have hz:BV WA (B + 1) 0 0 ⟨#[]⟩:=by
  have:=BV.new (w.alloc (ShF.fdBox f)) 0 0 ⟨#[]⟩
  rw [World.size_alloc,hB,hWA] at this
  exact this
 have hcell:∀ V,Below WA.heap.size WA V->V.cell? ⟨B,0,none⟩=some (.string f.nm)/\V.cell? ⟨B,1,none⟩=some (.int .i64 f.kind)/\V.cell? ⟨B,2,none⟩=some (.int .i64 f.ty):=fun V hV => by
  have:=ShF.fd_cells w f V (by rw [← hWA] at hV; exact b_then hV)
  rw [hB] at this
  exact this
 obtain ⟨R,hR⟩:∃ R,inV (L.map toO) ⟨f.nm,f.kind,f.ty,x⟩=R:=⟨_,rfl⟩
 have hhit:∀ k (hk:k < L.length),(∀ j (hj:j < L.length),j < k->L[j].nm ≠ f.nm)->L[k].nm=f.nm->R=L[k].v:=fun k hk h e => by
  rw [← hR,inV_at _ (L.map toO) k (by rw [List.length_map]; exact hk) (fun j hj hjk => by rw [List.length_map] at hj; rw [List.getElem_map]; exact h j hj hjk) (by rw [List.getElem_map]; exact e),List.getElem_map]
  rfl
 have hend:(∀ j (hj:j < L.length),L[j].nm ≠ f.nm)->R=⟨f.ty,0,e0⟩:=fun h => by
  rw [← hR,inV_no _ (L.map toO) fun j hj => by rw [List.length_map] at hj; rw [List.getElem_map]; exact h j hj]
 rw [hR]
 unfold vlA
 obtain ⟨rk,rn,rs⟩:=R
 have hll:L.length<=9223372036854775807:=Nat.le_trans hln (by unfold maxLen; decide)
 have hBw:w.heap.size<=B + 1:=by omega
 have HL:=Lib.hid (hl.below hbA)
 have HHit:=Lib.hid hhit
 have HEnd:=Lib.hid hend
 have HCell:=Lib.hid hcell
 have HZ:=Lib.hid hz
 have HbA:=Lib.hid hbA
 have HWA:=Lib.hid hWA
 have HB:=Lib.hid hB
 clear hl hhit hend hcell hz hbA hba hWA hB hR hln
 unfold ShF.fdBox at HWA
 go_enter Tryz.func50,Tryz.ntmps50
 go_upto_region 1 with fail
 rw [HWA.out,HB.out]
 go_wp2_with fail
 go_loopw [6,9] (fun _ ii wr => ∃ k:Nat,ii=.int .i64 k/\k<=L.length/\(∀ j (hj:j < L.length),j < k->L[j].nm ≠ f.nm)/\Below WA.heap.size WA wr) (fun _ ii _ => L.length - (intOf ii).toNat)
 case atStart => exact ⟨0,rfl,Nat.zero_le _,fun j hj hjk => absurd hjk (by omega),Below.refl _ _⟩
 case round =>
  obtain ⟨k,rfl,hk,hno,hb⟩:=hrel
  obtain ⟨wa,rfl⟩:∃ V,V=wr:=⟨_,rfl⟩
  by_cases hlt:k < L.length
  ·obtain ⟨ad,rfl,hat⟩:=HL.out.below hb k hlt
   have hg:=HHit.out k hlt hno
   have hnext:L[k].nm ≠ f.nm->∀ j (hj:j < L.length),j < k + 1->L[j].nm ≠ f.nm:=fun e j hj hjk => by
    rcases Nat.lt_or_ge j k with h | h
    ·exact hno j hj h
    ·obtain rfl:j=k:=by omega
     exact e
   obtain ⟨q,hq⟩:∃ q,L[k]=q:=⟨_,rfl⟩
   rw [hq] at hat hg hnext
   obtain ⟨q0,q1,q2,q3,q4,q5,q6⟩:=hat
   obtain ⟨W5,hW5⟩:∃ V,wa.alloc (fcBox q)=V:=⟨_,rfl⟩
   obtain ⟨B9,hB9⟩:∃ B,wa.heap.size=B:=⟨_,rfl⟩
   have hb5:=b_new wa (fcBox q)
   have hcell5:=fc_cells wa q
   rw [hW5,hB9] at hcell5
   rw [hW5] at hb5
   obtain ⟨x0,x1,x2,x3,x4,x5,x6⟩:=hcell5 W5 (Below.refl _ _)
   have hbw5:=b_trans hb hb5
   obtain ⟨y0,y1,y2⟩:=HCell.out W5 hbw5
   obtain ⟨z0,z1,z2⟩:=(HZ.out.below hbw5).cells
   have z3:=(HZ.out.below hbw5).frozen
   have z4:=(HZ.out.below hbw5).lt
   have HN:=Lib.hid hnext
   have HG:=Lib.hid hg
   have HB5:=Lib.hid hbw5
   have HW5:=Lib.hid hW5
   have HB9:=Lib.hid hB9
   clear hnext hg hbw5 hW5 hB9 hb5 hcell5 hb hno hq
   unfold fcBox at HW5
   go_upto_region 4 with fail
   rw [HW5.out,HB9.out]
   by_cases he:q.nm=f.nm
   ·have hr:=HG.out he
    obtain ⟨e1,e2,e3⟩:rk=q.v.k/\rn=q.v.n/\rs=q.v.s:=⟨congrArg Vl.k hr,congrArg Vl.n hr,congrArg Vl.s hr⟩
    subst e1 e2 e3
    have t1:(q.nm.toList == f.nm.toList)=true:=eq_t he
    have hbE:=b_set3 (b_trans HbA.out HB5.out) (B + 1) hBw (.int .i64 q.v.k) (.int .i64 q.v.n) (.string q.v.s)
    have HBE:=Lib.hid hbE
    clear hbE hr
    go_wp2_with fail
    refine bodyPost_ret (v:=.agg #[.int .i64 q.v.k,.int .i64 q.v.n,.string q.v.s]) (by simp [results,Tryz.results50,go_sem,z0,z1,z2]) rfl ⟨rfl,HBE.out⟩
   ·have t1:(q.nm.toList == f.nm.toList)=false:=eq_f he
    go_wp2_with fail
    go_roundw
    case rel => exact ⟨k + 1,by go_num,by omega,HN.out he,HB5.out⟩
    case measure => simp [intOf]; omega
  ·have hr:=HEnd.out fun j hj => hno j hj (by omega)
   obtain ⟨e1,e2,e3⟩:rk=f.ty/\rn=0/\rs=⟨#[]⟩:=⟨congrArg Vl.k hr,congrArg Vl.n hr,congrArg Vl.s hr⟩
   subst e1 e2 e3
   obtain ⟨y0,y1,y2⟩:=HCell.out wa hb
   obtain ⟨z0,z1,z2⟩:=(HZ.out.below hb).cells
   have z3:=(HZ.out.below hb).frozen
   have z4:=(HZ.out.below hb).lt
   have hbE:=b_set3 (b_trans HbA.out hb) (B + 1) hBw (.int .i64 f.ty) (.int .i64 0) (.string ⟨#[]⟩)
   have HBE:=Lib.hid hbE
   clear hbE hr hb hno
   go_wp2_with fail
   refine bodyPost_ret (v:=.agg #[.int .i64 f.ty,.int .i64 0,.string ⟨#[]⟩]) (by simp [results,Tryz.results50,go_sem,z0,z1,z2]) rfl ⟨rfl,HBE.out⟩
set_option maxRecDepth 100000 in
set_option maxHeartbeats 4000000 in
theorem asked_any (L:List Fc) (A:Option Addr) (c:Nat) (nm:ByteArray) (key:Vl) (w:World) (hl:Fcs w A L) (hln:L.length<=maxLen) :
  Calls Tryz.prog 52 #[.slice A L.length c,.string nm,vlA key] w fun e w' => e=.returned (vlA (askV (L.map toO) nm key))/\Below w.heap.size w w':=by
 obtain ⟨gk,gn,gs⟩:=key
 obtain ⟨WA,hWA⟩:∃ V,(w.alloc (.cells #[.int .i64 gk,.int .i64 gn,.string gs] 38)).alloc (.cells #[.int .i64 0,.int .i64 0,.string ⟨#[]⟩] 38)=V:=⟨_,rfl⟩
 obtain ⟨B,hB⟩:∃ B,w.heap.size=B:=⟨_,rfl⟩
 have hba:=b_new w (.cells #[.int .i64 gk,.int .i64 gn,.string gs] 38)
 have hbA:Below w.heap.size w WA:=by rw [← hWA]; exact b_more hba _
 have hz:BV WA (B + 1) 0 0 ⟨#[]⟩:=by
  have:=BV.new (w.alloc (.cells #[.int .i64 gk,.int .i64 gn,.string gs] 38)) 0 0 ⟨#[]⟩
  rw [World.size_alloc,hB,hWA] at this
  exact this
 have hx:BV WA B gk gn gs:=by
  have:=(BV.new w gk gn gs).below (b_new _ (.cells #[.int .i64 0,.int .i64 0,.string ⟨#[]⟩] 38))
  rw [hB,hWA] at this
  exact this
 obtain ⟨R,hR⟩:∃ R,askV (L.map toO) nm ⟨gk,gn,gs⟩=R:=⟨_,rfl⟩
 have hun:knownB gk gn gs.data.toList=false->R=⟨gk,gn,gs⟩:=fun h => by
  rw [← hR]; unfold askV; rw [if_neg (by show ¬ knownB gk gn gs.data.toList=true; rw [h]; decide)]
 have hhit:knownB gk gn gs.data.toList=true->∀ k (hk:k < L.length),(∀ j (hj:j < L.length),j < k->hitB nm ⟨gk,gn,gs⟩ (toO L[j])=false)->hitB nm ⟨gk,gn,gs⟩ (toO L[k])=true->R=L[k].v:=fun hn k hk h e => by
  rw [← hR]; unfold askV
  rw [if_pos (show knV ⟨gk,gn,gs⟩=true from hn),askF_at _ _ (L.map toO) k (by rw [List.length_map]; exact hk) (fun j hj hjk => by rw [List.length_map] at hj; rw [List.getElem_map]; exact h j hj hjk) (by rw [List.getElem_map]; exact e),List.getElem_map]
  rfl
 have hend:knownB gk gn gs.data.toList=true->(∀ j (hj:j < L.length),hitB nm ⟨gk,gn,gs⟩ (toO L[j])=false)->R=⟨4,0,⟨#[]⟩⟩:=fun hn h => by
  rw [← hR]; unfold askV
  rw [if_pos (show knV ⟨gk,gn,gs⟩=true from hn),askF_no _ _ (L.map toO) fun j hj => by rw [List.length_map] at hj; rw [List.getElem_map]; exact h j hj]
  rfl
 have hkn:=fun V => Val.known_any gk gn gs V
 rw [hR]
 unfold vlA
 obtain ⟨rk,rn,rs⟩:=R
 have hll:L.length<=9223372036854775807:=Nat.le_trans hln (by unfold maxLen; decide)
 have hBw:w.heap.size<=B + 1:=by omega
 have HL:=Lib.hid (hl.below hbA)
 have HHit:=Lib.hid hhit
 have HUn:=Lib.hid hun
 have HEnd:=Lib.hid hend
 have HX:=Lib.hid hx
 have HZ:=Lib.hid hz
 have HbA:=Lib.hid hbA
 have HWA:=Lib.hid hWA
 have HB:=Lib.hid hB
 obtain ⟨kb,hkb⟩:∃ b,knownB gk gn gs.data.toList=b:=⟨_,rfl⟩
 rw [hkb] at hkn HHit HUn HEnd
 have HKn:=Lib.hid hkn
 obtain ⟨y0,y1,y2⟩:=hx.cells
 clear hl hhit hun hend hz hx hbA hba hWA hB hR hln hkn hkb
 go_enter Tryz.func52,Tryz.ntmps52
 go_upto_region 1 with fail
 rw [HWA.out,HB.out]
 go_wp2_with fail
 refine (HKn.out _).mono ?_; rintro e w1 ⟨rfl,hb1⟩
 obtain ⟨y0,y1,y2⟩:=(HX.out.below hb1).cells
 obtain ⟨z0,z1,z2⟩:=(HZ.out.below hb1).cells
 have z3:=(HZ.out.below hb1).frozen
 have z4:=(HZ.out.below hb1).lt
 have HB1:=Lib.hid hb1
 clear hb1
 cases kb with
 | false =>
  have hr:=HUn.out (by first | trivial | rfl)
  obtain ⟨e1,e2,e3⟩:rk=gk/\rn=gn/\rs=gs:=⟨congrArg Vl.k hr,congrArg Vl.n hr,congrArg Vl.s hr⟩
  subst e1 e2 e3
  have hbE:=b_set3 (b_trans HbA.out HB1.out) (B + 1) hBw (.int .i64 rk) (.int .i64 rn) (.string rs)
  have HBE:=Lib.hid hbE
  clear hbE hr
  go_wp2_with fail
  refine bodyPost_ret (v:=.agg #[.int .i64 rk,.int .i64 rn,.string rs]) (by simp [results,Tryz.results52,go_sem,z0,z1,z2]) rfl ⟨rfl,HBE.out⟩
 | true =>
 clear z0 z1 z2 z3 z4 y0 y1 y2
 go_wp2_with fail
 go_loopw [8,15] (fun _ ii wr => ∃ k:Nat,ii=.int .i64 k/\k<=L.length/\(∀ j (hj:j < L.length),j < k->hitB nm ⟨gk,gn,gs⟩ (toO L[j])=false)/\Below WA.heap.size WA wr) (fun _ ii _ => L.length - (intOf ii).toNat)
 case atStart => exact ⟨0,rfl,Nat.zero_le _,fun j hj hjk => absurd hjk (by omega),HB1.out⟩
 case round =>
  obtain ⟨k,rfl,hk,hno,hb⟩:=hrel
  obtain ⟨wa,rfl⟩:∃ V,V=wr:=⟨_,rfl⟩
  by_cases hlt:k < L.length
  ·obtain ⟨ad,rfl,hat⟩:=HL.out.below hb k hlt
   have hg:=HHit.out (by first | trivial | rfl) k hlt hno
   have hnext:hitB nm ⟨gk,gn,gs⟩ (toO L[k])=false->∀ j (hj:j < L.length),j < k + 1->hitB nm ⟨gk,gn,gs⟩ (toO L[j])=false:=fun e j hj hjk => by
    rcases Nat.lt_or_ge j k with h | h
    ·exact hno j hj h
    ·obtain rfl:j=k:=by omega
     exact e
   obtain ⟨q,hq⟩:∃ q,L[k]=q:=⟨_,rfl⟩
   rw [hq] at hat hg hnext
   obtain ⟨q0,q1,q2,q3,q4,q5,q6⟩:=hat
   obtain ⟨W5,hW5⟩:∃ V,wa.alloc (fcBox q)=V:=⟨_,rfl⟩
   obtain ⟨B9,hB9⟩:∃ B,wa.heap.size=B:=⟨_,rfl⟩
   have hb5:=b_new wa (fcBox q)
   have hcell5:=fc_cells wa q
   rw [hW5,hB9] at hcell5
   rw [hW5] at hb5
   obtain ⟨x0,x1,x2,x3,x4,x5,x6⟩:=hcell5 W5 (Below.refl _ _)
   have hbw5:=b_trans hb hb5
   obtain ⟨y0,y1,y2⟩:=(HX.out.below hbw5).cells
   obtain ⟨z0,z1,z2⟩:=(HZ.out.below hbw5).cells
   have z3:=(HZ.out.below hbw5).frozen
   have z4:=(HZ.out.below hbw5).lt
   have hne:(q.nm ≠ nm ∨ ¬ (q.kk=gk/\q.kn=gn/\q.ks=gs))->hitB nm ⟨gk,gn,gs⟩ (toO q)=false:=fun h => by
    cases hh:hitB nm ⟨gk,gn,gs⟩ (toO q) with
    | false => rfl
    | true =>
     obtain ⟨h1,h2⟩:=hit_iff.1 hh
     exfalso
     rcases h with h | h
     ·exact h h1
     ·exact h ⟨congrArg Vl.k h2,congrArg Vl.n h2,congrArg Vl.s h2⟩
   have hye:q.nm=nm->q.kk=gk->q.kn=gn->q.ks=gs->hitB nm ⟨gk,gn,gs⟩ (toO q)=true:=fun a b c d => hit_iff.2 ⟨a,by show (⟨q.kk,q.kn,q.ks⟩:Vl)=_; rw [b,c,d]⟩
   have HN:=Lib.hid hnext
   have HG:=Lib.hid hg
   have HNe:=Lib.hid hne
   have HYe:=Lib.hid hye
   have HB5:=Lib.hid hbw5
   have HW5:=Lib.hid hW5
   have HB9:=Lib.hid hB9
   clear hnext hg hbw5 hW5 hB9 hb5 hcell5 hb hno hq hne hye
   unfold fcBox at HW5
   go_upto_region 6 with fail
   rw [HW5.out,HB9.out]
   by_cases he:q.nm=nm
   ·have t1:(q.nm.toList == nm.toList)=true:=eq_t he
    by_cases h1:q.kk=gk
    ·by_cases h2:q.kn=gn
     ·by_cases h3:q.ks=gs
      ·have hr:=HG.out (HYe.out he h1 h2 h3)
       obtain ⟨e1,e2,e3⟩:rk=q.v.k/\rn=q.v.n/\rs=q.v.s:=⟨congrArg Vl.k hr,congrArg Vl.n hr,congrArg Vl.s hr⟩
       subst e1 e2 e3
       have t2:(q.kk == gk)=true:=beq_iff_eq.2 h1
       have t3:(q.kn == gn)=true:=beq_iff_eq.2 h2
       have t4:(q.ks.toList == gs.toList)=true:=eq_t h3
       have hbE:=b_set3 (b_trans HbA.out HB5.out) (B + 1) hBw (.int .i64 q.v.k) (.int .i64 q.v.n) (.string q.v.s)
       have HBE:=Lib.hid hbE
       clear hbE hr
       go_wp2_with fail
       refine bodyPost_ret (v:=.agg #[.int .i64 q.v.k,.int .i64 q.v.n,.string q.v.s]) (by simp [results,Tryz.results52,go_sem,z0,z1,z2]) rfl ⟨rfl,HBE.out⟩
      ·have t2:(q.kk == gk)=true:=beq_iff_eq.2 h1
       have t3:(q.kn == gn)=true:=beq_iff_eq.2 h2
       have t4:(q.ks.toList == gs.toList)=false:=eq_f h3
       have hn:=HNe.out (.inr fun h => h3 h.2.2)
       go_wp2_with fail
       go_roundw
       case rel => exact ⟨k + 1,by go_num,by omega,HN.out hn,HB5.out⟩
       case measure => simp [intOf]; omega
     ·have t2:(q.kk == gk)=true:=beq_iff_eq.2 h1
      have t3:(q.kn == gn)=false:=beq_eq_false_iff_ne.2 h2
      have hn:=HNe.out (.inr fun h => h2 h.2.1)
      go_wp2_with fail
      go_roundw
      case rel => exact ⟨k + 1,by go_num,by omega,HN.out hn,HB5.out⟩
      case measure => simp [intOf]; omega
    ·have t2:(q.kk == gk)=false:=beq_eq_false_iff_ne.2 h1
     have hn:=HNe.out (.inr fun h => h1 h.1)
     go_wp2_with fail
     go_roundw
     case rel => exact ⟨k + 1,by go_num,by omega,HN.out hn,HB5.out⟩
     case measure => simp [intOf]; omega
   ·have t1:(q.nm.toList == nm.toList)=false:=eq_f he
    have hn:=HNe.out (.inl he)
    go_wp2_with fail
    go_roundw
    case rel => exact ⟨k + 1,by go_num,by omega,HN.out hn,HB5.out⟩
    case measure => simp [intOf]; omega
  ·have hr:=HEnd.out (by first | trivial | rfl) fun j hj => hno j hj (by omega)
   obtain ⟨e1,e2,e3⟩:rk=4/\rn=0/\rs=⟨#[]⟩:=⟨congrArg Vl.k hr,congrArg Vl.n hr,congrArg Vl.s hr⟩
   subst e1 e2 e3
   obtain ⟨z0,z1,z2⟩:=(HZ.out.below hb).cells
   have z3:=(HZ.out.below hb).frozen
   have z4:=(HZ.out.below hb).lt
   have hbE:=b_set3 (b_trans HbA.out hb) (B + 1) hBw (.int .i64 4) (.int .i64 0) (.string ⟨#[]⟩)
   have HBE:=Lib.hid hbE
   clear hbE hr hb hno
   go_wp2_with fail
   refine bodyPost_ret (v:=.agg #[.int .i64 4,.int .i64 0,.string ⟨#[]⟩]) (by simp [results,Tryz.results52,go_sem,z0,z1,z2]) rfl ⟨rfl,HBE.out⟩
theorem fd_cells9 (w:World) (f:GenL.Fd) (V:World) (hV:Below (w.alloc (ShF.fdBox f)).heap.size (w.alloc (ShF.fdBox f)) V):V.cell? ⟨w.heap.size,0,none⟩=some (.string f.nm)/\V.cell? ⟨w.heap.size,1,none⟩=some (.int .i64 f.kind)/\V.cell? ⟨w.heap.size,2,none⟩=some (.int .i64 f.ty)/\V.cell? ⟨w.heap.size,3,none⟩=some (.int .i64 f.d.op)/\V.cell? ⟨w.heap.size,4,none⟩=some (.int .i64 f.d.k)/\V.cell? ⟨w.heap.size,5,none⟩=some (.int .i64 f.d.n)/\V.cell? ⟨w.heap.size,6,none⟩=some (.string f.d.s)/\V.cell? ⟨w.heap.size,7,none⟩=some (.string f.d.nm)/\V.cell? ⟨w.heap.size,8,none⟩=some (.slice f.A f.n f.c):=by
 have e1:V.heap[w.heap.size]?=_:=(hV.block _ (by simp)).trans (World.alloc_heap_new w (ShF.fdBox f))
 unfold ShF.fdBox at e1
 exact ⟨by simp [World.cell?,e1],by simp [World.cell?,e1],by simp [World.cell?,e1],by simp [World.cell?,e1],by simp [World.cell?,e1],by simp [World.cell?,e1],by simp [World.cell?,e1],by simp [World.cell?,e1],by simp [World.cell?,e1]⟩
abbrev fdA (f:GenL.Fd):Value:=.agg #[.string f.nm,.int .i64 f.kind,.int .i64 f.ty,.int .i64 f.d.op,.int .i64 f.d.k,.int .i64 f.d.n,.string f.d.s,.string f.d.nm,.slice f.A f.n f.c]
set_option maxRecDepth 100000 in
set_option maxHeartbeats 4000000 in
theorem computed_any (f:GenL.Fd) (x:Ex) (L:List Fc) (A:Option Addr) (c:Nat) (w:World) (hl:Fcs w A L) (hln:L.length<=1000000000000) (hnm:∀ g ∈ L,g.nm.size<=maxLen) (his:Is w x f.d f.A f.n) (hT:Tab w) :
  Calls Tryz.prog 51 #[fdA f,.slice A L.length c] w fun e w' => e=.returned (vlA (ofV (fcs L) x))/\Below w.heap.size w w':=by
 obtain ⟨WA,hWA⟩:∃ V,(w.alloc (ShF.fdBox f)).alloc (.cells #[.int .i64 0,.int .i64 0,.string ⟨#[]⟩] 38)=V:=⟨_,rfl⟩
 obtain ⟨B,hB⟩:∃ B,w.heap.size=B:=⟨_,rfl⟩
 have hba:=b_new w (ShF.fdBox f)
 have hbA:Below w.heap.size w WA:=by rw [← hWA]; exact b_more hba _
 have hz:BV WA (B + 1) 0 0 ⟨#[]⟩:=by
  have:=BV.new (w.alloc (ShF.fdBox f)) 0 0 ⟨#[]⟩
  rw [World.size_alloc,hB,hWA] at this
  exact this
 have hcell:∀ V,Below WA.heap.size WA V->_:=fun V hV => fd_cells9 w f V (by rw [← hWA] at hV; exact b_then hV)
 rw [hB] at hcell
 have hof:=EvE.of_any x L A c f.d f.A f.n f.c WA hln hnm (his.below hbA) (hl.below hbA) (hT.below hbA)
 obtain ⟨R,hR⟩:∃ R,ofV (fcs L) x=R:=⟨_,rfl⟩
 obtain ⟨E,hE⟩:∃ E,ofE (fcs L) x=E:=⟨_,rfl⟩
 rw [hR,hE] at hof
 rw [hR]
 unfold vlA
 obtain ⟨rk,rn,rs⟩:=R
 have hBw:w.heap.size<=B + 1:=by omega
 obtain ⟨x0,x1,x2,x3,x4,x5,x6,x7,x8⟩:=hcell WA (Below.refl _ _)
 have HOf:=Lib.hid hof
 have HCell:=Lib.hid hcell
 have HZ:=Lib.hid hz
 have HbA:=Lib.hid hbA
 have HWA:=Lib.hid hWA
 have HB:=Lib.hid hB
 clear hl hof hcell hz hbA hba hWA hB hR hE hln hnm his hT
 unfold ShF.fdBox at HWA
 go_enter Tryz.func51,Tryz.ntmps51
 go_upto_region 1 with fail
 rw [HWA.out,HB.out]
 go_wp2_with fail
 refine HOf.out.mono ?_; rintro e w1 ⟨rfl,hb1⟩
 have hb2:=b_more hb1 (.cells #[.int .i64 rk,.int .i64 rn,.string rs] 38)
 obtain ⟨z0,z1,z2⟩:=(HZ.out.below hb2).cells
 have z3:=(HZ.out.below hb2).frozen
 have z4:=(HZ.out.below hb2).lt
 have hbE:=b_set3 (b_trans HbA.out hb2) (B + 1) hBw (.int .i64 rk) (.int .i64 rn) (.string rs)
 have HBE:=Lib.hid hbE
 clear hbE hb2 hb1
 go_wp2_with fail
 refine bodyPost_ret (v:=.agg #[.int .i64 rk,.int .i64 rn,.string rs]) (by simp [results,Tryz.results51,go_sem,z0,z1,z2]) rfl ⟨rfl,HBE.out⟩
set_option maxRecDepth 100000 in
set_option maxHeartbeats 4000000 in
theorem one_any (f:GenL.Fd) (x:Ex) (I:List Fc) (IA:Option Addr) (ic:Nat) (O:List Fc) (OA:Option Addr) (oc:Nat) (L:List Fc) (A:Option Addr) (c:Nat) (w:World) (hk:f.kind=1 ∨ f.kind=2 ∨ f.kind=3) (hi:Fcs w IA I) (hin:I.length<=maxLen) (ho:Fcs w OA O) (hon:O.length<=maxLen) (hl:Fcs w A L) (hln:L.length<=1000000000000) (hnm:∀ g ∈ L,g.nm.size<=maxLen) (his:Is w x f.d f.A f.n) (hT:Tab w) :
  Calls Tryz.prog 17 #[fdA f,.slice IA I.length ic,.slice OA O.length oc,.slice A L.length c] w fun e w' => e=.returned (vlA (oneV (I.map toO) (O.map toO) ⟨f.nm,f.kind,f.ty,x⟩ (fcs L)))/\Below w.heap.size w w':=by
 obtain ⟨WA,hWA⟩:∃ V,(w.alloc (ShF.fdBox f)).alloc (.cells #[.int .i64 0,.int .i64 0,.string ⟨#[]⟩] 38)=V:=⟨_,rfl⟩
 obtain ⟨B,hB⟩:∃ B,w.heap.size=B:=⟨_,rfl⟩
 have hba:=b_new w (ShF.fdBox f)
 have hbA:Below w.heap.size w WA:=by rw [← hWA]; exact b_more hba _
 have hz:BV WA (B + 1) 0 0 ⟨#[]⟩:=by
  have:=BV.new (w.alloc (ShF.fdBox f)) 0 0 ⟨#[]⟩
  rw [World.size_alloc,hB,hWA] at this
  exact this
 have hcell:∀ V,Below WA.heap.size WA V->_:=fun V hV => fd_cells9 w f V (by rw [← hWA] at hV; exact b_then hV)
 rw [hB] at hcell
 have hBl:B + 1 < WA.heap.size:=hz.lt
 have hset:∀ (U:World) (a b d:Value),Below WA.heap.size WA U->∀ V,V=((U.setCell ⟨B + 1,0,none⟩ a).setCell ⟨B + 1,1,none⟩ b).setCell ⟨B + 1,2,none⟩ d->V.cell? ⟨B,0,none⟩=some (.string f.nm)/\V.cell? ⟨B,1,none⟩=some (.int .i64 f.kind)/\V.cell? ⟨B,2,none⟩=some (.int .i64 f.ty)/\V.cell? ⟨B,3,none⟩=some (.int .i64 f.d.op)/\V.cell? ⟨B,4,none⟩=some (.int .i64 f.d.k)/\V.cell? ⟨B,5,none⟩=some (.int .i64 f.d.n)/\V.cell? ⟨B,6,none⟩=some (.string f.d.s)/\V.cell? ⟨B,7,none⟩=some (.string f.d.nm)/\V.cell? ⟨B,8,none⟩=some (.slice f.A f.n f.c):=fun U a b d hU V hV => by
  have h:=hcell U hU
  have e1:V.heap[B]?=U.heap[B]?:=by
   rw [hV,Below.heap_setCell _ _ _ _ (show B ≠ B + 1 by omega),Below.heap_setCell _ _ _ _ (show B ≠ B + 1 by omega),Below.heap_setCell _ _ _ _ (show B ≠ B + 1 by omega)]
  have k:∀ o,V.cell? ⟨B,o,none⟩=U.cell? ⟨B,o,none⟩:=fun o => World.cell?_of_block (a:=⟨B,o,none⟩) e1
  rw [k,k,k,k,k,k,k,k,k]
  exact h
 have hen:f.kind=1->∀ V,Below WA.heap.size WA V->Calls Tryz.prog 50 #[fdA f,.slice IA I.length ic] V fun e w' => e=.returned (vlA (inV (I.map toO) ⟨f.nm,f.kind,f.ty,x⟩))/\Below V.heap.size V w':=fun _ V hV => entered_any f x I IA ic V (hi.below (b_trans hbA hV)) hin
 have hcm:∀ V,Below WA.heap.size WA V->Calls Tryz.prog 51 #[fdA f,.slice A L.length c] V fun e w' => e=.returned (vlA (ofV (fcs L) x))/\Below V.heap.size V w':=fun V hV => computed_any f x L A c V (hl.below (b_trans hbA hV)) hln hnm (his.below (b_trans hbA hV)) (hT.below (b_trans hbA hV))
 have hak:∀ V,Below WA.heap.size WA V->Calls Tryz.prog 52 #[.slice OA O.length oc,.string f.nm,vlA (ofV (fcs L) x)] V fun e w' => e=.returned (vlA (askV (O.map toO) f.nm (ofV (fcs L) x)))/\Below V.heap.size V w':=fun V hV => asked_any O OA oc f.nm (ofV (fcs L) x) V (ho.below (b_trans hbA hV)) hon
 obtain ⟨R1,hR1⟩:∃ R,ofV (fcs L) x=R:=⟨_,rfl⟩
 obtain ⟨R2,hR2⟩:∃ R,askV (O.map toO) f.nm R1=R:=⟨_,rfl⟩
 obtain ⟨R0,hR0⟩:∃ R,inV (I.map toO) ⟨f.nm,f.kind,f.ty,x⟩=R:=⟨_,rfl⟩
 have hone:oneV (I.map toO) (O.map toO) ⟨f.nm,f.kind,f.ty,x⟩ (fcs L)=if f.kind=1 then R0 else if f.kind=3 then R2 else R1:=by
  rw [← hR0,← hR2,← hR1]; rfl
 rw [hR1] at hcm hak
 rw [hR2] at hak
 rw [hR0] at hen
 rw [hone]
 have hBw:w.heap.size<=B + 1:=by omega
 have HEn:=Lib.hid hen
 have HCm:=Lib.hid hcm
 have HAk:=Lib.hid hak
 have HCell:=Lib.hid hcell
 have HSet:=Lib.hid hset
 have HZ:=Lib.hid hz
 have HbA:=Lib.hid hbA
 have HWA:=Lib.hid hWA
 have HB:=Lib.hid hB
 obtain ⟨x0,x1,x2,x3,x4,x5,x6,x7,x8⟩:=hcell WA (Below.refl _ _)
 clear hl ho hi hen hcm hak hcell hset hz hbA hba hWA hB hR0 hR1 hR2 hone hln hnm his hT hin hon
 unfold ShF.fdBox at HWA
 unfold vlA at HEn HCm HAk ⊢
 rcases hk with hk | hk | hk
 ·rw [if_pos hk]
  have HK:=Lib.hid hk
  have t1:(f.kind == 1)=true:=beq_iff_eq.2 hk
  clear hk
  obtain ⟨rk,rn,rs⟩:=R0
  go_enter Tryz.func17,Tryz.ntmps17
  go_upto_region 1 with fail
  rw [HWA.out,HB.out]
  go_wp2_with fail
  refine (HEn.out HK.out WA (Below.refl _ _)).mono ?_; rintro e w1 ⟨rfl,hb1⟩
  obtain ⟨z0,z1,z2⟩:=(HZ.out.below hb1).cells
  have z3:=(HZ.out.below hb1).frozen
  have z4:=(HZ.out.below hb1).lt
  have hbE:=b_set3 (b_trans HbA.out hb1) (B + 1) hBw (.int .i64 rk) (.int .i64 rn) (.string rs)
  have HBE:=Lib.hid hbE
  clear hbE hb1
  go_wp2_with fail
  refine bodyPost_ret (v:=.agg #[.int .i64 rk,.int .i64 rn,.string rs]) (by simp [results,Tryz.results17,go_sem,z0,z1,z2]) rfl ⟨rfl,HBE.out⟩
 ·rw [if_neg (by omega),if_neg (by omega)]
  obtain ⟨rk,rn,rs⟩:=R1
  have t1:(f.kind == 1)=false:=beq_eq_false_iff_ne.2 (by omega)
  have t2:(f.kind == 2)=true:=beq_iff_eq.2 hk
  clear hk
  go_enter Tryz.func17,Tryz.ntmps17
  go_upto_region 1 with fail
  rw [HWA.out,HB.out]
  go_wp2_with fail
  refine (HCm.out WA (Below.refl _ _)).mono ?_; rintro e w1 ⟨rfl,hb1⟩
  obtain ⟨z0,z1,z2⟩:=(HZ.out.below hb1).cells
  have z3:=(HZ.out.below hb1).frozen
  have z4:=(HZ.out.below hb1).lt
  have hbE:=b_set3 (b_trans HbA.out hb1) (B + 1) hBw (.int .i64 rk) (.int .i64 rn) (.string rs)
  have HBE:=Lib.hid hbE
  clear hbE hb1
  go_wp2_with fail
  refine bodyPost_ret (v:=.agg #[.int .i64 rk,.int .i64 rn,.string rs]) (by simp [results,Tryz.results17,go_sem,z0,z1,z2]) rfl ⟨rfl,HBE.out⟩
 ·rw [if_neg (by omega),if_pos hk]
  obtain ⟨rk,rn,rs⟩:=R2
  obtain ⟨sk,sn,ss⟩:=R1
  have t1:(f.kind == 1)=false:=beq_eq_false_iff_ne.2 (by omega)
  have t2:(f.kind == 2)=false:=beq_eq_false_iff_ne.2 (by omega)
  have t3:(f.kind == 3)=true:=beq_iff_eq.2 hk
  clear hk
  obtain ⟨y0,y1,y2⟩:=HZ.out.cells
  have y3:=HZ.out.frozen
  have y4:=HZ.out.lt
  have hbl:Below WA.heap.size WA WA:=Below.refl _ _
  go_enter Tryz.func17,Tryz.ntmps17
  go_upto_region 1 with fail
  rw [HWA.out,HB.out]
  go_upto_region 7 with fail
  go_region_held3 (fun V => V.cell? ⟨B,0,none⟩=some (.string f.nm)/\V.cell? ⟨B,1,none⟩=some (.int .i64 f.kind)/\V.cell? ⟨B,2,none⟩=some (.int .i64 f.ty)/\V.cell? ⟨B,3,none⟩=some (.int .i64 f.d.op)/\V.cell? ⟨B,4,none⟩=some (.int .i64 f.d.k)/\V.cell? ⟨B,5,none⟩=some (.int .i64 f.d.n)/\V.cell? ⟨B,6,none⟩=some (.string f.d.s)/\V.cell? ⟨B,7,none⟩=some (.string f.d.nm)/\V.cell? ⟨B,8,none⟩=some (.slice f.A f.n f.c)) (first | (with_reducible exact HCell.out _ hbl) | (with_reducible exact HCell.out _ (b_drew hbl)) | (with_reducible exact HSet.out _ _ _ _ hbl _ rfl))
   (first | (go_at_call 51; (with_reducible refine (HCm.out _ ?_).mono ?_); (first | exact hbl | exact b_drew hbl); rintro e wn ⟨rfl,hbn⟩; have hbl:Below WA.heap.size WA wn:=(by (first | (exact TyO.b_step hbl hbn) | (exact TyO.b_step (b_drew hbl) hbn))); obtain ⟨z0,z1,z2⟩:=(HZ.out.below hbl).cells; have z3:=(HZ.out.below hbl).frozen; have z4:=(HZ.out.below hbl).lt) | (go_at_call 52; (with_reducible refine (HAk.out _ ?_).mono ?_); (first | exact hbl | exact b_drew hbl); rintro e wn ⟨rfl,hbn⟩; have hbl:Below WA.heap.size WA wn:=(by (first | (exact TyO.b_step hbl hbn) | (exact TyO.b_step (b_drew hbl) hbn))); obtain ⟨z0,z1,z2⟩:=(HZ.out.below hbl).cells; have z3:=(HZ.out.below hbl).frozen; have z4:=(HZ.out.below hbl).lt))
  all_goals
   have hbE:=b_set3 (b_trans HbA.out hbl) (B + 1) hBw (.int .i64 rk) (.int .i64 rn) (.string rs)
   have HBE:=Lib.hid hbE
   clear hbE
   go_wp2_with fail
   refine bodyPost_ret (v:=.agg #[.int .i64 rk,.int .i64 rn,.string rs]) (by simp [results,Tryz.results17,go_sem,z0,z1,z2]) rfl ⟨rfl,HBE.out⟩
end Wh1
namespace KMp
open Go.RowKit Go.Maps Kit SMp
set_option linter.unusedVariables false
section
variable {k:TypeId}
def ReadsK (D:DataW Value) (M:Lit->Option Value):Prop:=∀ l:Lit,has D l=(M l).isSome/\∀ v,M l=some v->∀ z,D.atKey l z=.held v
structure KM (k:TypeId) (W:World) (m n:Nat) (M:Lit->Option Value):Prop where
 own:∃ D,W.ownsMap Tryz.prog k hv m n D/\ReadsK D M
theorem KM.made (k:TypeId) (w:World):KM k (w.alloc (.map #[] 0)) w.heap.size 0 (fun _ => none):=⟨_,World.ownsMap_made w _ _ _,fun s => ⟨rfl,fun v h => by cases h⟩⟩
theorem KM.lt {W:World} {m n:Nat} {M:Lit->Option Value} (h:KM k W m n M):m < W.heap.size:=by
 obtain ⟨D,hD,_⟩:=h.own
 exact hD.lt
theorem KM.kept {W W':World} {m n:Nat} {M:Lit->Option Value} {row:Option Nat} (h:KM k W m n M) (hg:W.grownBy W' row) (hne:some m ≠ row):KM k W' m n M:=by
 obtain ⟨D,hD,hall⟩:=h.own
 exact ⟨D,hD.kept hg hne,hall⟩
theorem KM.below {W W':World} {m n:Nat} {M:Lit->Option Value} (h:KM k W m n M) (hb:Below W.heap.size W W'):KM k W' m n M:=h.kept (grown_of_below hb) (by simp)
theorem KM.to {W:World} {m n:Nat} {M M':Lit->Option Value} (h:KM k W m n M) (e:∀ s,M s=M' s):KM k W m n M':=by
 obtain rfl:M=M':=funext e
 exact h
set_option maxRecDepth 100000 in
theorem KM.look1 {W:World} {m n:Nat} {M:Lit->Option Value} (h:KM k W m n M) (K:Keyed Tryz.prog k) {T te:TypeId} (ht:Tryz.prog.underlying T=some (.map k te)) {z:Value} (hz:(zeroValue te).run Tryz.prog W=.ok z W) {key:Value} {l:Lit} (hk:keyOf Tryz.prog k key=some l) :
  (Instr.lookup T (.map (some m)) key false).run Tryz.prog W=.ok ((M l).getD z) W:=by
 obtain ⟨D,hD,hall⟩:=h.own
 obtain ⟨hh,hat⟩:=hall l
 obtain ⟨es,clock,hb,F,_,rfl⟩:=hD
 rcases Maps.fit_look false K ht hz hb F hk with ⟨hrun,_,h1⟩ | ⟨q,y,_,_,hrun,hRv,h1,_⟩
 ·rw [has_false_of_atKey h1] at hh
  rcases hf:M l with _ | v
  ·rw [hrun]; rfl
  ·rw [hf] at hh; cases hh
 ·rw [has_true_of_atKey h1] at hh
  rcases hf:M l with _ | v
  ·rw [hf] at hh; cases hh
  ·have e1:=(hat v hf .nil).symm.trans (h1 .nil)
   have hy:hv q.val=some y:=hRv
   unfold hv at hy
   injection hy with hy
   subst hy
   injection e1 with e1
   subst e1
   rw [hrun]; rfl
theorem ReadsK.put {D:DataW Value} {M M':Lit->Option Value} (h:ReadsK D M) (hm:IsMap D) (l:Lit) (hl:WideAt.IsKeyLit l) (v:Value) (h1:M' l=some v) (h2:∀ t,t ≠ l->M' t=M t):ReadsK (D.put l (.held v)) M':=fun t => by
 by_cases he:t=l
 ·subst he
  rw [h1]
  exact ⟨has_put_same hm hl _,fun u hu z => by injection hu with hu; subst hu; exact atKey_put_same hm hl _ _⟩
 ·rw [h2 t he]
  exact ⟨(has_put_other he _).trans (h t).1,fun u hu z => (atKey_put_other he _ _).trans ((h t).2 u hu z)⟩
theorem KM.put {W:World} {m n:Nat} {M:Lit->Option Value} (h:KM k W m n M) (K:Keyed Tryz.prog k) {T te:TypeId} (ht:Tryz.prog.underlying T=some (.map k te)) {key:Value} {l:Lit} (hk:keyOf Tryz.prog k key=some l) (v:Value) (hn:n < maxLen) :
  ∃ w',(Instr.mapUpdate T (.map (some m)) key v).run Tryz.prog W=.ok () w'/\(∀ M':Lit->Option Value,M' l=some v->(∀ t,t ≠ l->M' t=M t)->KM k w' m (n + 1) M')/\W.grownBy w' (some m):=by
 obtain ⟨D,hD,hall⟩:=h.own
 obtain ⟨w',hrun,r1,r2⟩:=hD.update K ht hn hk (val:=v) (d:=.held v) (ps:=[]) rfl
 exact ⟨w',hrun,fun M' a b => ⟨_,r1,hall.put hD.isMap l (K.key hk) v a b⟩,r2⟩
end
def rqV (nm:ByteArray) (k n:Int) (s:ByteArray):Value:=.agg #[.string nm,.int .i64 k,.int .i64 n,.string s]
theorem rqLaid:laidOutB Tryz.prog=true:=by kernel_rfl
theorem rqRow:(156:TypeId) < Tryz.prog.types.size:=of_decide_eq_true (by kernel_rfl)
set_option maxRecDepth 100000 in
theorem rqWide:(match Tryz.prog.underlying 156 with | some (.array _ _) | some (.struct _) => true | _ => false)=true:=by kernel_rfl
set_option maxRecDepth 100000 in
theorem rqKeyed:Keyed Tryz.prog 156:=Keyed.of_law (deep_law_laid rqLaid (m:=3) (by omega) rqRow (by kernel_rfl) rqWide)
set_option maxRecDepth 100000 in
theorem rqType:Tryz.prog.keyType 156=true:=by kernel_rfl
theorem rqCells:Tryz.prog.cellsOf 156=4:=by kernel_rfl
theorem vlCells:Tryz.prog.cellsOf 38=3:=by kernel_rfl
theorem strCells:Tryz.prog.cellsOf 9=1:=by kernel_rfl
theorem intCells:Tryz.prog.cellsOf 3=1:=by kernel_rfl
theorem rqSize:∃ m,Tryz.prog.types.size=m + 3:=⟨Tryz.prog.types.size - 3,by kernel_rfl⟩
theorem rq_keyOf (nm s:ByteArray) (k n:Int) (h1:nm.size<=maxLen) (h2:s.size<=maxLen) (hk:(Lit.int .i64 k).wf=true) (hn:(Lit.int .i64 n).wf=true):∃ l,keyOf Tryz.prog 156 (rqV nm k n s)=some l:=by
 obtain ⟨m,hm⟩:=rqSize
 have hu:=Tryz.underlying156
 have hf:(rqV nm k n s).formed Tryz.prog 156=true:=by simp [rqV,Value.formed,hu,rqCells]
 unfold keyOf
 rw [hu]
 simp only [rqType,hf,Bool.and_self,if_true,hm]
 simp [Program.keyLits,hu,rqV,Value.cells,rqCells,vlCells,strCells,intCells,Tryz.underlying38,Tryz.underlying9,Tryz.underlying3,h1,h2,hk,hn]
 rw [if_pos (by
  intro i x
  match i,x with
  | 0,_ => simp
  | 1,_ => simp
  | 2,_ => simp)]
 exact ⟨_,rfl⟩
end KMp
namespace Wh2
open Go.RowKit Go.Maps
open ValM LexM NumM ExM NmM StrM EvM EvP FoM Kit ExL ExN RawV Within RawL GenL TyM Ty EvF EvO EvE FldP FcM ShF WhM WhQ Wh1 SMp KMp
set_option linter.unusedVariables false
set_option maxRecDepth 100000 in
set_option maxHeartbeats 2000000 in
theorem isKey_any (v:Vl) (t:Int) (w:World):Calls Tryz.prog 102 #[vlA v,.int .i64 t] w fun e w' => e=.returned (.bool (kyB v t))/\Below w.heap.size w w':=by
 obtain ⟨vk,vn,vs⟩:=v
 have hkn:=fun V => Val.known_any vk vn vs V
 have hb0:=b_new w (.cells #[.int .i64 vk,.int .i64 vn,.string vs] 38)
 obtain ⟨R,hR⟩:∃ R,kyB ⟨vk,vn,vs⟩ t=R:=⟨_,rfl⟩
 rw [hR]
 have hR':R=(knownB vk vn vs.data.toList && decide (vk=t)):=by rw [← hR]; rfl
 generalize knownB vk vn vs.data.toList=kb at hkn hR'
 have HKn:=Lib.hid hkn
 have HB0:=Lib.hid hb0
 clear hkn hb0 hR
 unfold vlA
 have hbx:=BV.new w vk vn vs
 have HBx:=Lib.hid hbx
 obtain ⟨x0,x1,x2⟩:=hbx.cells
 clear hbx
 cases kb with
 | false =>
  have hr:R=false:=hR'
  subst hr
  clear hR'
  go_enter Tryz.func102,Tryz.ntmps102
  go_wp2_with (go_at_call 43; (with_reducible refine (HKn.out _).mono ?_); rintro e w1 ⟨rfl,hb1⟩; obtain ⟨y0,y1,y2⟩:=(HBx.out.below hb1).cells; have HB1:=Lib.hid (b_trans HB0.out hb1); clear hb1)
  go_ret
  exact ⟨rfl,HB1.out⟩
 | true =>
  by_cases h:vk=t
  ·have hr:R=true:=by rw [hR',decide_eq_true h]; rfl
   have t1:(vk == t)=true:=beq_iff_eq.2 h
   subst hr
   clear hR' h
   go_enter Tryz.func102,Tryz.ntmps102
   go_wp2_with (go_at_call 43; (with_reducible refine (HKn.out _).mono ?_); rintro e w1 ⟨rfl,hb1⟩; obtain ⟨y0,y1,y2⟩:=(HBx.out.below hb1).cells; have HB1:=Lib.hid (b_trans HB0.out hb1); clear hb1)
   go_ret
   exact ⟨rfl,HB1.out⟩
  ·have hr:R=false:=by rw [hR',decide_eq_false h]; rfl
   have t1:(vk == t)=false:=beq_eq_false_iff_ne.2 h
   subst hr
   clear hR' h
   go_enter Tryz.func102,Tryz.ntmps102
   go_wp2_with (go_at_call 43; (with_reducible refine (HKn.out _).mono ?_); rintro e w1 ⟨rfl,hb1⟩; obtain ⟨y0,y1,y2⟩:=(HBx.out.below hb1).cells; have HB1:=Lib.hid (b_trans HB0.out hb1); clear hb1)
   go_ret
   exact ⟨rfl,HB1.out⟩
set_option maxRecDepth 100000 in
set_option maxHeartbeats 2000000 in
theorem isAnswer_any (v:Vl) (t:Int) (w:World):Calls Tryz.prog 103 #[vlA v,.int .i64 t] w fun e w' => e=.returned (.bool (ansB v t))/\Below w.heap.size w w':=by
 obtain ⟨vk,vn,vs⟩:=v
 have hck:=fun V => Val.check_any vk vn vs V
 have hb0:=b_new w (.cells #[.int .i64 vk,.int .i64 vn,.string vs] 38)
 obtain ⟨R,hR⟩:∃ R,ansB ⟨vk,vn,vs⟩ t=R:=⟨_,rfl⟩
 rw [hR]
 have hR':R=(decide (valE vk vn vs.data.toList=0) && (decide (vk=t) || decide (vk=5))):=by rw [← hR]; rfl
 generalize valE vk vn vs.data.toList=q at hck hR'
 have HCk:=Lib.hid hck
 have HB0:=Lib.hid hb0
 clear hck hb0 hR
 unfold vlA
 have hbx:=BV.new w vk vn vs
 have HBx:=Lib.hid hbx
 obtain ⟨x0,x1,x2⟩:=hbx.cells
 clear hbx
 have hcases:(∃ h0:(q == 0)=false,R=false) ∨ (∃ h0:(q == 0)=true,∃ h1:(vk == t)=true,R=true) ∨ (∃ h0:(q == 0)=true,∃ h1:(vk == t)=false,∃ h2:(vk == 5)=true,R=true) ∨ (∃ h0:(q == 0)=true,∃ h1:(vk == t)=false,∃ h2:(vk == 5)=false,R=false):=by
  by_cases h0:q=0
  ·by_cases h1:vk=t
   ·exact .inr (.inl ⟨beq_iff_eq.2 h0,beq_iff_eq.2 h1,by rw [hR',decide_eq_true h0,decide_eq_true h1]; rfl⟩)
   ·by_cases h2:vk=5
    ·exact .inr (.inr (.inl ⟨beq_iff_eq.2 h0,beq_eq_false_iff_ne.2 h1,beq_iff_eq.2 h2,by rw [hR',decide_eq_true h0,decide_eq_true h2,Bool.or_true]; rfl⟩))
    ·exact .inr (.inr (.inr ⟨beq_iff_eq.2 h0,beq_eq_false_iff_ne.2 h1,beq_eq_false_iff_ne.2 h2,by rw [hR',decide_eq_false h1,decide_eq_false h2]; exact Bool.and_false _⟩))
  ·exact .inl ⟨beq_eq_false_iff_ne.2 h0,by rw [hR',decide_eq_false h0]; rfl⟩
 clear hR'
 rcases hcases with ⟨t0,rfl⟩ | ⟨t0,t1,rfl⟩ | ⟨t0,t1,t2,rfl⟩ | ⟨t0,t1,t2,rfl⟩
 all_goals
  go_enter Tryz.func103,Tryz.ntmps103
  go_wp2_with (go_at_call 74; (with_reducible refine (HCk.out _).mono ?_); rintro e w1 ⟨rfl,hb1⟩; obtain ⟨y0,y1,y2⟩:=(HBx.out.below hb1).cells; have HB1:=Lib.hid (b_trans HB0.out hb1); clear hb1)
  go_ret
  exact ⟨rfl,HB1.out⟩
def zeroFd:Value:=.agg #[.string ⟨#[]⟩,.int .i64 0,.int .i64 0,.int .i64 0,.int .i64 0,.int .i64 0,.string ⟨#[]⟩,.string ⟨#[]⟩,.slice none 0 0]
theorem look_fd {W:World} {m n:Nat} {M:ByteArray->Option Value} (h:SM W m n M) (s:ByteArray) (hs:s.size<=maxLen) :
  (Instr.lookup 147 (.map (some m)) (.string s) true).run Tryz.prog W=.ok (.tuple #[(M s).getD zeroFd,.bool (M s).isSome]) W:=h.look Tryz.underlying147 (by kernel_rfl) s hs
theorem put_fd {W:World} {m n:Nat} {M:ByteArray->Option Value} (h:SM W m n M) (s:ByteArray) (hs:s.size<=maxLen) (v:Value) (hn:n < maxLen) :
  ∃ w',(Instr.mapUpdate 147 (.map (some m)) (.string s) v).run Tryz.prog W=.ok () w'/\SM w' m (n + 1) (fun t => if t=s then some v else M t)/\W.grownBy w' (some m):=h.put Tryz.underlying147 s hs v hn
def nmdM (F:List GenL.Fd) (k:Nat) (s:ByteArray):Option Value:=if h:atF F s < F.length then (if atF F s < k then some (fdA F[atF F s]) else none) else none
theorem nmd_zero (F:List GenL.Fd) (s:ByteArray):nmdM F 0 s=none:=by
 unfold nmdM; split
 ·rw [if_neg (Nat.not_lt_zero _)]
 ·rfl
theorem nmd_put {F:List GenL.Fd} {k:Nat} (hk:k < F.length) (h:¬ atF F F[k].nm < k) (t:ByteArray):(if t=F[k].nm then some (fdA F[k]) else nmdM F k t)=nmdM F (k + 1) t:=by
 have key:∀ m (hm:m < F.length),m=k->fdA F[m]=fdA F[k]:=fun m hm em => by subst em; rfl
 by_cases e:t=F[k].nm
 ·rw [if_pos e]
  have ha:=at_ge hk h
  unfold nmdM
  have hat:atF F t=k:=by rw [e]; exact ha
  have hl:atF F t < F.length:=by omega
  rw [dif_pos hl,if_pos (by omega),key _ hl hat]
 ·rw [if_neg e]
  unfold nmdM
  split
  ·rename_i hl
   by_cases h2:atF F t < k
   ·rw [if_pos h2,if_pos (by omega)]
   ·rw [if_neg h2,if_neg]
    intro h3
    have h4:atF F t=k:=by omega
    have:=(atF_at (fs:=F) (s:=t) (by omega)).1
    simp only [h4] at this
    exact e this.symm
  ·rfl
theorem nmd_skip {F:List GenL.Fd} {k:Nat} (hk:k < F.length) (h:atF F F[k].nm < k) (t:ByteArray):nmdM F k t=nmdM F (k + 1) t:=by
 unfold nmdM
 split
 ·rename_i hl
  by_cases h2:atF F t < k
  ·rw [if_pos h2,if_pos (by omega)]
  ·rw [if_neg h2,if_neg]
   intro h3
   have h4:atF F t=k:=by omega
   have:=(atF_at (fs:=F) (s:=t) (by omega)).1
   simp only [h4] at this
   rw [this,h4] at h
   omega
 ·rfl
theorem nmd_all {F:List GenL.Fd} {s:ByteArray} (h:atF F s < F.length):nmdM F F.length s=some (fdA F[atF F s]):=by unfold nmdM; rw [dif_pos h,if_pos h]
theorem nmd_none {F:List GenL.Fd} {s:ByteArray} (h:¬ atF F s < F.length) (k:Nat):nmdM F k s=none:=by unfold nmdM; rw [dif_neg h]
theorem nmd_at {F:List GenL.Fd} {k:Nat} {s:ByteArray} (h:atF F s < F.length) (h2:atF F s < k):nmdM F k s=some (fdA F[atF F s]):=by unfold nmdM; rw [dif_pos h,if_pos h2]
theorem nmd_later {F:List GenL.Fd} {k:Nat} {s:ByteArray} (h2:¬ atF F s < k):nmdM F k s=none:=by
 unfold nmdM
 by_cases h:atF F s < F.length
 ·rw [dif_pos h,if_neg h2]
 ·rw [dif_neg h]
set_option maxRecDepth 100000 in
set_option maxHeartbeats 4000000 in
theorem byName_any (fs:List GenL.Fd) (FA:Option Addr) (fc:Nat) (w:World) (hm:fs.length<=maxLen) (hf:Flds w FA fs) (hz:∀ (k:Nat) (h:k < fs.length),fs[k].nm.size<=maxLen) :
  Calls Tryz.prog 100 #[.slice FA fs.length fc] w fun r w' => ∃ m,r=.returned (.map (some m))/\w.heap.size<=m/\SM w' m fs.length (nmdM fs fs.length)/\Below w.heap.size w w':=by
 have hmm:=@run_makeMap Tryz.prog
 obtain ⟨W1,hW1⟩:∃ V,w.alloc (.map #[] 0)=V:=⟨_,rfl⟩
 have hs0:SM W1 w.heap.size 0 (nmdM fs 0):=by rw [← hW1]; exact (SM.made w).to fun s => (nmd_zero fs s).symm
 have hb1:Below w.heap.size w W1:=by rw [← hW1]; exact b_new w _
 have HS0:=Lib.hid hs0
 have HB1:=Lib.hid hb1
 have HW1:=Lib.hid hW1
 have HF:=Lib.hid hf
 have HZ:=Lib.hid hz
 obtain ⟨m,hmm2⟩:∃ m,w.heap.size=m:=⟨_,rfl⟩
 have hwm:w.heap.size<=m:=Nat.le_of_eq hmm2
 rw [hmm2] at HS0
 have HM:=Lib.hid hmm2
 have hfl:fs.length<=9223372036854775807:=Nat.le_trans hm (by unfold maxLen; decide)
 have HMx:=Lib.hid hm
 clear hs0 hb1 hW1 hf hz hmm2 hm
 go_enter Tryz.func100,Tryz.ntmps100
 go_wp2_with fail
 rw [HW1.out,HM.out]
 go_loopw [5,6,7,11] (fun _ _ _ ii wr => ∃ k:Nat,ii=.int .i64 k/\k<=fs.length/\SM wr m k (nmdM fs k)/\Below w.heap.size w wr) (fun _ _ _ ii _ => fs.length - (intOf ii).toNat)
 case atStart => exact ⟨0,rfl,Nat.zero_le _,HS0.out,HB1.out⟩
 case round =>
  obtain ⟨k,rfl,hk,hsm,hb⟩:=hrel
  obtain ⟨wa,rfl⟩:∃ V,V=wr:=⟨_,rfl⟩
  by_cases hlt:k < fs.length
  ·obtain ⟨ad,rfl,hat⟩:=HF.out.below hb k hlt
   have hnz:=HZ.out k hlt
   have hput:=fun h => nmd_put (F:=fs) hlt h
   have hskip:=fun h => nmd_skip (F:=fs) hlt h
   obtain ⟨f,hfk⟩:∃ f,fs[k]=f:=⟨_,rfl⟩
   rw [hfk] at hat hnz hput hskip
   obtain ⟨q0,q1,q2,q3,q4,q5,q6,q7,q8⟩:=hat
   obtain ⟨W5,hW5⟩:∃ V,wa.alloc (ShF.fdBox f)=V:=⟨_,rfl⟩
   obtain ⟨B9,hB9⟩:∃ B,wa.heap.size=B:=⟨_,rfl⟩
   have hb5:=b_new wa (ShF.fdBox f)
   have hcell:=fd_cells9 wa f
   rw [hW5,hB9] at hcell
   rw [hW5] at hb5
   obtain ⟨x0,_⟩:=hcell W5 (Below.refl _ _)
   have hsm5:=hsm.below hb5
   have hlk:=look_fd hsm5 f.nm hnz
   have hbw:=b_trans hb hb5
   by_cases hd:atF fs f.nm < k
   ·have hM:nmdM fs k f.nm=some (fdA (fs[atF fs f.nm]'(by omega))):=nmd_at (by omega) hd
    rw [hM] at hlk
    obtain ⟨g,hg⟩:∃ g,(fs[atF fs f.nm]'(by omega))=g:=⟨_,rfl⟩
    rw [hg] at hlk
    have hlk2:(Instr.lookup 147 (.map (some m)) (.string f.nm) true).run Tryz.prog W5=.ok (.tuple #[.agg #[.string g.nm,.int .i64 g.kind,.int .i64 g.ty,.int .i64 g.d.op,.int .i64 g.d.k,.int .i64 g.d.n,.string g.d.s,.string g.d.nm,.slice g.A g.n g.c],.bool true]) W5:=hlk
    have HN:=Lib.hid (And.intro ((hsm5.below (b_new W5 (ShF.fdBox g))).to (hskip hd)) (b_more hbw (ShF.fdBox g)))
    have HW5:=Lib.hid hW5
    have HB9:=Lib.hid hB9
    clear hsm hb hnz hput hskip hfk hb5 hcell hbw hW5 hB9 hlk hM hd hsm5 hg
    unfold ShF.fdBox at HW5 HN
    go_upto_region 5 with fail
    rw [HW5.out,HB9.out]
    go_wp2_with fail
    go_roundw
    case rel => exact ⟨k + 1,by go_num,by omega,HN.out.1.mono (Nat.le_succ _),HN.out.2⟩
    case measure => simp [intOf]; omega
   ·have hM:nmdM fs k f.nm=none:=nmd_later hd
    rw [hM] at hlk
    have hlk2:(Instr.lookup 147 (.map (some m)) (.string f.nm) true).run Tryz.prog W5=.ok (.tuple #[.agg #[.string ⟨#[]⟩,.int .i64 0,.int .i64 0,.int .i64 0,.int .i64 0,.int .i64 0,.string ⟨#[]⟩,.string ⟨#[]⟩,.slice none 0 0],.bool false]) W5:=hlk
    obtain ⟨W6,hW6⟩:∃ V,W5.alloc (.cells #[.string ⟨#[]⟩,.int .i64 0,.int .i64 0,.int .i64 0,.int .i64 0,.int .i64 0,.string ⟨#[]⟩,.string ⟨#[]⟩,.slice none 0 0] 43)=V:=⟨_,rfl⟩
    have hb6:Below W5.heap.size W5 W6:=by rw [← hW6]; exact b_new _ _
    obtain ⟨x0,x1,x2,x3,x4,x5,x6,x7,x8⟩:=hcell W6 hb6
    obtain ⟨w7,hput7,hs7,hg7⟩:=put_fd (hsm5.below hb6) f.nm hnz (fdA f) (by have:=HMx.out; omega)
    have hput8:(Instr.mapUpdate 147 (.map (some m)) (.string f.nm) (.agg #[.string f.nm,.int .i64 f.kind,.int .i64 f.ty,.int .i64 f.d.op,.int .i64 f.d.k,.int .i64 f.d.n,.string f.d.s,.string f.d.nm,.slice f.A f.n f.c])).run Tryz.prog W6=.ok () w7:=hput7
    have HN:=Lib.hid (And.intro (hs7.to (hput hd)) (ShF.b_grown (b_trans hbw hb6) hg7 (b_trans hbw hb6).size hwm))
    have HW5:=Lib.hid hW5
    have HW6:=Lib.hid hW6
    have HB9:=Lib.hid hB9
    clear hsm hb hnz hput hskip hfk hb5 hcell hbw hW5 hW6 hB9 hlk hM hd hsm5 hs7 hg7 hput7 hb6
    unfold ShF.fdBox at HW5
    go_upto_region 5 with fail
    rw [HW5.out,HB9.out]
    go_upto_region 6 with fail
    rw [HW6.out]
    go_wp2_with fail
    go_roundw
    case rel => exact ⟨k + 1,by go_num,by omega,HN.out.1,HN.out.2⟩
    case measure => simp [intOf]; omega
  ·have ek:k=fs.length:=by omega
   have HN:=Lib.hid (show SM wa m fs.length (nmdM fs fs.length)/\Below w.heap.size w wa from ⟨by rw [ek] at hsm; exact hsm,hb⟩)
   clear hsm hb ek
   go_wp2_with fail
   go_ret
   exact ⟨m,rfl,hwm,HN.out.1,HN.out.2⟩
end Wh2
namespace FrmM
open Go.RowKit
open ValM LexM NumM ExM Kit ExL ExP RawV Within RawL GenL
set_option linter.unusedVariables false
structure FV where
 nm:ByteArray
 kind:Int
 ty:Int
 x:Ex
def zeroN:Nd:=⟨0,0,0,⟨#[]⟩,⟨#[]⟩⟩
def zeroX:Ex:=.mk zeroN []
structure PV where
 nm:ByteArray
 fs:List ByteArray
 x:Ex
structure FE where
 nm:ByteArray
 kind:Int
 ty:Int
 x:Ex
 B:Option Addr
 m:Nat
 c:Nat
def FE.fd (e:FE):GenL.Fd:=⟨e.nm,e.kind,e.ty,e.x.d,e.B,e.m,e.c⟩
def FE.v (e:FE):FV:=⟨e.nm,e.kind,e.ty,e.x⟩
def fdC (f:GenL.Fd):List Value:=[.string f.nm,.int .i64 f.kind,.int .i64 f.ty,.int .i64 f.d.op,.int .i64 f.d.k,.int .i64 f.d.n,.string f.d.s,.string f.d.nm,.slice f.A f.n f.c]
def feC:List FE->List Value
 | [] => []
 | e :: l => fdC e.fd ++ feC l
theorem feC_app:∀ (a b:List FE),feC (a ++ b)=feC a ++ feC b
 | [],b => rfl
 | e :: l,b => by show fdC e.fd ++ feC (l ++ b)=_; rw [feC_app l b,← List.append_assoc]; rfl
theorem feC_snoc (es:List FE) (e:FE):feC (es ++ [e])=feC es ++ fdC e.fd:=by
 rw [feC_app]; show _ ++ (fdC e.fd ++ [])=_; rw [List.append_nil]
theorem feC_len:∀ (es:List FE),(feC es).length=es.length * 9
 | [] => rfl
 | e :: l => by show (fdC e.fd ++ feC l).length=_; rw [List.length_append,feC_len l]; simp [fdC]; omega
theorem feC_at:∀ (es:List FE) (i j:Nat) (h:i < es.length),j < 9->(feC es)[i * 9 + j]?=(fdC es[i].fd)[j]?
 | e :: l,0,j,h,hj => by
  show (fdC e.fd ++ feC l)[0 * 9 + j]?=_
  rw [Nat.zero_mul,Nat.zero_add,List.getElem?_append_left (by simpa [fdC] using hj)]; rfl
 | e :: l,i + 1,j,h,hj => by
  show (fdC e.fd ++ feC l)[(i + 1) * 9 + j]?=_
  rw [List.getElem?_append_right (by simp [fdC]; omega),show (i + 1) * 9 + j - (fdC e.fd).length=i * 9 + j by simp [fdC]; omega,feC_at l i j (by simpa using h) hj]; rfl
theorem fdAt_of {w:World} {g o:Nat} {f:GenL.Fd} (h:∀ j,j < 9->w.cell? ⟨g,o + j,none⟩=(fdC f)[j]?):FdAt w ⟨g,o,none⟩ f :=
 ⟨h 0 (by decide),h 1 (by decide),h 2 (by decide),h 3 (by decide),h 4 (by decide),h 5 (by decide),h 6 (by decide),h 7 (by decide),h 8 (by decide)⟩
theorem flds_of {w:World} {g:Nat} {es:List FE} (hc:∀ j,j < es.length * 9->w.cell? ⟨g,j,none⟩=(feC es)[j]?):Flds w (some ⟨g,0,none⟩) (es.map FE.fd):=fun i hi => by
 refine ⟨_,rfl,?_⟩
 rw [add_block]
 have hi':i < es.length:=by simpa using hi
 rw [List.getElem_map]
 refine fdAt_of fun j hj => ?_
 rw [hc _ (by omega),feC_at es i j hi' hj]
theorem own_flds {w:World} {base k:Nat} {v:Value} {es:List FE} (h:w.ownsRow base 43 9 v k (feC es)) (hk:es.length=k):∃ A c,v=.slice A (es.map FE.fd).length c/\Flds w A (es.map FE.fd):=by
 subst hk
 rcases Nat.eq_zero_or_pos es.length with h0 | h0
 ·obtain ⟨A,c,e⟩:=own_slice h
  exact ⟨A,c,by rw [e,List.length_map],fun i hi => absurd hi (by simp; omega)⟩
 ·obtain ⟨g,cap,e,_,_,_,_,hc⟩:=own_form h h0
  exact ⟨_,cap,by rw [e,List.length_map],flds_of hc⟩
structure PE where
 nm:ByteArray
 fs:List ByteArray
 F:Option Addr
 fc:Nat
 x:Ex
 B:Option Addr
 m:Nat
 c:Nat
def PE.v (e:PE):PV:=⟨e.nm,e.fs,e.x⟩
def pgC (e:PE):List Value:=[.string e.nm,.slice e.F e.fs.length e.fc,.int .i64 e.x.d.op,.int .i64 e.x.d.k,.int .i64 e.x.d.n,.string e.x.d.s,.string e.x.d.nm,.slice e.B e.m e.c]
def peC:List PE->List Value
 | [] => []
 | e :: l => pgC e ++ peC l
theorem peC_app:∀ (a b:List PE),peC (a ++ b)=peC a ++ peC b
 | [],b => rfl
 | e :: l,b => by show pgC e ++ peC (l ++ b)=_; rw [peC_app l b,← List.append_assoc]; rfl
theorem peC_snoc (es:List PE) (e:PE):peC (es ++ [e])=peC es ++ pgC e:=by
 rw [peC_app]; show _ ++ (pgC e ++ [])=_; rw [List.append_nil]
theorem peC_at:∀ (es:List PE) (i j:Nat) (h:i < es.length),j < 8->(peC es)[i * 8 + j]?=(pgC es[i])[j]?
 | e :: l,0,j,h,hj => by
  show (pgC e ++ peC l)[0 * 8 + j]?=_
  rw [Nat.zero_mul,Nat.zero_add,List.getElem?_append_left (by simpa [pgC] using hj)]; rfl
 | e :: l,i + 1,j,h,hj => by
  show (pgC e ++ peC l)[(i + 1) * 8 + j]?=_
  rw [List.getElem?_append_right (by simp [pgC]; omega),show (i + 1) * 8 + j - (pgC e).length=i * 8 + j by simp [pgC]; omega,peC_at l i j (by simpa using h) hj]; rfl
def StrP (P:Nat->Prop) (w:World) (A:Option Addr) (l:List ByteArray):Prop:=∀ (j:Nat) (h:j < l.length),∃ a:Addr,A=some a/\P a.block/\w.cell? (a.add j)=some (.string l[j])
theorem StrP.keep {P Q:Nat->Prop} {w w':World} {A:Option Addr} {l:List ByteArray} (h:StrP P w A l) (hk:∀ b,P b->b < w.heap.size->w'.heap[b]?=w.heap[b]?) (hq:∀ b,P b->b < w.heap.size->Q b):StrP Q w' A l:=fun j hj => by
 obtain ⟨a,e,hp,hc⟩:=h j hj
 have hl:a.block < w.heap.size:=by have:=cell_lt' hc; rwa [block_of_add] at this
 exact ⟨a,e,hq _ hp hl,(World.cell?_of_block (by rw [block_of_add]; exact hk _ hp hl)).trans hc⟩
structure PIs (P:Nat->Prop) (w:World) (e:PE):Prop where
 str:StrP P w e.F e.fs
 skip:IsP P w e.x e.x.d e.B e.m
 len:e.fs.length<=10
 cap:e.fs.length<=e.fc
theorem PIs.keep {P Q:Nat->Prop} {w w':World} {e:PE} (h:PIs P w e) (hk:∀ b,P b->b < w.heap.size->w'.heap[b]?=w.heap[b]?) (hq:∀ b,P b->b < w.heap.size->Q b):PIs Q w' e :=
 ⟨h.str.keep hk hq,IsP.keep hk hq _ _ _ _ h.skip,h.len,h.cap⟩
end FrmM
end Go.Proofs.YtonlkmkfcaadlaaGreatDoor
