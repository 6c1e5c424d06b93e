/- What is proved: the Go law lychwaykeep.WholeTold returns true for all its arguments,and leaves them as they were. No condition. -/
import Derived.Test.YtonlkmkfcaadlaaGreatDoorRows
import Derived.Test.YtonlkmkfcaadlaaGreatDoorKw01
import Derived.Test.YtonlkmkfcaadlaaGreatDoorKw21
import Derived.Test.YtonlkmkfcaadlaaGreatDoorKw23
import Derived.WalkKit
import Derived.ProofKit
import Derived.OpenShut
import Derived.Deep.RegionHeld3
import Derived.Deep.DrawnRows
import Derived.Deep.DeepCutAuto
import Derived.Deep.QuietTactic
import Derived.BigQuiet
import Derived.WalkSpells
import Derived.WalkLawsBesides
import Derived.Lib.Hide
import Derived.Outline
import Derived.ShutString
import Derived.ChangeOld
import Derived.Below
import Derived.LaidMore
import Derived.SizedLaws
import Derived.Stop.Joined
import Derived.Stop.LaidErr
import Derived.Lib.LaidTab
import Derived.SevenTiedAt
import Derived.Lay
import Derived.LaidOnce
import Derived.Deep.DeepHandedRow
import Derived.Test.YtonlkmkfcaadlaaGreatDoorCards
import Derived.Test.YtonlkmkfcaadlaaGreatDoorTie
namespace Go.Proofs.YtonlkmkfcaadlaaGreatDoor.wholeTold
open ValM LexM NumM ExM NmM StrM EvM EvP FoM Kit ExL ExP ExN RawV Within RawL RawN GenL TyM Ty EvF EvO EvR EvE FrmM Frm FrmT FrmO FldP FldC FcM PgM PgF ShE RkM RkD RkO RkT RkP RkS RkK TxR TxT TxK InpG FcF WhM WhQ WhU WhT WhA Wh1 Wh2 Wh3 Wh4 Wh5 Wh6 Wh7 SMp KMp
open Go.ChangeShapes Go.WideShapes Go.ChangeAt Go.RowKit
open Go.ChangeMaps (open_string shut_string)
theorem own:ownKnob Tryz.prog.godebug=none:=by kernel_rfl
theorem laidOut:laidOutB Tryz.prog=true:=by kernel_rfl
/-! ### The walk -/
set_option maxRecDepth 100000 in
set_option maxHeartbeats 16000000 in
theorem walk (A0:Option Addr) (n0:Nat) (c0:Nat) (A1:Option Addr) (n1:Nat) (c1:Nat)  (w:World) (hraw0:RawL.Raws w A0 n0 c0) (hraw1:RawL.Raws w A1 n1 c1) (ht:ExN.Tab w) :
  Calls Tryz.prog 7 #[.slice A0 n0 c0,.slice A1 n1 c1] w fun e w' => e=.returned (.bool true)/\Below w.heap.size w w':=by
 obtain ⟨rs,rfl,hrv⟩:=RawN.Raws.val n0 hraw0
 obtain ⟨qs,rfl,hqv⟩:=RawN.Raws.val n1 hraw1
 have hF:=form_any c0 A0 rs w hrv
 have HF:=Lib.hid hF
 have HQ:=Lib.hid hqv
 have HT:=Lib.hid ht
 clear hF hrv hraw0 hqv hraw1 ht
 go_enter Tryz.func7,Tryz.ntmps7
 go_wp2_with fail
 refine HF.out.mono ?_; rintro e v1 ⟨es,FA,fc,ps,PA,pc,rfl,hv,hpv,hfr,hpr,hb,hcap,hpcap,-⟩
 have hG:=gen_start qs hv hfr hpv hpr hcap hpcap (HT.out.below hb)
 obtain ⟨I,hI⟩:∃ I,(inpV qs (es.map FE.fd) (es.map FE.fd).length).1=I:=⟨_,rfl⟩
 rw [hI] at hG
 obtain ⟨W2,hW2⟩:∃ V,v1.alloc (ShF.frBox FA es.length fc PA ps.length pc)=V:=⟨_,rfl⟩
 obtain ⟨B2,hB2⟩:∃ B,v1.heap.size=B:=⟨_,rfl⟩
 have hb2:=b_new v1 (ShF.frBox FA es.length fc PA ps.length pc)
 have hcell:=ShF.fr_cells v1 FA es.length fc PA ps.length pc
 rw [hW2] at hb2 hcell
 rw [hB2] at hcell
 obtain ⟨k0,k1⟩:=hcell W2 (Below.refl _ _)
 have hinp:=hG.inp A1 c1 W2 hb2 (HQ.out.below (b_trans hb hb2))
 have hzero:∀ (i:Nat) (h:i < es.length) (V:World),Calls Tryz.prog 25 #[.int .i64 es[i].ty] V fun e w' => e=.returned (.tuple #[.agg #[.int .i64 es[i].ty,.int .i64 0,.string ⟨#[]⟩],.int .i64 0])/\Below V.heap.size V w':=fun i h V => by
  have:=hG.wf.wt.ty (toW es[i]) (List.mem_map.2 ⟨_,List.getElem_mem h,rfl⟩)
  exact Val.zero_in es[i].ty V (show isT es[i].ty=true by
   have t:1<=es[i].ty/\es[i].ty<=3:=this
   unfold isT
   have:es[i].ty=1 ∨ es[i].ty=2 ∨ es[i].ty=3:=by omega
   rcases this with e | e | e <;> simp [e])
 have HG:=Lib.hid hG
 have HInp:=Lib.hid hinp
 have HCell:=Lib.hid hcell
 have HW2:=Lib.hid hW2
 have HB2:=Lib.hid hB2
 have Hb02:=Lib.hid (b_trans hb hb2)
 have Hb12:=Lib.hid hb2
 have HZero:=Lib.hid hzero
 have h10:=hG.n10
 have hi10:=hG.il
 clear hG hinp hcell hW2 hB2 hb2 hv hpv hfr hpr hb hcap hpcap hI hzero
 unfold ShF.frBox at HW2
 go_upto_region 2 with fail
 rw [HW2.out,HB2.out]
 go_wp2_with fail
 refine HInp.out.mono ?_; rintro e v3 ⟨IA,ic,rfl,hfi,hb3⟩
 have hall:=HG.out.all (ic:=ic) (oc:=0) (b_trans Hb12.out hb3) hfi (FctIn.nil v3) rfl
 rw [List.map_nil] at hall
 obtain ⟨vs,hvs⟩:∃ vs,allV (I.map toO) [] (es.map toW)=vs:=⟨_,rfl⟩
 have hvl:vs.length=es.length:=by rw [← hvs]; exact allW_len _ _
 have hval:∀ (i:Nat) (h:i < es.length) (h2:i < vs.length),es[i].kind=1->vs[i]=wantK I (toW es[i]) I.length:=fun i h h2 hk => by
  have hwt:=HG.out.wf.wt
  have hl:i < (es.map toW).length:=by rw [List.length_map]; exact h
  have:=all_at hwt.toWk (facts_oks HG.out.fz) (fun o ho => by cases ho) i hl (orc:=[])
  simp only [hvs] at this
  rw [this]
  have e:(es.map toW)[i]=toW es[i]:=List.getElem_map ..
  rw [e,want_in HG.out.nd]
  unfold oneV
  rw [if_pos (show (toW es[i]).kind=1 from hk)]
 rw [hvs] at hall
 unfold AllOut at hall
 rw [hvl] at hall
 have HAll:=Lib.hid hall
 have HVl:=Lib.hid hvl
 have HVal:=Lib.hid hval
 have HFi:=Lib.hid hfi
 have HB3:=Lib.hid hb3
 obtain ⟨k0,k1⟩:=HCell.out v3 hb3
 clear hall hvs hvl hval hfi hb3
 go_wp2_with fail
 refine HAll.out.mono ?_; rintro e v4 ⟨g,rfl,hgl,hrow,hb4⟩
 have hb24:=b_trans HB3.out hb4
 obtain ⟨k0,k1⟩:=HCell.out v4 hb24
 have hkn:=known_any v4 (HT.out.below (b_trans Hb02.out hb24))
 have HKn:=Lib.hid hkn
 have HRow:=Lib.hid hrow
 have HB4:=Lib.hid hb24
 have HFi4:=Lib.hid (HFi.out.below hb4)
 clear hb4 hb24 hkn hrow
 go_wp2_with fail
 refine HKn.out.mono ?_; rintro e v5 ⟨rfl,hb5⟩
 obtain ⟨k0,k1⟩:=HCell.out v5 (b_trans HB4.out hb5)
 have hb25:=b_trans HB4.out hb5
 have hfl5:=HG.out.wf.fin.fl.below (b_trans Hb12.out hb25)
 have hfx:∀ (i:Nat) (h:i < es.length),∃ ad,FA=some ad/\FdAt v5 (ad.add (i * 9)) es[i].fd:=fun i h => by
  obtain ⟨ad,e,hat⟩:=hfl5 i (by rw [List.length_map]; exact h)
  exact ⟨ad,e,by rw [List.getElem_map] at hat; exact hat⟩
 have hfi5:=HFi4.out.below hb5
 have hrow5:=HRow.out.below hb5
 have HFx:=Lib.hid hfx
 have HFi5:=Lib.hid hfi5
 have HRow5:=Lib.hid hrow5
 have HBE:=Lib.hid (b_trans Hb02.out hb25)
 clear hb5 hb25 hfl5 hfx hfi5 hrow5 HFi4 HRow HKn
 have hil:I.length<=9223372036854775807:=by omega
 go_wp2_with fail
 go_loopw [9,10,11,12,14,43] (fun _ _ _ _ _ ii wr => ∃ k:Nat,ii=.int .i64 k/\k<=es.length/\Below v5.heap.size v5 wr) (fun _ _ _ _ _ ii _ => es.length - (intOf ii).toNat)
 case atStart => exact ⟨0,rfl,Nat.zero_le _,Below.refl _ _⟩
 case round =>
  obtain ⟨k,rfl,hk,hb⟩:=hrel
  obtain ⟨wa,rfl⟩:∃ V,V=wr:=⟨_,rfl⟩
  by_cases hlt:k < es.length
  ·obtain ⟨ad,rfl,hat⟩:=HFx.out k hlt
   have hat:=hat.of_block (hb.block _ hat.lt)
   have hz:=HZero.out k hlt
   have hvv:=fun h2 hk => HVal.out k hlt h2 hk
   obtain ⟨e,he⟩:∃ e,es[k]=e:=⟨_,rfl⟩
   rw [he] at hat hz hvv
   obtain ⟨q0,q1,q2,q3,q4,q5,q6,q7,q8⟩:=hat
   obtain ⟨W6,hW6⟩:∃ V,wa.alloc (ShF.fdBox e.fd)=V:=⟨_,rfl⟩
   obtain ⟨B10,hB10⟩:∃ B,wa.heap.size=B:=⟨_,rfl⟩
   have hb6:=b_new wa (ShF.fdBox e.fd)
   have hcf:=fd_cells9 wa e.fd
   rw [hW6] at hb6 hcf
   rw [hB10] at hcf
   obtain ⟨y0,y1,y2,y3,y4,y5,y6,y7,y8⟩:=hcf W6 (Below.refl _ _)
   have hbw6:=b_trans hb hb6
   have HCf:=Lib.hid hcf
   have HW6:=Lib.hid hW6
   have HB10:=Lib.hid hB10
   have Hbw6:=Lib.hid hbw6
   have HZ:=Lib.hid hz
   have HVv:=Lib.hid hvv
   clear hcf hW6 hB10 hb6 hbw6 hz hvv he hb
   unfold ShF.fdBox at HW6
   by_cases hk1:e.fd.kind=1
   ·have t1:(e.fd.kind != 1)=false:=by rw [hk1]; rfl
    have HK1:=Lib.hid hk1
    clear hk1
    go_upto_region 9 with fail
    rw [HW6.out,HB10.out]
    go_wp2_with fail
    refine (HZ.out W6).mono ?_; rintro e9 w7 ⟨rfl,hb7⟩
    obtain ⟨W8,hW8⟩:∃ V,w7.alloc (.cells #[.int .i64 e.ty,.int .i64 0,.string ⟨#[]⟩] 38)=V:=⟨_,rfl⟩
    obtain ⟨B11,hB11⟩:∃ B,w7.heap.size=B:=⟨_,rfl⟩
    have hb8:=b_new w7 (.cells #[.int .i64 e.ty,.int .i64 0,.string ⟨#[]⟩] 38)
    have hbv:=BV.new w7 e.ty 0 ⟨#[]⟩
    rw [hW8] at hb8 hbv
    rw [hB11] at hbv
    have hb68:=b_trans hb7 hb8
    have hB10l:B10 < W6.heap.size:=by rw [← HW6.out,World.size_alloc,HB10.out]; omega
    have hne:B10 ≠ B11:=by have:=hb7.size; omega
    have hge:v5.heap.size<=B11:=by have h1:=Hbw6.out.size; have h2:=hb7.size; omega
    have HSt:=Lib.hid (And.intro hbv (And.intro (hb68.block B10 hB10l) (b_trans Hbw6.out hb68)))
    have HW8:=Lib.hid hW8
    have HB11:=Lib.hid hB11
    have hcb:∀ V:World,V.heap[B10]?=W6.heap[B10]?->V.cell? ⟨B10,0,none⟩=some (.string e.fd.nm):=fun V hV => (World.cell?_of_block (a:=⟨B10,0,none⟩) hV).trans (HCf.out W6 (Below.refl _ _)).1
    have HCb:=Lib.hid hcb
    have HB10l:=Lib.hid hB10l
    clear hW8 hB11 hb8 hbv hb68 hb7 hcb hB10l
    go_upto_region 11 with fail
    rw [HW8.out,HB11.out]
    go_wp2_with fail
    go_loopw [14,59] (fun _ jj wr => ∃ j:Nat,jj=.int .i64 j/\j<=I.length/\BV wr B11 (wantK I (toW e) j).k (wantK I (toW e) j).n (wantK I (toW e) j).s/\wr.heap[B10]?=W6.heap[B10]?/\Below v5.heap.size v5 wr) (fun _ jj _ => I.length - (intOf jj).toNat)
    case atStart => exact ⟨0,rfl,Nat.zero_le _,HSt.out.1,HSt.out.2.1,HSt.out.2.2⟩
    case round =>
     obtain ⟨j,rfl,hj,hbv,hbx,hb⟩:=hrel
     obtain ⟨wb,rfl⟩:∃ V,V=wr:=⟨_,rfl⟩
     by_cases hjl:j < I.length
     ·obtain ⟨ad2,rfl,hat⟩:=HFi5.out.fc.below hb j hjl
      have hhit:=fun h => want_hit (L:=I) (f:=toW e) hjl h
      have hmiss:=fun h => want_miss (L:=I) (f:=toW e) hjl h
      obtain ⟨q,hq⟩:∃ q,I[j]=q:=⟨_,rfl⟩
      rw [hq] at hat hhit hmiss
      obtain ⟨p0,p1,p2,p3,p4,p5,p6⟩:=hat
      obtain ⟨W9,hW9⟩:∃ V,wb.alloc (ShF.fcBox q)=V:=⟨_,rfl⟩
      obtain ⟨B14,hB14⟩:∃ B,wb.heap.size=B:=⟨_,rfl⟩
      have hb9:=b_new wb (ShF.fcBox q)
      have hcq:=ShF.fc_cells wb q
      rw [hW9] at hb9 hcq
      rw [hB14] at hcq
      obtain ⟨u0,u1,u2,u3,u4,u5,u6⟩:=hcq W9 (Below.refl _ _)
      have hbv9:=hbv.below hb9
      have hB10b:B10 < wb.heap.size:=by have h:=hbx.trans (Array.getElem?_eq_getElem HB10l.out); exact (Array.getElem?_eq_some_iff.1 h).1
      have hbx9:W9.heap[B10]?=W6.heap[B10]?:=(hb9.block B10 hB10b).trans hbx
      have z0:=HCb.out W9 hbx9
      have hbw9:=b_trans hb hb9
      obtain ⟨r0,r1,r2⟩:=hbv9.cells
      have r3:=hbv9.frozen
      have r4:=hbv9.lt
      have hset:=fun a b c => hbv9.set3 a b c
      have HSet:=Lib.hid hset
      have HHit:=Lib.hid hhit
      have HMiss:=Lib.hid hmiss
      have HW9:=Lib.hid hW9
      have HB14:=Lib.hid hB14
      have H9:=Lib.hid (And.intro hbv9 (And.intro hbx9 hbw9))
      clear hset hhit hmiss hW9 hB14 hb9 hcq hbv9 hbx9 hbw9 hbv hbx hb hq hB10b
      unfold ShF.fcBox at HW9
      go_upto_region 14 with fail
      rw [HW9.out,HB14.out]
      by_cases hn:q.nm=e.nm
      ·have t2:(q.nm.toList == e.fd.nm.toList)=true:=eq_t hn
       have hw:=HHit.out hn
       have hN:BV (((W9.setCell ⟨B11,0,none⟩ (.int .i64 q.v.k)).setCell ⟨B11,1,none⟩ (.int .i64 q.v.n)).setCell ⟨B11,2,none⟩ (.string q.v.s)) B11 (wantK I (toW e) (j + 1)).k (wantK I (toW e) (j + 1)).n (wantK I (toW e) (j + 1)).s:=by rw [hw]; exact HSet.out _ _ _
       have hX:(((W9.setCell ⟨B11,0,none⟩ (.int .i64 q.v.k)).setCell ⟨B11,1,none⟩ (.int .i64 q.v.n)).setCell ⟨B11,2,none⟩ (.string q.v.s)).heap[B10]?=W6.heap[B10]?:=by
        rw [Below.heap_setCell _ _ _ _ hne,Below.heap_setCell _ _ _ _ hne,Below.heap_setCell _ _ _ _ hne]
        exact H9.out.2.1
       have HN:=Lib.hid (And.intro hN (And.intro hX (b_set3 H9.out.2.2 B11 hge (.int .i64 q.v.k) (.int .i64 q.v.n) (.string q.v.s))))
       clear hN hX hw hn
       go_wp2_with fail
       go_roundw
       case rel => exact ⟨j + 1,by go_num,by omega,HN.out.1,HN.out.2.1,HN.out.2.2⟩
       case measure => simp [intOf]; omega
      ·have t2:(q.nm.toList == e.fd.nm.toList)=false:=eq_f hn
       have hw:=HMiss.out hn
       have HN:=Lib.hid (show BV W9 B11 (wantK I (toW e) (j + 1)).k (wantK I (toW e) (j + 1)).n (wantK I (toW e) (j + 1)).s from by rw [hw]; exact H9.out.1)
       clear hw hn
       go_wp2_with fail
       go_roundw
       case rel => exact ⟨j + 1,by go_num,by omega,HN.out,H9.out.2.1,H9.out.2.2⟩
       case measure => simp [intOf]; omega
     ·have ej:j=I.length:=by omega
      subst ej
      have hkv:k < vs.length:=by rw [HVl.out]; exact hlt
      have hr:=HVv.out hkv HK1.out
      have hrow:=(HRow5.out.below hb).at k hkv
      rw [hr] at hrow
      obtain ⟨r0,r1,r2⟩:=hbv.cells
      obtain ⟨s0,s1,s2⟩:=hrow
      generalize wantK I (toW e) I.length=want at r0 r1 r2 s0 s1 s2
      obtain ⟨ak,an,az⟩:=want
      have HNb:=Lib.hid hb
      clear hb hbv hbx hr hkv
      go_wp2_with fail
      go_quiet (fail)
      go_wp2_with fail
      go_roundw
      case rel => exact ⟨k + 1,by go_num,by omega,b_drewN HNb.out _⟩
      case measure => simp [intOf]; omega
   ·have t1:(e.fd.kind != 1)=true:=bne_iff_ne.2 hk1
    clear hk1
    go_upto_region 9 with fail
    rw [HW6.out,HB10.out]
    go_wp2_with fail
    go_roundw
    case rel => exact ⟨k + 1,by go_num,by omega,Hbw6.out⟩
    case measure => simp [intOf]; omega
  ·have HN:=Lib.hid (b_trans HBE.out hb)
   clear hb
   go_wp2_with fail
   go_ret
   exact ⟨rfl,HN.out⟩
end Go.Proofs.YtonlkmkfcaadlaaGreatDoor.wholeTold
