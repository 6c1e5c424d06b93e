/- Printed ShowRef PrintTop TxProg StrTab LexTok: what these laws name of them. -/
import Derived.Lib.SplitLaws
import Derived.Test.YtjhhmdmmllblhaaGreatDoorKt17
namespace Go.Proofs.YtjhhmdmmllblhaaGreatDoor
set_option linter.unusedVariables false
namespace Prn
open Go.RowKit
open ValM LexM ExM ShowM PrM Kit ExL ExN ExV GenL
set_option linter.unusedVariables false
theorem adds (a b:ByteArray) (ha:a.size<=2000000) (hb:b.size<=2000000):∀ W:World,(Op.stringOp .add a b).run Tryz.prog W=.ok (.string (a ++ b)) W:=fun W => run_string_add_sum W a b (by omega)
theorem b_step {w W w':World} (h:Below w.heap.size w W) (hb:Below W.heap.size W w'):Below w.heap.size w w':=h.trans (hb.mono h.size)
set_option maxHeartbeats 4000000 in
set_option maxRecDepth 100000 in
theorem printed_any:∀ x:Ex,x.okN->x.nodes<=60->PrAt x:=by
 refine Ex.ind fun d l ih => ?_
 intro hok hn d' A n c w his hv
 rw [is_mk] at his
 obtain ⟨rfl,rfl,⟨hm,_⟩,his⟩:=his
 obtain ⟨hE,hl⟩:=(okN_mk d' l).1 hok
 obtain ⟨p1,p2,p3,p4,p5⟩:=nodeE_parts hE
 rw [nodes_mk] at hn
 have hxn:∀ x ∈ l,x.nodes<=60:=fun x hx => by have:=nodes_mem hx; omega
 have hpr:∀ x ∈ l,PrAt x:=fun x hx => ih x hx (hl x hx) (hxn x hx)
 have hsz:∀ x ∈ l,(Ex.txt x).length<=6000:=fun x hx => by have h1:=txt_len x (hl x hx); have h2:=hxn x hx; omega
 obtain ⟨j,hj⟩:∃ j:Nat,d'.op=j:=⟨d'.op.toNat,by omega⟩
 have hj1:j < 19:=by omega
 obtain ⟨hc0,hc1,hc2⟩:=hv.tab.cells j hj1
 obtain ⟨sg,hsg⟩:∃ t:ByteArray,t=⟨(rw_ j).1.toArray⟩:=⟨_,rfl⟩
 have hsl:sg.data.toList=signF d'.op:=by rw [hsg,hj]; rfl
 have hss:sg.size<=3:=by show sg.data.toList.length<=3; rw [hsl]; exact rwF_len _
 obtain ⟨q,hq⟩:∃ q,precF d'.op=q:=⟨_,rfl⟩
 have hq2:(rw_ j).2.1=q:=by rw [rw_rwF,← hj]; exact hq
 obtain ⟨ar,har⟩:∃ a,(rw_ j).2.2=a:=⟨_,rfl⟩
 obtain ⟨qb0,qb1⟩:=prec_bd d'.op
 rw [hq] at qb0 qb1
 rw [← hsg] at hc0
 rw [hq2] at hc1
 rw [har] at hc2
 have a0:∀ o,(w.alloc o).cell? ⟨3,j * 3,none⟩=some (.string sg):=fun o => by rw [World.cell?_alloc_lt _ _ _ (cell_lt' hc0)]; exact hc0
 have a1:∀ o,(w.alloc o).cell? ⟨3,j * 3 + 1,none⟩=some (.int .i64 q):=fun o => by rw [World.cell?_alloc_lt _ _ _ (cell_lt' hc1)]; exact hc1
 have a2:∀ o,(w.alloc o).cell? ⟨3,j * 3 + 2,none⟩=some (.int .i64 ar):=fun o => by rw [World.cell?_alloc_lt _ _ _ (cell_lt' hc2)]; exact hc2
 have i0:0<=d'.op:=by omega
 have i1:d'.op < 19:=by omega
 have i2:d'.op.toNat=j:=by omega
 have htx:Ex.txt (.mk d' l)=txtF d' (txtL l):=txt_mk d' l
 rw [htx]
 obtain ⟨r,hr⟩:∃ r,txtF d' (txtL l)=r:=⟨_,rfl⟩
 rw [hr]
 have HR:=Lib.hid hr
 clear hr
 have HP:=Lib.hid (And.intro p3 (And.intro p4 p5))
 have HI:=Lib.hid his
 have HV:=Lib.hid hv
 have HPr:=Lib.hid hpr
 have HSz:=Lib.hid hsz
 have HSg:=Lib.hid hsl
 have HQ:=Lib.hid hq
 have HL:=Lib.hid hl
 have HOK:=Lib.hid hok
 clear p3 p4 p5 his hv hpr hsz hsl hq hl hE hxn ih hsg hq2 har hc0 hc1 hc2 hj htx hok
 unfold maxLen at hm
 go_enter Tryz.func54,Tryz.ntmps54
 go_upto_region 1 with fail
 go_cut [1,3] (fun s1 s3 wx => ∃ B C:Nat,s1=.pointer (some ⟨B,0,none⟩)/\s3=.pointer (some ⟨C,0,none⟩)/\B < wx.heap.size/\C < wx.heap.size/\Below w.heap.size w wx/\wx.cell? ⟨B,0,none⟩=some (.int .i64 d'.op)/\wx.cell? ⟨B,1,none⟩=some (.int .i64 d'.k)/\wx.cell? ⟨B,2,none⟩=some (.int .i64 d'.n)/\wx.cell? ⟨B,3,none⟩=some (.string d'.s)/\wx.cell? ⟨B,4,none⟩=some (.string d'.nm)/\wx.cell? ⟨B,5,none⟩=some (.slice A l.length c)/\wx.cell? ⟨C,0,none⟩=some (.string sg)/\wx.cell? ⟨C,1,none⟩=some (.int .i64 q)/\wx.cell? ⟨C,2,none⟩=some (.int .i64 ar))
 case first =>
  go_wp2_with fail
  go_meet
  exact ⟨_,_,rfl,rfl,by first | (simp; done) | (simp; omega),by first | (simp; done) | (simp; omega),b_more (b_new _ _) _,by simp [go_sem],by simp [go_sem],by simp [go_sem],by simp [go_sem],by simp [go_sem],by simp [go_sem],by simp [go_sem],by simp [go_sem],by simp [go_sem]⟩
 case rest =>
 obtain ⟨B,C,rfl,rfl,hB,hC,hbw,m0,m1,m2,m3,m4,m5,n0,n1,n2⟩:=hcut
 by_cases o1:d'.op=1
 ·have t1:(d'.op == 1)=true:=beq_iff_eq.2 o1
  have hk:knownB d'.k d'.n d'.s.data.toList=true:=by
   have:=HP.out.2.1
   unfold vOk at this
   rw [if_pos o1] at this
   simp only [Bool.and_eq_true] at this
   exact this.1
  have hz:valE d'.k d'.n d'.s.data.toList=0:=by
   unfold knownB at hk
   simp only [Bool.and_eq_true,decide_eq_true_eq] at hk
   exact hk.2
  have hc:=Show.show_good d'.k d'.n d'.s wc hz (HV.out.below hbw).pow
  have e:r=showL d'.k d'.n d'.s.data.toList:=by rw [← HR.out]; unfold txtF; rw [if_pos o1]
  have HE:=Lib.hid e
  have HC:=Lib.hid hc
  clear hc hk hz e o1
  go_wp2_with fail
  refine HC.out.mono ?_; rintro e w1 ⟨rfl,hb1⟩
  go_wp2_with fail
  go_ret
  exact ⟨by rw [HE.out]; rfl,hbw.trans (hb1.mono hbw.size)⟩
 have t1:(d'.op == 1)=false:=beq_eq_false_iff_ne.2 o1
 by_cases o2:d'.op=2
 ·have t2:(d'.op == 2)=true:=beq_iff_eq.2 o2
  have e:r=d'.nm.data.toList:=by rw [← HR.out]; unfold txtF; rw [if_neg o1,if_pos o2]
  have HE:=Lib.hid e
  clear e o1 o2
  go_wp2_with fail
  go_ret
  exact ⟨str_inj (by rw [HE.out]),hbw⟩
 have t2:(d'.op == 2)=false:=beq_eq_false_iff_ne.2 o2
 have hw2:∀ W,Below wc.heap.size wc W->(∀ (j:Nat) (h:j < l.length),∃ a d B n c,A=some a/\At W (a.add (j * 6)) d B n c/\Is W l[j] d B n)/\Vars W:=fun W hb =>
  have hb:=hbw.trans (hb.mono hbw.size)
  ⟨fun j hj => by obtain ⟨a,d,B,n,c,e,hat,hi⟩:=HI.out j hj; exact ⟨a,d,B,n,c,e,hat.below hb,hi.below hb⟩,HV.out.below hb⟩
 by_cases o6:q=6
 ·have t3:(q == 6)=true:=beq_iff_eq.2 o6
  have hpos:0 < l.length/\l.length<=3:=by
   have h1:=HP.out.1
   have h2:precF d'.op=6:=by rw [HQ.out,o6]
   rw [h1]
   have:∀ o:Int,1<=o->o<=18->o ≠ 1->o ≠ 2->precF o=6->0 < arity o/\arity o<=3:=fun o a b c d e => by
    have hh:o=17 ∨ o=18:=by
     have:∀ k:Nat,k < 19->precF (k:Int)=6->(k=1 ∨ k=2 ∨ k=17 ∨ k=18):=by decide
     obtain ⟨k,rfl⟩:∃ k:Nat,o=k:=⟨o.toNat,by omega⟩
     rcases this k (by omega) e with g | g | g | g <;> omega
    rcases hh with rfl | rfl <;> decide
   exact this _ p1 p2 o1 o2 h2
  have hc:=fun W (hb:Below wc.heap.size wc W) => listed_any l HPr.out (fun x hx => by have:=HSz.out x hx; omega) hpos.1 hpos.2 A c W (hw2 W hb).1 (hw2 W hb).2
  obtain ⟨t,ht⟩:∃ t:ByteArray,t=⟨(commas (l.map Ex.txt)).toArray⟩:=⟨_,rfl⟩
  have htl:t.data.toList=commas (l.map Ex.txt):=by rw [ht]
  have hts:t.size<=400000:=by
   show t.data.toList.length<=_; rw [htl]
   have h1:=commas_len (l.map Ex.txt)
   have h2:=sum_le (l:=l) (fun x hx => by have:=HSz.out x hx; omega)
   rw [List.length_map] at h1; omega
  have e:r=signF d'.op ++ (40 :: (commas (l.map Ex.txt) ++ [41])):=by
   rw [← HR.out]; unfold txtF; rw [if_neg o1,if_neg o2,if_pos (by rw [HQ.out,o6]),txtL_map,List.map_map]; rfl
  have HE:=Lib.hid e
  rw [← ht] at hc
  have s1:=adds sg ⟨#[40]⟩ (by omega) (by decide)
  have s2:=adds (sg ++ ⟨#[40]⟩) t (by rw [ByteArray.size_append]; show sg.size + 1<=_; omega) (by omega)
  have s3:=adds ((sg ++ ⟨#[40]⟩) ++ t) ⟨#[41]⟩ (by rw [ByteArray.size_append,ByteArray.size_append]; show sg.size + 1 + t.size<=_; omega) (by decide)
  have HC:=Lib.hid hc
  have HT:=Lib.hid htl
  clear hc ht htl e o1 o2 hw2 hpos o6 hts hss
  go_wp2_with fail
  go_region_held3 (fun w' => w'.cell? ⟨B,5,none⟩=some (.slice A l.length c)/\w'.cell? ⟨C,0,none⟩=some (.string sg)) (first | exact ⟨m5,n0⟩ | exact ⟨q5,q6⟩)
   (first | (go_at_call 89; (with_reducible refine (HC.out _ ?_).mono ?_); exact b_drew (Below.refl _ _); rintro e w5 ⟨rfl,hb5⟩; have q5:=((bcell hb5).1 B 5 hB).trans m5; have q6:=((bcell hb5).1 C 0 hC).trans n0))
  go_wp2_with fail
  go_ret
  exact ⟨str_inj (by rw [HE.out,← HT.out,← HSg.out]; simp [ByteArray.data_append]),hbw.trans ((b_undrew hb5).mono hbw.size)⟩
 have t3:(q == 6)=false:=beq_eq_false_iff_ne.2 o6
 have hal:0 < l.length/\l.length<=2/\(q ≠ 5->1 < l.length)/\(d'.op=4->q=5):=by
  have h1:=HP.out.1
  have h2:=HQ.out
  rw [h1]
  have:∀ k:Nat,k < 19->precF (k:Int)=6 ∨ (0 < arity (k:Int)/\arity (k:Int)<=2/\(precF (k:Int) ≠ 5->1 < arity (k:Int))/\((k:Int)=4->precF (k:Int)=5)) ∨ k=0:=by decide
  obtain ⟨k,hk⟩:∃ k:Nat,d'.op=k:=⟨d'.op.toNat,by omega⟩
  rw [hk] at h2 p1 ⊢
  rcases this k (by omega) with h | h | h
  ·omega
  ·rw [h2] at h; exact h
  ·omega
 obtain ⟨l0,l2,l1,l4⟩:=hal
 obtain ⟨a,e0,B0,k0,c0,hA,hat,his0⟩:=HI.out 0 l0
 subst hA
 obtain ⟨f0,f1,f2,f3,f4,f5⟩:=hat.below hbw
 rw [Nat.zero_mul,show a.add 0=a from rfl] at f0 f1 f2 f3 f4 f5
 have hab:a.block < wc.heap.size:=by have:=cell_lt' f5; simpa [Addr.add] using this
 have hsx0:=HSz.out _ (List.getElem_mem l0)
 have hok0:=okN_op (HL.out _ (List.getElem_mem l0))
 have hcO:=fun (p:Int) W (hb:Below wc.heap.size wc W) => operand_any l[0] (HPr.out _ (List.getElem_mem l0)) hok0 (by omega) p e0 B0 k0 c0 W (his0.below (hbw.trans (hb.mono hbw.size))) (hw2 W hb).2
 have hbr:∀ (p:Int) (x:Int × List UInt8),(br p x).length<=x.2.length + 2:=fun p x => by unfold br; split <;> simp
 by_cases o5:q=5
 ·have t5:(q == 5)=true:=beq_iff_eq.2 o5
  obtain ⟨t,ht⟩:∃ t:ByteArray,t=⟨(br 5 (l[0].d.op,Ex.txt l[0])).toArray⟩:=⟨_,rfl⟩
  have htl:t.data.toList=br 5 (arg (txtL l) 0):=by rw [ht,txtL_at l 0 l0]
  have hts:t.size<=10000:=by
   show t.data.toList.length<=_
   have:=hbr 5 (arg (txtL l) 0); rw [htl]; rw [txtL_at l 0 l0] at this ⊢; dsimp only at this; omega
  have hc:=hcO 5
  rw [← ht] at hc
  have HC:=Lib.hid hc
  have HT:=Lib.hid htl
  have hnn:l.length ≠ 0:=by omega
  have i4:(0:Int) < (l.length:Int):=by omega
  by_cases o4:d'.op=4
  ·have t4:(d'.op == 4)=true:=beq_iff_eq.2 o4
   have e:r=signF d'.op ++ (32 :: br 5 (arg (txtL l) 0)):=by
    rw [← HR.out]; unfold txtF; rw [if_neg o1,if_neg o2,if_neg (by rw [HQ.out]; exact o6),if_pos o4]
   have HE:=Lib.hid e
   have s1:=adds sg ⟨#[32]⟩ (by omega) (by decide)
   have s2:=adds (sg ++ ⟨#[32]⟩) t (by rw [ByteArray.size_append]; show sg.size + 1<=_; omega) (by omega)
   clear hc ht htl e hcO hbr o1 o2 o4 o5 o6 l1 l2 l4 hw2 hts hss hat his0 hsx0 hok0
   go_wp2_with fail
   go_region_held3 (fun w' => w'.cell? ⟨B,5,none⟩=some (.slice (some a) l.length c)/\w'.cell? ⟨C,0,none⟩=some (.string sg)/\w'.cell? a=some (.int .i64 e0.op)/\w'.cell? ⟨a.block,a.off + 1,none⟩=some (.int .i64 e0.k)/\w'.cell? ⟨a.block,a.off + 2,none⟩=some (.int .i64 e0.n)/\w'.cell? ⟨a.block,a.off + 3,none⟩=some (.string e0.s)/\w'.cell? ⟨a.block,a.off + 4,none⟩=some (.string e0.nm)/\w'.cell? ⟨a.block,a.off + 5,none⟩=some (.slice B0 k0 c0)) (exact ⟨m5,n0,f0,f1,f2,f3,f4,f5⟩)
    (first | (go_at_call 90; (with_reducible refine (HC.out _ ?_).mono ?_); exact b_drew (Below.refl _ _); rintro e w5 ⟨rfl,hb5⟩; have m5:=((bcell hb5).1 B 5 hB).trans m5; have n0:=((bcell hb5).1 C 0 hC).trans n0; have f0:=(hb5.cell (p:=a) hab).trans f0; have f1:=((bcell hb5).1 _ _ hab).trans f1; have f2:=((bcell hb5).1 _ _ hab).trans f2; have f3:=((bcell hb5).1 _ _ hab).trans f3; have f4:=((bcell hb5).1 _ _ hab).trans f4; have f5:=((bcell hb5).1 _ _ hab).trans f5))
   go_wp2_with fail
   go_ret
   exact ⟨str_inj (by rw [HE.out,← HT.out,← HSg.out]; simp [ByteArray.data_append]),hbw.trans ((b_undrew hb5).mono hbw.size)⟩
  ·have t4:(d'.op == 4)=false:=beq_eq_false_iff_ne.2 o4
   have e:r=signF d'.op ++ br 5 (arg (txtL l) 0):=by
    rw [← HR.out]; unfold txtF; rw [if_neg o1,if_neg o2,if_neg (by rw [HQ.out]; exact o6),if_neg o4,if_pos (by rw [HQ.out]; exact o5)]
   have HE:=Lib.hid e
   have s1:=adds sg t (by omega) (by omega)
   clear hc ht htl e hcO hbr o1 o2 o4 o5 o6 l1 l2 l4 hw2 hts hss hat his0 hsx0 hok0
   go_wp2_with fail
   go_region_held3 (fun w' => w'.cell? ⟨B,5,none⟩=some (.slice (some a) l.length c)/\w'.cell? ⟨C,0,none⟩=some (.string sg)/\w'.cell? a=some (.int .i64 e0.op)/\w'.cell? ⟨a.block,a.off + 1,none⟩=some (.int .i64 e0.k)/\w'.cell? ⟨a.block,a.off + 2,none⟩=some (.int .i64 e0.n)/\w'.cell? ⟨a.block,a.off + 3,none⟩=some (.string e0.s)/\w'.cell? ⟨a.block,a.off + 4,none⟩=some (.string e0.nm)/\w'.cell? ⟨a.block,a.off + 5,none⟩=some (.slice B0 k0 c0)) (exact ⟨m5,n0,f0,f1,f2,f3,f4,f5⟩)
    (first | (go_at_call 90; (with_reducible refine (HC.out _ ?_).mono ?_); exact b_drew (Below.refl _ _); rintro e w5 ⟨rfl,hb5⟩; have m5:=((bcell hb5).1 B 5 hB).trans m5; have n0:=((bcell hb5).1 C 0 hC).trans n0; have f0:=(hb5.cell (p:=a) hab).trans f0; have f1:=((bcell hb5).1 _ _ hab).trans f1; have f2:=((bcell hb5).1 _ _ hab).trans f2; have f3:=((bcell hb5).1 _ _ hab).trans f3; have f4:=((bcell hb5).1 _ _ hab).trans f4; have f5:=((bcell hb5).1 _ _ hab).trans f5))
   go_wp2_with fail
   go_ret
   exact ⟨str_inj (by rw [HE.out,← HT.out,← HSg.out]; simp [ByteArray.data_append]),hbw.trans ((b_undrew hb5).mono hbw.size)⟩
 have t5:(q == 5)=false:=beq_eq_false_iff_ne.2 o5
 have o4:d'.op ≠ 4:=fun h => o5 (l4 h)
 have t4:(d'.op == 4)=false:=beq_eq_false_iff_ne.2 o4
 have l1':=l1 o5
 obtain ⟨a',e1,B1,k1,c1,hA1,hat1,his1⟩:=HI.out 1 l1'
 obtain rfl:a=a':=by injection hA1
 obtain ⟨g0,g1,g2,g3,g4,g5⟩:=hat1.below hbw
 rw [Nat.one_mul] at g0 g1 g2 g3 g4 g5
 have hsx1:=HSz.out _ (List.getElem_mem l1')
 have hok1:=okN_op (HL.out _ (List.getElem_mem l1'))
 have hcP:=fun (p:Int) W (hb:Below wc.heap.size wc W) => operand_any l[1] (HPr.out _ (List.getElem_mem l1')) hok1 (by omega) p e1 B1 k1 c1 W (his1.below (hbw.trans (hb.mono hbw.size))) (hw2 W hb).2
 obtain ⟨pl,hpl⟩:∃ p,(if q=2 then q + 1 else q)=p:=⟨_,rfl⟩
 have hcL:=fun W => left_any sg q ar W qb0 qb1
 rw [hpl] at hcL
 obtain ⟨t,ht⟩:∃ t:ByteArray,t=⟨(br pl (l[0].d.op,Ex.txt l[0])).toArray⟩:=⟨_,rfl⟩
 have htl:t.data.toList=br (leftF d'.op) (arg (txtL l) 0):=by rw [ht,txtL_at l 0 l0]; unfold leftF; rw [HQ.out,hpl]
 have hts:t.size<=10000:=by
  show t.data.toList.length<=_
  rw [ht]; show (br pl (l[0].d.op,Ex.txt l[0])).length<=_
  have:=hbr pl (l[0].d.op,Ex.txt l[0]); dsimp only at this; omega
 obtain ⟨u,hu⟩:∃ t:ByteArray,t=⟨(br (q + 1) (l[1].d.op,Ex.txt l[1])).toArray⟩:=⟨_,rfl⟩
 have hul:u.data.toList=br (precF d'.op + 1) (arg (txtL l) 1):=by rw [hu,txtL_at l 1 l1',HQ.out]
 have hus:u.size<=10000:=by
  show u.data.toList.length<=_
  rw [hu]; show (br (q + 1) (l[1].d.op,Ex.txt l[1])).length<=_
  have:=hbr (q + 1) (l[1].d.op,Ex.txt l[1]); dsimp only at this; omega
 have hc:=hcO pl
 rw [← ht] at hc
 have hd:=hcP (q + 1)
 rw [← hu] at hd
 have e:r=br (leftF d'.op) (arg (txtL l) 0) ++ (32 :: (signF d'.op ++ (32 :: br (precF d'.op + 1) (arg (txtL l) 1)))):=by
  rw [← HR.out]; unfold txtF; rw [if_neg o1,if_neg o2,if_neg (by rw [HQ.out]; exact o6),if_neg o4,if_neg (by rw [HQ.out]; exact o5)]
 have HE:=Lib.hid e
 have HC:=Lib.hid hc
 have HD:=Lib.hid hd
 have HLp:=Lib.hid hcL
 have HT:=Lib.hid htl
 have HU:=Lib.hid hul
 have i4:(0:Int) < (l.length:Int):=by omega
 have i5:(1:Int) < (l.length:Int):=by omega
 have s1:=adds t ⟨#[32]⟩ (by omega) (by decide)
 have s2:=adds (t ++ ⟨#[32]⟩) sg (by rw [ByteArray.size_append]; show t.size + 1<=_; omega) (by omega)
 have s3:=adds (t ++ ⟨#[32]⟩ ++ sg) ⟨#[32]⟩ (by rw [ByteArray.size_append,ByteArray.size_append]; show t.size + 1 + sg.size<=_; omega) (by decide)
 have s4:=adds (t ++ ⟨#[32]⟩ ++ sg ++ ⟨#[32]⟩) u (by rw [ByteArray.size_append,ByteArray.size_append,ByteArray.size_append]; show t.size + 1 + sg.size + 1<=_; omega) (by omega)
 have hwq:IntKind.i64.wrap (q + 1)=q + 1:=IntWalk.i64_in _ (by omega)
 have HCells:=Lib.hid (show ∀ w',Below wc.heap.size wc w'->w'.cell? ⟨B,5,none⟩=some (.slice (some a) l.length c)/\w'.cell? ⟨C,0,none⟩=some (.string sg)/\w'.cell? ⟨C,1,none⟩=some (.int .i64 q)/\w'.cell? ⟨C,2,none⟩=some (.int .i64 ar)/\w'.cell? a=some (.int .i64 e0.op)/\w'.cell? ⟨a.block,a.off + 1,none⟩=some (.int .i64 e0.k)/\w'.cell? ⟨a.block,a.off + 2,none⟩=some (.int .i64 e0.n)/\w'.cell? ⟨a.block,a.off + 3,none⟩=some (.string e0.s)/\w'.cell? ⟨a.block,a.off + 4,none⟩=some (.string e0.nm)/\w'.cell? ⟨a.block,a.off + 5,none⟩=some (.slice B0 k0 c0)/\w'.cell? ⟨a.block,a.off + 6,none⟩=some (.int .i64 e1.op)/\w'.cell? ⟨a.block,a.off + 6 + 1,none⟩=some (.int .i64 e1.k)/\w'.cell? ⟨a.block,a.off + 6 + 2,none⟩=some (.int .i64 e1.n)/\w'.cell? ⟨a.block,a.off + 6 + 3,none⟩=some (.string e1.s)/\w'.cell? ⟨a.block,a.off + 6 + 4,none⟩=some (.string e1.nm)/\w'.cell? ⟨a.block,a.off + 6 + 5,none⟩=some (.slice B1 k1 c1) from fun w' h => ⟨((bcell h).1 B 5 hB).trans m5,((bcell h).1 C 0 hC).trans n0,((bcell h).1 C 1 hC).trans n1,((bcell h).1 C 2 hC).trans n2,(h.cell (p:=a) hab).trans f0,((bcell h).1 _ _ hab).trans f1,((bcell h).1 _ _ hab).trans f2,((bcell h).1 _ _ hab).trans f3,((bcell h).1 _ _ hab).trans f4,((bcell h).1 _ _ hab).trans f5,(h.cell (p:=a.add 6) hab).trans g0,((bcell h).1 _ _ hab).trans g1,((bcell h).1 _ _ hab).trans g2,((bcell h).1 _ _ hab).trans g3,((bcell h).1 _ _ hab).trans g4,((bcell h).1 _ _ hab).trans g5⟩)
 have hbl:Below wc.heap.size wc wc:=Below.refl _ _
 clear hc hd ht hu htl hul hpl hcL e hcO hcP hbr o1 o2 o4 o5 o6 l1 l1' l2 l4 hw2 hts hus hss hat his0 hat1 his1 hA1 hsx0 hok0 hsx1 hok1 qb0 qb1
 go_wp2_with fail
 go_region_held3 (fun w' => w'.cell? ⟨B,5,none⟩=some (.slice (some a) l.length c)/\w'.cell? ⟨C,0,none⟩=some (.string sg)/\w'.cell? ⟨C,1,none⟩=some (.int .i64 q)/\w'.cell? ⟨C,2,none⟩=some (.int .i64 ar)/\w'.cell? a=some (.int .i64 e0.op)/\w'.cell? ⟨a.block,a.off + 1,none⟩=some (.int .i64 e0.k)/\w'.cell? ⟨a.block,a.off + 2,none⟩=some (.int .i64 e0.n)/\w'.cell? ⟨a.block,a.off + 3,none⟩=some (.string e0.s)/\w'.cell? ⟨a.block,a.off + 4,none⟩=some (.string e0.nm)/\w'.cell? ⟨a.block,a.off + 5,none⟩=some (.slice B0 k0 c0)/\w'.cell? ⟨a.block,a.off + 6,none⟩=some (.int .i64 e1.op)/\w'.cell? ⟨a.block,a.off + 6 + 1,none⟩=some (.int .i64 e1.k)/\w'.cell? ⟨a.block,a.off + 6 + 2,none⟩=some (.int .i64 e1.n)/\w'.cell? ⟨a.block,a.off + 6 + 3,none⟩=some (.string e1.s)/\w'.cell? ⟨a.block,a.off + 6 + 4,none⟩=some (.string e1.nm)/\w'.cell? ⟨a.block,a.off + 6 + 5,none⟩=some (.slice B1 k1 c1)) (first | exact HCells.out _ hbl | exact HCells.out _ (b_drew hbl))
  (first | (go_at_call 91; (with_reducible refine (HLp.out _).mono ?_); rintro e w3 ⟨rfl,hb3⟩; have hbl:Below wc.heap.size wc w3:=(by (first | (exact b_step hbl hb3) | (exact b_step (b_drew hbl) hb3)))) | (go_at_call 90; (with_reducible refine (HC.out _ ?_).mono ?_); (first | exact hbl | exact b_drew hbl); rintro e w4 ⟨rfl,hb4⟩; have hbl:Below wc.heap.size wc w4:=(by (first | (exact b_step hbl hb4) | (exact b_step (b_drew hbl) hb4)))) | (go_at_call 90; (with_reducible refine (HD.out _ ?_).mono ?_); (first | exact hbl | exact b_drew hbl); rintro e w5 ⟨rfl,hb5⟩; have hbl:Below wc.heap.size wc w5:=(by (first | (exact b_step hbl hb5) | (exact b_step (b_drew hbl) hb5)))))
 go_wp2_with fail
 go_ret
 exact ⟨str_inj (by rw [HE.out,← HT.out,← HU.out,← HSg.out]; simp [ByteArray.data_append]),hbw.trans (hbl.mono hbw.size)⟩
end Prn
namespace ShowRef
open Go.RowKit
open NumM ValM ShowM Kit Show
set_option linter.unusedVariables false
structure TInv (s:ByteArray) (k:Nat) (t:ByteArray):Prop where
 le:k<=s.size
 is:t.data.toList=34 :: escL (s.data.toList.take k)
theorem TInv.size {s t:ByteArray} {k:Nat} (h:TInv s k t) (hs:s.size<=1000):t.size<=2001:=by
 have:=len_take s k hs
 rw [Lib.byteCells_length,← h.is,len_size] at this
 exact this
end ShowRef
namespace PrT
open Go.RowKit
open ValM LexM ExM ShowM PrM Kit ExL ExN ExV GenL Prn
set_option linter.unusedVariables false
set_option maxHeartbeats 2000000 in
theorem print_any (x:Ex) (d:Nd) (A:Option Addr) (n c:Nat) (w:World) (his:Is w x d A n) (hv:Vars w) :
  Calls Tryz.prog 29 #[.agg #[.int .i64 d.op,.int .i64 d.k,.int .i64 d.n,.string d.s,.string d.nm,.slice A n c]] w fun e w' => e=.returned (.tuple #[.string ⟨(if x.checkE=0 then Ex.txt x else []).toArray⟩,.int .i64 x.checkE])/\Below w.heap.size w w':=by
 obtain ⟨R,hR⟩:∃ R,x.checkE=R:=⟨_,rfl⟩
 rw [hR]
 have hc:=fun W (hb:Below w.heap.size w W) => ExC.check_any x d A n c W (his.below hb) (hv.below hb).tab
 rw [hR] at hc
 have HC:=Lib.hid hc
 clear hc
 by_cases h0:R=0
 ·subst h0
  obtain ⟨q1,q2,q3⟩:=checkE_zero hR
  have hp:=fun W (hb:Below w.heap.size w W) => printed_any x q3 q1 d A n c W (his.below hb) (hv.below hb)
  obtain ⟨t,ht⟩:∃ t:ByteArray,t=⟨(Ex.txt x).toArray⟩:=⟨_,rfl⟩
  rw [← ht] at hp
  rw [if_pos rfl,← ht]
  have HP:=Lib.hid hp
  clear hp ht hR his hv q1 q2 q3
  go_enter Tryz.func29,Tryz.ntmps29
  go_wp2_with fail
  refine (HC.out _ (b_new _ _)).mono ?_; rintro e w1 ⟨rfl,hb1⟩
  obtain ⟨c1,d1⟩:=bcell hb1
  go_wp2_with fail
  refine (HP.out _ (b_then hb1)).mono ?_; rintro e w2 ⟨rfl,hb2⟩
  go_wp2_with fail
  go_ret2
  exact ⟨rfl,(b_then hb1).trans (hb2.mono (b_then hb1).size)⟩
 ·rw [if_neg h0]
  have t1:(R == 0)=false:=beq_eq_false_iff_ne.2 h0
  clear hR h0 his hv
  go_enter Tryz.func29,Tryz.ntmps29
  go_wp2_with fail
  refine (HC.out _ (b_new _ _)).mono ?_; rintro e w1 ⟨rfl,hb1⟩
  go_wp2_with fail
  go_ret2
  exact ⟨rfl,b_then hb1⟩
end PrT
namespace TxP
open ValM LexM ExM ShowM PrM TxM TxR
set_option linter.unusedVariables false
theorem cut_spec (l sep:List UInt8) (hs:sep ≠ []):(Lib.index l sep=-1/\cutO l sep=none) ∨ ∃ (i:Nat),Lib.index l sep=i/\i + sep.length<=l.length/\l=l.take i ++ (sep ++ l.drop (i + sep.length))/\cutO l sep=some (l.take i,l.drop (i + sep.length))/\Lib.NoOcc l sep i:=by
 rcases Lib.index_spec l sep with ⟨h,_⟩ | ⟨i,h,hi,ho,hn⟩
 ·exact .inl ⟨h,cut_no h⟩
 ·refine .inr ⟨i,h,?_,?_,?_,hn⟩
  ·rcases Lib.occAt_room ho with h1 | h1
   ·exact h1
   ·exact absurd h1 hs
  ·have:sep <+: l.drop i:=List.isPrefixOf_iff_prefix.1 ho
   obtain ⟨r,hr⟩:=this
   have e:l.drop (i + sep.length)=r:=by rw [← List.drop_drop,← hr,List.drop_left]
   rw [e,hr,List.take_append_drop]
  ·unfold cutO
   rw [if_neg (by rw [h]; omega),h]
   rfl
theorem cut_join {l sep a r:List UInt8} (hs:sep ≠ []) (h:cutO l sep=some (a,r)):l=a ++ (sep ++ r)/\r.length < l.length:=by
 rcases cut_spec l sep hs with ⟨_,e⟩ | ⟨i,h1,h2,h3,h4,_⟩
 ·rw [e] at h; cases h
 ·rw [h4] at h
  injection h with h
  injection h with ha hr
  subst ha hr
  refine ⟨h3,?_⟩
  have:=List.length_pos_iff.2 hs
  rw [List.length_drop]
  omega
theorem cut_lib (l sep:List UInt8) (hs:sep ≠ []):Lib.cut l sep=match cutO l sep with | none => (l,[],false) | some (a,r) => (a,r,true):=by
 unfold Lib.cut
 rcases cut_spec l sep hs with ⟨h,e⟩ | ⟨i,h1,h2,h3,h4,_⟩
 ·rw [if_neg (by rw [h]; decide),e]
 ·rw [if_pos (by rw [h1]; omega),h4,h1]
  rfl
theorem split_cut (l sep:List UInt8) (hs:sep ≠ []):Lib.split l sep=match cutO l sep with | none => [l] | some (a,r) => a :: Lib.split r sep:=by
 rcases cut_spec l sep hs with ⟨h,e⟩ | ⟨i,h1,h2,h3,h4,_⟩
 ·rw [e]
  unfold Lib.split
  rw [Lib.count_miss h]
  rfl
 ·rw [h4]
  unfold Lib.split
  rw [Lib.count_hit hs h1,Nat.add_comm 1,Lib.splitK,if_neg (by rw [h1]; simp),h1]
  rfl
theorem splitK_step (l sep:List UInt8) (k:Nat) (hs:sep ≠ []):Lib.splitK sep 0 (k + 1) l=match cutO l sep with | none => [l] | some (a,r) => a :: Lib.splitK sep 0 k r:=by
 rcases cut_spec l sep hs with ⟨h,e⟩ | ⟨i,h1,h2,h3,h4,_⟩
 ·rw [e,Lib.splitK,if_pos (by rw [h]; rfl)]
 ·rw [h4,Lib.splitK,if_neg (by rw [h1]; simp),h1]
  rfl
theorem splitK_len (sep:List UInt8) (hs:sep ≠ []):∀ (k:Nat) (l:List UInt8),(Lib.splitK sep 0 k l).length<=k + 1
 | 0,_ => Nat.le_refl _
 | k + 1,l => by
  rw [splitK_step l sep k hs]
  split
  ·simp
  ·rename_i a r _
   have:=splitK_len sep hs k r
   simp only [List.length_cons]; omega
theorem splitK_join (sep:List UInt8) (hs:sep ≠ []):∀ (k:Nat) (l:List UInt8),joinS sep (Lib.splitK sep 0 k l)=l
 | 0,_ => rfl
 | k + 1,l => by
  rw [splitK_step l sep k hs]
  split
  ·rfl
  ·rename_i a r h
   have ih:=splitK_join sep hs k r
   have hj:=(cut_join hs h).1
   cases hk:Lib.splitK sep 0 k r with
   | nil =>
    exfalso
    cases k with
    | zero => cases hk
    | succ k =>
     rw [splitK_step r sep k hs] at hk
     split at hk <;> cases hk
   | cons b q =>
    rw [hk] at ih
    show a ++ (sep ++ joinS sep (b :: q))=l
    rw [ih,← hj]
def inW:List UInt8:=[105,110,112,117,116]
def foW:List UInt8:=[102,111,114,109,117,108,97]
def loW:List UInt8:=[108,111,111,107,117,112]
def kdN:List (List UInt8):=[[],inW,foW,loW]
def tyN:List (List UInt8):=[[],[105,110,116],[98,111,111,108],[116,101,120,116]]
def wordOf (L:List (List UInt8)) (s:List UInt8):Int:=if L.getD 0 []=s then 0 else if L.getD 1 []=s then 1 else if L.getD 2 []=s then 2 else if L.getD 3 []=s then 3 else 0
theorem word_bd (L:List (List UInt8)) (s:List UInt8):0<=wordOf L s/\wordOf L s<=3:=by
 unfold wordOf
 repeat' split
 all_goals omega
theorem word_kd {s:List UInt8} (h:wordOf kdN s ≠ 0):kdW (wordOf kdN s)=s ++ [32]:=by
 unfold wordOf at h ⊢
 by_cases h0:kdN.getD 0 []=s
 ·rw [if_pos h0] at h; exact absurd rfl h
 ·rw [if_neg h0] at h ⊢
  by_cases h1:kdN.getD 1 []=s
  ·rw [if_pos h1,← h1]; rfl
  ·rw [if_neg h1] at h ⊢
   by_cases h2:kdN.getD 2 []=s
   ·rw [if_pos h2,← h2]; rfl
   ·rw [if_neg h2] at h ⊢
    by_cases h3:kdN.getD 3 []=s
    ·rw [if_pos h3,← h3]; rfl
    ·rw [if_neg h3] at h; exact absurd rfl h
theorem word_ty {s:List UInt8} (h:wordOf tyN s ≠ 0):tyW (wordOf tyN s)=32 :: s:=by
 unfold wordOf at h ⊢
 by_cases h0:tyN.getD 0 []=s
 ·rw [if_pos h0] at h; exact absurd rfl h
 ·rw [if_neg h0] at h ⊢
  by_cases h1:tyN.getD 1 []=s
  ·rw [if_pos h1,← h1]; rfl
  ·rw [if_neg h1] at h ⊢
   by_cases h2:tyN.getD 2 []=s
   ·rw [if_pos h2,← h2]; rfl
   ·rw [if_neg h2] at h ⊢
    by_cases h3:tyN.getD 3 []=s
    ·rw [if_pos h3,← h3]; rfl
    ·rw [if_neg h3] at h; exact absurd rfl h
theorem three_of {a b c:List UInt8} (ha:(32:UInt8) ∉ a) (hb:(32:UInt8) ∉ b):Lib.splitN (a ++ ([32] ++ (b ++ ([32] ++ c)))) [32] 3=[a,b,c]:=by
 unfold Lib.splitN
 have e:min 3 ((a ++ ([32] ++ (b ++ ([32] ++ c)))).length + 1) - 1=2:=by
  simp only [List.length_append,List.length_cons,List.length_nil]
  omega
 rw [e,splitK_step _ _ _ (by simp),cut_at (index_piece (c:=32) (t:=[]) rfl ha)]
 simp only
 rw [splitK_step _ _ _ (by simp),cut_at (index_piece (c:=32) (t:=[]) rfl hb)]
 rfl
theorem three_inv {h a b c:List UInt8} (e:Lib.splitN h [32] 3=[a,b,c]):h=a ++ ([32] ++ (b ++ ([32] ++ c))):=by
 have:=splitK_join [32] (by simp) (min 3 (h.length + 1) - 1) h
 unfold Lib.splitN at e
 rw [e] at this
 exact this.symm
theorem three_len (h:List UInt8):(Lib.splitN h [32] 3).length<=3:=by
 unfold Lib.splitN
 have:=splitK_len [32] (by simp) (min 3 (h.length + 1) - 1) h
 omega
theorem three_cases (h:List UInt8):(Lib.splitN h [32] 3).length < 3 ∨ ∃ a b c,Lib.splitN h [32] 3=[a,b,c]:=by
 have:=three_len h
 match hh:Lib.splitN h [32] 3,this with
 | [],_ => exact .inl (by simp)
 | [a],_ => exact .inl (by simp)
 | [a,b],_ => exact .inl (by simp)
 | [a,b,c],_ => exact .inr ⟨a,b,c,rfl⟩
 | _ :: _ :: _ :: _ :: _,h => simp at h
theorem head_some {h:List UInt8} {p:Int × Int} (hp:headO h=some p):h=kdW p.1 ++ (midL h p ++ tyW p.2)/\(1<=p.1/\p.1<=3)/\1<=p.2/\p.2<=3:=by
 unfold headO at hp
 have h1:=List.find?_some hp
 have h2:=List.mem_of_find?_eq_some hp
 unfold isHd at h1
 simp only [Bool.and_eq_true,decide_eq_true_eq] at h1
 obtain ⟨⟨ha,hb⟩,hl⟩:=h1
 refine ⟨?_,?_⟩
 ·obtain ⟨r,hr⟩:=pre_iff.1 ha
  obtain ⟨q,hq⟩:=suf_iff.1 hb
  have hlq:(kdW p.1).length<=q.length:=by
   have:=congrArg List.length hq
   rw [List.length_append] at this
   omega
  have e1:h.take (h.length - (tyW p.2).length)=q:=by
   rw [← hq,List.length_append,Nat.add_sub_cancel,List.take_left]
  unfold midL
  rw [e1]
  have e2:q.take (kdW p.1).length=kdW p.1:=by
   have h5:=congrArg (List.take (kdW p.1).length) (hq.trans hr.symm)
   rw [List.take_append_of_le_length hlq,List.take_left] at h5
   exact h5
  have e3:kdW p.1 ++ q.drop (kdW p.1).length=q:=by
   conv => lhs; rw [← e2]
   rw [e2]
   have:=List.take_append_drop (kdW p.1).length q
   rw [e2] at this
   exact this
  rw [← List.append_assoc,e3,hq]
 ·unfold kts at h2
  simp only [List.mem_cons,List.not_mem_nil,or_false] at h2
  rcases h2 with rfl | rfl | rfl | rfl | rfl | rfl | rfl | rfl | rfl <;> decide
theorem kd_word {k:Int} (h:1<=k/\k<=3):∃ a,kdW k=a ++ [32]/\(32:UInt8) ∉ a/\wordOf kdN a=k:=by
 rcases kt_cases h with rfl | rfl | rfl
 ·exact ⟨inW,rfl,by decide,by decide⟩
 ·exact ⟨foW,rfl,by decide,by decide⟩
 ·exact ⟨loW,rfl,by decide,by decide⟩
theorem ty_word {t:Int} (h:1<=t/\t<=3):∃ a,tyW t=32 :: a/\wordOf tyN a=t:=by
 rcases kt_cases h with rfl | rfl | rfl
 ·exact ⟨[105,110,116],rfl,by decide⟩
 ·exact ⟨[98,111,111,108],rfl,by decide⟩
 ·exact ⟨[116,101,120,116],rfl,by decide⟩
theorem nm_no {l:List UInt8} (h:nmB l=true):(32:UInt8) ∉ l:=fun hm => (aln_not ((nmB_parts h).2.2 _ hm)).2.1 rfl
def fieldW (l:List UInt8):Ln :=
 match Lib.splitN (((cutO l eqW).map (·.1)).getD l) [32] 3 with
 | [a,b,c] => if wordOf kdN a ≠ 0/\wordOf tyN c ≠ 0/\nmB b=true/\(cutO l eqW).isSome=decide (wordOf kdN a ≠ 1) then .field b (wordOf kdN a) (wordOf tyN c) ((cutO l eqW).map (·.2)) else .bad false
 | _ => .bad false
theorem fieldW_eq {l:List UInt8} (hp:¬ Lib.hasPrefix l pgW=true):lineV l=fieldW l:=by
 unfold lineV fieldW
 rw [if_neg hp]
 generalize ((cutO l eqW).map (·.1)).getD l=h
 generalize cutO l eqW=o
 cases hh:headO h with
 | none =>
  simp only
  rcases three_cases h with h3 | ⟨a,b,c,h3⟩
  ·match hw:Lib.splitN h [32] 3,h3 with
   | [],_ => rfl
   | [a],_ => rfl
   | [a,b],_ => rfl
  ·rw [h3]
   simp only
   by_cases hc:wordOf kdN a ≠ 0/\wordOf tyN c ≠ 0/\nmB b=true/\o.isSome=decide (wordOf kdN a ≠ 1)
   ·exfalso
    obtain ⟨c1,c2,c3,_⟩:=hc
    have e:=three_inv h3
    have b1:=word_bd kdN a
    have b2:=word_bd tyN c
    have:=(head_of (nm:=b) (k:=wordOf kdN a) (t:=wordOf tyN c) (nmB_parts c3).1 ⟨by omega,b1.2⟩ ⟨by omega,b2.2⟩).1
    rw [word_kd c1,word_ty c2] at this
    rw [show (a ++ [32]) ++ (b ++ 32 :: c)=h from by rw [e]; simp] at this
    rw [hh] at this; cases this
   ·rw [if_neg hc]
 | some p =>
  simp only
  obtain ⟨e,p1,p2⟩:=head_some hh
  by_cases hn:nmB (midL h p)=true
  ·obtain ⟨a,ea,na,wa⟩:=kd_word p1
   obtain ⟨c,ec,wc⟩:=ty_word p2
   have h3:Lib.splitN h [32] 3=[a,midL h p,c]:=by
    conv => lhs; rw [e,ea,ec]
    have:=three_of (c:=c) na (nm_no hn)
    rw [← this]
    simp
   rw [h3]
   simp only [wa,wc]
   have hk:(1 < p.1)=(p.1 ≠ 1):=by
    have:=p1.1
    apply propext
    constructor <;> intro h <;> omega
   have hd:decide (1 < p.1)=decide (p.1 ≠ 1):=by simp only [hk]
   rw [hd]
   by_cases hs:o.isSome=decide (p.1 ≠ 1)
   ·rw [if_pos ⟨hn,hs⟩,if_pos ⟨by omega,by omega,hn,hs⟩]
   ·rw [if_neg (fun q => hs q.2),if_neg (fun q => hs q.2.2.2)]
  ·rw [if_neg (fun q => hn q.1)]
   rcases three_cases h with h3 | ⟨a,b,c,h3⟩
   ·match hw:Lib.splitN h [32] 3,h3 with
    | [],_ => rfl
    | [a],_ => rfl
    | [a,b],_ => rfl
   ·rw [h3]
    simp only
    by_cases hc:wordOf kdN a ≠ 0/\wordOf tyN c ≠ 0/\nmB b=true/\o.isSome=decide (wordOf kdN a ≠ 1)
    ·exfalso
     obtain ⟨c1,c2,c3,_⟩:=hc
     have e:=three_inv h3
     have b1:=word_bd kdN a
     have b2:=word_bd tyN c
     have:=head_of (nm:=b) (k:=wordOf kdN a) (t:=wordOf tyN c) (nmB_parts c3).1 ⟨by omega,b1.2⟩ ⟨by omega,b2.2⟩
     rw [word_kd c1,word_ty c2] at this
     rw [show (a ++ [32]) ++ (b ++ 32 :: c)=h from by rw [e]; simp] at this
     rw [hh] at this
     obtain ⟨q1,q2⟩:=this
     injection q1 with q1
     rw [← q1] at q2
     rw [q2] at hn
     exact hn c3
    ·rw [if_neg hc]
def namesR (l:List UInt8):Option (List (List UInt8)):=if l=[] then some [] else if (Lib.split l cmW).all nmB=true then some (Lib.split l cmW) else none
def pageW (l:List UInt8):Ln :=
 match cutO l coW with
 | none => .bad true
 | some (nm,r) =>
  if nmB nm=true then
   match namesR (((cutO r seW).map (·.1)).getD r) with
   | none => .bad true
   | some ns => .page nm ns ((cutO r seW).map (·.2))
  else .bad true
theorem pageW_eq {l:List UInt8} (hp:Lib.hasPrefix l pgW=true):lineV l=pageW (l.drop 5):=by
 unfold lineV pageW
 rw [if_pos hp]
 cases cutO (l.drop 5) coW with
 | none => rfl
 | some q =>
  obtain ⟨nm,r⟩:=q
  simp only
  by_cases hn:nmB nm=true
  ·rw [if_pos hn,if_pos hn]
   unfold namesR
   generalize ((cutO r seW).map (·.1)).getD r=t
   by_cases ht:t=[]
   ·rw [if_pos ht,if_pos ht]
    rfl
   ·rw [if_neg ht,if_neg ht]
    by_cases ha:(Lib.split t cmW).all nmB=true
    ·rw [if_pos ha,if_pos ha]
    ·rw [if_neg ha,if_neg ha]
  ·rw [if_neg hn,if_neg hn]
end TxP
namespace StrTab
open Go.ChangeShapes Go.WideShapes
def strData {H:Type} (zs:List (List UInt8)):DataW H:=.agg (zs.map fun l => .lit (.string l))
def Is (P:Program) (w:World) (name:String) (zs:List (List UInt8)):Prop:=w.var? P name=some (zs.map fun l => Value.string ⟨l.toArray⟩).toArray
theorem cells_of {H:Type} {enc:TypeId × Value->H} {P:Program} {w:World} {base:Nat} {sp:Nat->Bool} {held:Bool} {fuel:Nat} {t e:TypeId} {n:Nat} {cs:List Value} {zs:List (List UInt8)} {p:List MemPlace}
  (ht:P.underlying t=some (.array n e)) (he:P.underlying e=some .string) (hce:P.cellsOf e=1) (hct:P.cellsOf t=n)
  (h:DataW.trod enc P w base sp held fuel t cs=some (strData zs,p)):cs=zs.map fun l => Value.string ⟨l.toArray⟩:=by
 cases fuel with
 | zero => simp [DataW.trod] at h
 | succ fuel =>
  simp only [DataW.trod,ht,hce,hct,Nat.mul_one] at h
  split at h
  ·rename_i hl
   obtain ⟨xs,hm,hx⟩:=Option.map_eq_some_iff.1 h
   have hxs:xs.map (·.1)=zs.map fun l => (DataW.lit (.string l):DataW H):=by
    have:=congrArg Prod.fst hx
    simpa [strData] using this
   have hxl:xs.length=n:=by simpa using Lib.mapM_length hm
   have hzl:zs.length=n:=by
    have:=congrArg List.length hxs
    simp at this
    omega
   apply List.ext_getElem?
   intro i
   by_cases hi:i < n
   ·obtain ⟨b,hb,hf⟩:=Lib.mapM_at hm i i (by simp [hi])
    obtain ⟨z,hc,rfl,_⟩:=DataW.trod_string he hf
    have h1:cs[i]?=some (.string z):=by
     have:=congrArg (·[0]?) hc
     simpa [List.getElem?_take,List.getElem?_drop] using this
    have h2:(xs.map (·.1))[i]?=some (DataW.lit (.string z.data.toList):DataW H):=by simp [hb]
    rw [hxs] at h2
    simp only [List.getElem?_map,Option.map_eq_some_iff,DataW.lit.injEq,Lit.string.injEq] at h2
    obtain ⟨z',hz',hz2⟩:=h2
    simp [h1,hz',hz2]
   ·rw [List.getElem?_eq_none (by omega),List.getElem?_eq_none (by simp; omega)]
  ·cases h
theorem is_of_head {P:Program} {W:World} {name:String} {zs:List (List UInt8)} {rest:List (String × DataW Unit)} {g:Nat} {t e:TypeId} {n:Nat}
  (hg:P.globalNamed name=some g) (hty:(P.globals[g]?).map (·.type)=some t) (ht:P.underlying t=some (.array n e)) (he:P.underlying e=some .string) (hce:P.cellsOf e=1) (hct:P.cellsOf t=n)
  (h:laidMet P ((name,strData zs) :: rest) W):Is P W name zs:=by
 obtain ⟨ps,⟨g',t',cs,fuel,p,q,hg',ht',hvar,hd,_,_⟩,_⟩:=h
 obtain rfl:=Option.some.inj (hg.symm.trans hg')
 obtain rfl:=Option.some.inj (hty.symm.trans ht')
 unfold Is
 rw [hvar,← cells_of ht he hce hct hd]
theorem Is.cell {P:Program} {W:World} {name:String} {zs:List (List UInt8)} {g:Nat} (h:Is P W name zs) (hg:P.globalNamed name=some g) (i:Nat) (hi:i < zs.length) :
  W.cell? ⟨g,i,none⟩=some (.string ⟨(zs.getD i []).toArray⟩):=by
 have:=World.var?_cell hg h i
 simpa [List.getD,hi] using this
end StrTab
namespace LexT
open Go.RowKit
open LexM LexB Kit
set_option linter.unusedVariables false
def sgnL:List (List UInt8):=[[60,61],[33,61],[60],[61],[43],[45],[42],[47],[37],[38],[40],[41],[44]]
structure Vars (w:World):Prop where
 syn : ∃ p, w.var? Tryz.prog "strconv.ErrSyntax" = some #[.iface 265 p]
 ran : ∃ p, w.var? Tryz.prog "strconv.ErrRange" = some #[.iface 265 p]
 sgn : StrTab.Is Tryz.prog w "lychway/lex.signs" sgnL
theorem var_below {w w':World} {n:String} {cs:Array Value} (h:w.var? Tryz.prog n=some cs) (hb:Below w.heap.size w w'):w'.var? Tryz.prog n=some cs:=by
 have hg:∃ g,Tryz.prog.globalNamed n=some g/\g < w.heap.size:=by
  unfold World.var? at h
  cases hg:Tryz.prog.globalNamed n with
  | none => simp [hg] at h
  | some g =>
   refine ⟨g,rfl,?_⟩
   rcases Nat.lt_or_ge g w.heap.size with hl | hl
   ·exact hl
   ·simp [hg,Array.getElem?_eq_none hl] at h
 obtain ⟨g,hg,hl⟩:=hg
 exact var?_below hb hg hl h
theorem Vars.below {w w':World} (h:Vars w) (hb:Below w.heap.size w w'):Vars w':=by
 obtain ⟨p,hp⟩:=h.syn
 obtain ⟨q,hq⟩:=h.ran
 exact ⟨⟨p,var_below hp hb⟩,⟨q,var_below hq hb⟩,var_below h.sgn hb⟩
def Tells (f:Fst) (l:List UInt8) (k vk n e:Int) (u t:ByteArray):Prop :=
 match f with
 | .bad q => e=q/\q ≠ 0
 | .tok T => e=0/\T.kind=k/\u.data.toList=l.take T.len/\T.vk=vk/\T.n=n/\t.data.toList=T.t
theorem b_set6 {w w1:World} (h:Below w.heap.size w w1) (b:Nat) (hb:w.heap.size<=b) (x y z x' y' z':Value):Below w.heap.size w ((((((w1.setCell ⟨b,0,none⟩ x).setCell ⟨b,1,none⟩ y).setCell ⟨b,2,none⟩ z).setCell ⟨b,3,none⟩ x').setCell ⟨b,4,none⟩ y').setCell ⟨b,5,none⟩ z') :=
 (((b_set3 h b hb x y z).setCell (p:=⟨b,3,none⟩) hb _).setCell (p:=⟨b,4,none⟩) hb _).setCell (p:=⟨b,5,none⟩) hb _
theorem dig_pre (s:ByteArray):(s.extract 0 (tw digB s)).data.toList=s.data.toList.takeWhile digB:=by
 have e:(s.extract 0 (tw digB s)).data.toList=s.data.toList.take (tw digB s):=by simp [ByteArray.data_extract]
 rw [e]; exact LexM.take_tw digB _
theorem tw_pos (p:UInt8->Bool) (s:ByteArray) (h0:0 < s.size) (hd:p s[0]=true):0 < tw p s:=by
 obtain ⟨r,hr⟩:=head_of s h0
 unfold tw; rw [hr,List.takeWhile_cons,if_pos hd]; simp
theorem head_is (D:ByteArray) (h:0 < D.size):D.data.toList.head?=some D[0]:=by
 obtain ⟨r,hr⟩:=head_of D h; rw [hr]; rfl
theorem byte_is (c:UInt8) (n:Nat) (hn:n < 256):((c.toNat:Int) == (n:Int))=decide (c=UInt8.ofNat n):=by
 rw [Bool.eq_iff_iff,beq_iff_eq,decide_eq_true_eq,← UInt8.toNat_inj,UInt8.toNat_ofNat',Nat.mod_eq_of_lt (by simpa using hn)]; omega
theorem number_lead (s D:ByteArray) (hs:s.size<=140737488351232) (hD:s.extract 0 (tw digB s)=D) (hp:0 < D.size) (h1:D[0]=48) (h2:D.data.toList ≠ [48]) (w:World) :
  Calls Tryz.prog 144 #[.string s] w fun e w' => e=.returned (.tuple #[.agg #[.int .i64 0,.int .i64 0,.string ⟨#[]⟩,.int .i64 0,.int .i64 0,.string ⟨#[]⟩],.int .i64 3])/\Below w.heap.size w w':=by
 have c1:=fun W => leading_dig s W (by omega)
 rw [hD] at c1
 have hpi:(0:Int) < D.size:=by omega
 have e1:((D[0].toNat:Int) == 48)=true:=by rw [h1]; rfl
 have e2:(D.toList == [48])=false:=by rw [eqb_of]; exact decide_eq_false h2
 have e3:(D.toList != [48])=true:=by unfold bne; rw [e2]; rfl
 have C1:=Lib.hid c1
 clear c1 hD h1 h2
 go_enter Tryz.func144,Tryz.ntmps144
 go_wp2_with fail
 refine (C1.out _).mono ?_; rintro e w1 ⟨rfl,rfl⟩
 go_wp2_with fail
 refine bodyPost_ret (v:=.tuple #[.agg #[.int .i64 0,.int .i64 0,.string ⟨#[]⟩,.int .i64 0,.int .i64 0,.string ⟨#[]⟩],.int .i64 3]) (by simp [results,Tryz.results144,go_sem]) rfl ⟨rfl,b_new _ _⟩
theorem end_cases (e:Lib.NumEnd Int):(∃ n,e=.ok n) ∨ e=Lib.NumEnd.syntax ∨ e=Lib.NumEnd.range:=by cases e <;> simp
def Plain (D:ByteArray):Prop:=D.data.toList.head?=some 48->D.data.toList=[48]
theorem plain_tests (D:ByteArray) (hp:0 < D.size) (h:Plain D):((D[0].toNat:Int) == 48)=false ∨ (((D[0].toNat:Int) == 48)=true/\(D.toList == [48])=true/\(D.toList != [48])=false):=by
 by_cases g:D[0]=48
 ·right
  have e:D.data.toList=[48]:=h (by rw [head_is D hp,g])
  have e2:(D.toList == [48])=true:=by rw [eqb_of]; exact decide_eq_true e
  exact ⟨by rw [g]; rfl,e2,by unfold bne; rw [e2]; rfl⟩
 ·left
  have:=byte_is D[0] 48 (by decide)
  rw [show ((48:Nat):Int)=48 from rfl] at this
  rw [this]; exact decide_eq_false g
theorem number_ok (s D:ByteArray) (hs:s.size<=140737488351232) (hD:s.extract 0 (tw digB s)=D) (hp:0 < D.size) (hpl:Plain D) (n:Int) (ha:Lib.atoiAll D.data.toList=.ok n) (hn:n<=1099511627776) (w:World) :
  Calls Tryz.prog 144 #[.string s] w fun e w' => e=.returned (.tuple #[.agg #[.int .i64 1,.int .i64 0,.string D,.int .i64 1,.int .i64 n,.string ⟨#[]⟩],.int .i64 0])/\Below w.heap.size w w':=by
 have hDs:D.size<=s.size:=by rw [← hD]; simp; omega
 have c1:=fun W => leading_dig s W (by omega)
 rw [hD] at c1
 have c2:∀ W:World,Calls Tryz.prog 157 #[.string D] W fun e w' => e=.returned (.tuple #[.int .i64 n,.nilIface])/\Below W.heap.size W w':=fun W =>
  (Tryz.strconv_Atoi_ok D (by omega) n ha W).mono fun e w' hh => ⟨hh.1,by
   rcases hh.2 with rfl | ⟨t,rfl⟩
   ·exact Below.refl _ _
   ·exact Lib.bytesWorld_below _ _ _⟩
 have hpi:(0:Int) < D.size:=by omega
 have C1:=Lib.hid c1
 have C2:=Lib.hid c2
 have ht:=plain_tests D hp hpl
 clear c1 c2 hD ha hpl
 rcases ht with e1 | ⟨e1,e2,e3⟩
 all_goals
  go_enter Tryz.func144,Tryz.ntmps144
  go_wp2_with fail
  refine (C1.out _).mono ?_; rintro e w1 ⟨rfl,rfl⟩
  go_wp2_with fail
  refine (C2.out _).mono ?_; rintro e w1 ⟨rfl,hb1⟩
  obtain ⟨c1,d1⟩:=bcell hb1
  have hz:w.heap.size < w1.heap.size:=Nat.lt_of_lt_of_le (by simp) hb1.size
  go_wp2_with fail
  refine bodyPost_ret (v:=.tuple #[.agg #[.int .i64 1,.int .i64 0,.string D,.int .i64 1,.int .i64 n,.string ⟨#[]⟩],.int .i64 0]) (by simp [results,Tryz.results144,go_sem,c1]) rfl ⟨rfl,?_⟩
  exact b_set6 (b_then hb1) _ (Nat.le_refl _) _ _ _ _ _ _
theorem number_over (s D:ByteArray) (hs:s.size<=140737488351232) (hD:s.extract 0 (tw digB s)=D) (hp:0 < D.size) (hpl:Plain D) (n:Int) (ha:Lib.atoiAll D.data.toList=.ok n) (hn:1099511627776 < n) (w:World) :
  Calls Tryz.prog 144 #[.string s] w fun e w' => e=.returned (.tuple #[.agg #[.int .i64 0,.int .i64 0,.string ⟨#[]⟩,.int .i64 0,.int .i64 0,.string ⟨#[]⟩],.int .i64 7])/\Below w.heap.size w w':=by
 have hDs:D.size<=s.size:=by rw [← hD]; simp; omega
 have c1:=fun W => leading_dig s W (by omega)
 rw [hD] at c1
 have c2:∀ W:World,Calls Tryz.prog 157 #[.string D] W fun e w' => e=.returned (.tuple #[.int .i64 n,.nilIface])/\Below W.heap.size W w':=fun W =>
  (Tryz.strconv_Atoi_ok D (by omega) n ha W).mono fun e w' hh => ⟨hh.1,by
   rcases hh.2 with rfl | ⟨t,rfl⟩
   ·exact Below.refl _ _
   ·exact Lib.bytesWorld_below _ _ _⟩
 have hpi:(0:Int) < D.size:=by omega
 have C1:=Lib.hid c1
 have C2:=Lib.hid c2
 have ht:=plain_tests D hp hpl
 clear c1 c2 hD ha hpl
 rcases ht with e1 | ⟨e1,e2,e3⟩
 all_goals
  go_enter Tryz.func144,Tryz.ntmps144
  go_wp2_with fail
  refine (C1.out _).mono ?_; rintro e w1 ⟨rfl,rfl⟩
  go_wp2_with fail
  refine (C2.out _).mono ?_; rintro e w1 ⟨rfl,hb1⟩
  obtain ⟨c1,d1⟩:=bcell hb1
  have hz:w.heap.size < w1.heap.size:=Nat.lt_of_lt_of_le (by simp) hb1.size
  go_wp2_with fail
  refine bodyPost_ret (v:=.tuple #[.agg #[.int .i64 0,.int .i64 0,.string ⟨#[]⟩,.int .i64 0,.int .i64 0,.string ⟨#[]⟩],.int .i64 7]) (by simp [results,Tryz.results144,go_sem,c1]) rfl ⟨rfl,?_⟩
  exact b_set6 (b_then hb1) _ (Nat.le_refl _) _ _ _ _ _ _
theorem number_err (s D:ByteArray) (hs:s.size<=140737488351232) (hD:s.extract 0 (tw digB s)=D) (hp:0 < D.size) (hpl:Plain D) (ha:∀ n,Lib.atoiAll D.data.toList ≠ .ok n) (w:World) (hv:Vars w) :
  Calls Tryz.prog 144 #[.string s] w fun e w' => e=.returned (.tuple #[.agg #[.int .i64 0,.int .i64 0,.string ⟨#[]⟩,.int .i64 0,.int .i64 0,.string ⟨#[]⟩],.int .i64 7])/\Below w.heap.size w w':=by
 have hDs:D.size<=s.size:=by rw [← hD]; simp; omega
 have c1:=fun W => leading_dig s W (by omega)
 rw [hD] at c1
 have c2:∀ W:World,Vars W->Calls Tryz.prog 157 #[.string D] W fun e w' => ∃ (m:Int) (N:Nat),e=.returned (.tuple #[.int .i64 m,.iface 248 (.pointer (some ⟨N,0,none⟩))])/\Below W.heap.size W w':=fun W hv => by
  obtain ⟨p,hp⟩:=hv.syn
  obtain ⟨q,hq⟩:=hv.ran
  rcases end_cases (Lib.atoiAll D.data.toList) with ⟨n,he⟩ | he | he
  ·exact absurd he (ha n)
  ·refine (Tryz.strconv_Atoi_syntax_var D (by omega) he _ p _ hp).mono ?_
   rintro e w' ⟨N,h1,_,_,h2⟩
   exact ⟨0,N,h1,h2⟩
  ·refine (Tryz.strconv_Atoi_range_var D (by omega) he _ q _ hq).mono ?_
   rintro e w' ⟨N,h1,_,_,h2⟩
   exact ⟨_,N,h1,h2⟩
 have hpi:(0:Int) < D.size:=by omega
 have C1:=Lib.hid c1
 have C2:=Lib.hid c2
 have HV:=Lib.hid hv
 have ht:=plain_tests D hp hpl
 clear c1 c2 hD ha hpl hv
 rcases ht with e1 | ⟨e1,e2,e3⟩
 all_goals
  go_enter Tryz.func144,Tryz.ntmps144
  go_wp2_with fail
  refine (C1.out _).mono ?_; rintro e w1 ⟨rfl,rfl⟩
  go_wp2_with fail
  refine (C2.out _ (HV.out.below (b_new w _))).mono ?_; rintro e w1 ⟨m,N,rfl,hb1⟩
  obtain ⟨c1,d1⟩:=bcell hb1
  have hz:w.heap.size < w1.heap.size:=Nat.lt_of_lt_of_le (by simp) hb1.size
  go_wp2_with fail
  refine bodyPost_ret (v:=.tuple #[.agg #[.int .i64 0,.int .i64 0,.string ⟨#[]⟩,.int .i64 0,.int .i64 0,.string ⟨#[]⟩],.int .i64 7]) (by simp [results,Tryz.results144,go_sem,c1]) rfl ⟨rfl,?_⟩
  exact b_set6 (b_then hb1) _ (Nat.le_refl _) _ _ _ _ _ _
theorem number_any (s:ByteArray) (hs:s.size<=140737488351232) (h0:0 < s.size) (hd:digB s[0]=true):∃ (k vk n e:Int) (u t:ByteArray),Tells (numT (s.data.toList.takeWhile digB)) s.data.toList k vk n e u t ∧
  ∀ w:World,Vars w->Calls Tryz.prog 144 #[.string s] w fun x w' => x=.returned (.tuple #[.agg #[.int .i64 k,.int .i64 0,.string u,.int .i64 vk,.int .i64 n,.string t],.int .i64 e])/\Below w.heap.size w w':=by
 obtain ⟨D,hD⟩:∃ D,s.extract 0 (tw digB s)=D:=⟨_,rfl⟩
 have hL:D.data.toList=s.data.toList.takeWhile digB:=by rw [← hD]; exact dig_pre s
 have hsz:D.size=tw digB s:=by rw [← len_size,hL]; rfl
 have hp:0 < D.size:=by rw [hsz]; exact tw_pos digB s h0 hd
 have htk:s.data.toList.take D.data.toList.length=D.data.toList:=by rw [hL]; exact LexM.take_tw digB _
 rw [← hL]
 by_cases h1:D.data.toList.head?=some 48/\1 < D.data.toList.length
 ·refine ⟨0,0,0,3,⟨#[]⟩,⟨#[]⟩,?_,fun w _ => number_lead s D hs hD hp ?_ ?_ w⟩
  ·unfold numT; rw [if_pos h1]; exact ⟨rfl,by decide⟩
  ·rw [head_is D hp] at h1; exact Option.some.inj h1.1
  ·intro g; rw [g] at h1; simp at h1
 ·have hpl:Plain D:=fun g => by
   have:D.data.toList.length=1:=by
    have:D.data.toList.length=D.size:=rfl
    have:¬ 1 < D.data.toList.length:=fun x => h1 ⟨g,x⟩
    omega
   match hh:D.data.toList,this with
   | [a],_ => rw [hh] at g; simp at g; rw [g]
  rcases end_cases (Lib.atoiAll D.data.toList) with ⟨n,ha⟩ | ha | ha
  ·by_cases hn:1099511627776 < n
   ·refine ⟨0,0,0,7,⟨#[]⟩,⟨#[]⟩,?_,fun w _ => number_over s D hs hD hp hpl n ha hn w⟩
    unfold numT; rw [if_neg h1,ha]; simp only; rw [if_pos hn]; exact ⟨rfl,by decide⟩
   ·refine ⟨1,1,n,0,D,⟨#[]⟩,?_,fun w _ => number_ok s D hs hD hp hpl n ha (by omega) w⟩
    unfold numT; rw [if_neg h1,ha]; simp only; rw [if_neg hn]
    exact ⟨rfl,rfl,htk.symm,rfl,rfl,rfl⟩
  ·refine ⟨0,0,0,7,⟨#[]⟩,⟨#[]⟩,?_,fun w hv => number_err s D hs hD hp hpl (fun n g => by rw [ha] at g; cases g) w hv⟩
   unfold numT; rw [if_neg h1,ha]; exact ⟨rfl,by decide⟩
  ·refine ⟨0,0,0,7,⟨#[]⟩,⟨#[]⟩,?_,fun w hv => number_err s D hs hD hp hpl (fun n g => by rw [ha] at g; cases g) w hv⟩
   unfold numT; rw [if_neg h1,ha]; exact ⟨rfl,by decide⟩
theorem word_any (s:ByteArray) (hs:s.size<=140737488351232):∃ (k vk n e:Int) (u t:ByteArray),Tells (wordT (s.data.toList.takeWhile alnB)) s.data.toList k vk n e u t ∧
  ∀ w:World,Calls Tryz.prog 145 #[.string s] w fun x w' => x=.returned (.tuple #[.agg #[.int .i64 k,.int .i64 0,.string u,.int .i64 vk,.int .i64 n,.string t],.int .i64 e])/\Below w.heap.size w w':=by
 obtain ⟨D,hD⟩:∃ D,s.extract 0 (tw alnB s)=D:=⟨_,rfl⟩
 have hL:D.data.toList=s.data.toList.takeWhile alnB:=by rw [← hD]; exact tw_eq s
 have hDs:D.size<=s.size:=by rw [← hD]; simp; omega
 have htk:s.data.toList.take D.data.toList.length=D.data.toList:=by rw [hL]; exact LexM.take_tw alnB _
 have c1:=fun W => leading_aln s W (by omega)
 rw [hD] at c1
 rw [← hL]
 by_cases h1:10 < D.size
 ·refine ⟨0,0,0,1,⟨#[]⟩,⟨#[]⟩,?_,fun w => ?_⟩
  ·unfold wordT; rw [if_pos (show 10 < D.data.toList.length from h1)]; exact ⟨rfl,by decide⟩
  ·have C1:=Lib.hid c1
   clear c1 hD hL htk
   go_enter Tryz.func145,Tryz.ntmps145
   go_wp2_with fail
   refine (C1.out _).mono ?_; rintro e w1 ⟨rfl,rfl⟩
   go_wp2_with fail
   refine bodyPost_ret (v:=.tuple #[.agg #[.int .i64 0,.int .i64 0,.string ⟨#[]⟩,.int .i64 0,.int .i64 0,.string ⟨#[]⟩],.int .i64 1]) (by simp [results,Tryz.results145,go_sem]) rfl ⟨rfl,b_new _ _⟩
 ·refine ⟨2,0,0,0,D,⟨#[]⟩,?_,fun w => ?_⟩
  ·unfold wordT; rw [if_neg (show ¬ 10 < D.data.toList.length from h1)]; exact ⟨rfl,rfl,htk.symm,rfl,rfl,rfl⟩
  ·have C1:=Lib.hid c1
   clear c1 hD hL htk
   go_enter Tryz.func145,Tryz.ntmps145
   go_wp2_with fail
   refine (C1.out _).mono ?_; rintro e w1 ⟨rfl,rfl⟩
   go_wp2_with fail
   refine bodyPost_ret (v:=.tuple #[.agg #[.int .i64 2,.int .i64 0,.string D,.int .i64 0,.int .i64 0,.string ⟨#[]⟩],.int .i64 0]) (by simp [results,Tryz.results145,go_sem]) rfl ⟨rfl,b_new _ _⟩
theorem ended_long (s t:ByteArray) (h:40 < t.size) (w:World):Calls Tryz.prog 158 #[.string s,.string t] w fun x w' => x=.returned (.tuple #[.agg #[.int .i64 0,.int .i64 0,.string ⟨#[]⟩,.int .i64 0,.int .i64 0,.string ⟨#[]⟩],.int .i64 1])/\Below w.heap.size w w':=by
 go_enter Tryz.func158,Tryz.ntmps158
 go_wp2_with fail
 refine bodyPost_ret (v:=.tuple #[.agg #[.int .i64 0,.int .i64 0,.string ⟨#[]⟩,.int .i64 0,.int .i64 0,.string ⟨#[]⟩],.int .i64 1]) (by simp [results,Tryz.results158,go_sem]) rfl ⟨rfl,b_new _ _⟩
theorem ended_ok (s t:ByteArray) (h:t.size<=40) (w:World):Calls Tryz.prog 158 #[.string s,.string t] w fun x w' => x=.returned (.tuple #[.agg #[.int .i64 3,.int .i64 0,.string s,.int .i64 3,.int .i64 0,.string t],.int .i64 0])/\Below w.heap.size w w':=by
 go_enter Tryz.func158,Tryz.ntmps158
 go_wp2_with fail
 refine bodyPost_ret (v:=.tuple #[.agg #[.int .i64 3,.int .i64 0,.string s,.int .i64 3,.int .i64 0,.string t],.int .i64 0]) (by simp [results,Tryz.results158,go_sem]) rfl ⟨rfl,b_new _ _⟩
theorem bcellB {B:Nat} {W w1:World} (hb:Below B W w1):(∀ b o,b < B->w1.cell? ⟨b,o,none⟩=W.cell? ⟨b,o,none⟩)/\(∀ b o,b < B->w1.frozen? ⟨b,o,none⟩=W.frozen? ⟨b,o,none⟩) :=
 ⟨fun b o h => hb.cell (p:=⟨b,o,none⟩) h,fun b o h => hb.frozen (p:=⟨b,o,none⟩) h⟩
structure QInv (B:Nat) (w0:World) (s:ByteArray) (k:Nat) (acc:List UInt8) (wr:World):Prop where
 one:1<=k
 le:k<=s.size
 isB:Lib.IsBuilder 68 5 B B (Lib.byteCells acc) wr
 is:quoF (s.data.toList.drop 1)=(quoF (s.data.toList.drop k)).map fun x => (x.1 + (k - 1),acc ++ x.2)
 len:acc.length<=k
 below:Below B w0 wr
 size:B<=wr.heap.size
theorem quo_end (s:ByteArray) (k:Nat) (h:k < s.size) (h1:s[k]=34):quoF (s.data.toList.drop k)=some (1,[]):=by
 rw [drop_cons s k h,h1]
 cases hh:s.data.toList.drop (k + 1) with
 | nil => rfl
 | cons d r => rw [quoF,if_pos rfl]
theorem quo_out (s:ByteArray) (k:Nat) (h:s.size<=k):quoF (s.data.toList.drop k)=none:=by
 rw [List.drop_eq_nil_of_le (by rw [len_size]; omega)]; rfl
theorem quo_bad (s:ByteArray) (k:Nat) (h:k < s.size) (h1:s[k] ≠ 34) (h2:s[k].toNat < 32 ∨ 126 < s[k].toNat):quoF (s.data.toList.drop k)=none:=by
 rw [drop_cons s k h]
 cases hh:s.data.toList.drop (k + 1) with
 | nil => rw [quoF,if_neg h1]
 | cons d r => rw [quoF,if_neg h1,if_pos h2]
theorem quo_last (s:ByteArray) (k:Nat) (h:k + 1=s.size) (h1:s[k]'(by omega) ≠ 34):quoF (s.data.toList.drop k)=none:=by
 rw [drop_cons s k (by omega),List.drop_eq_nil_of_le (by rw [len_size]; omega),quoF,if_neg h1]
theorem quo_esc (s:ByteArray) (k:Nat) (h:k + 1 < s.size) (h1:s[k]=92):quoF (s.data.toList.drop k)=if s[k + 1]=34 ∨ s[k + 1]=92 then (quoF (s.data.toList.drop (k + 2))).map fun x => (x.1 + 2,s[k + 1] :: x.2) else none:=by
 rw [drop_cons s k (by omega),drop_cons s (k + 1) h,quoF,if_neg (by rw [h1]; decide),if_neg (by rw [h1]; decide),if_pos h1]
theorem quo_one (s:ByteArray) (k:Nat) (h:k < s.size) (h1:s[k] ≠ 34) (h2:¬ (s[k].toNat < 32 ∨ 126 < s[k].toNat)) (h3:s[k] ≠ 92):quoF (s.data.toList.drop k)=(quoF (s.data.toList.drop (k + 1))).map fun x => (x.1 + 1,s[k] :: x.2):=by
 rw [drop_cons s k h]
 cases hh:s.data.toList.drop (k + 1) with
 | nil => simp [quoF,h1]
 | cons d r => rw [quoF,if_neg h1,if_neg h2,if_neg h3]
theorem QInv.step {B:Nat} {w0 w3:World} {s:ByteArray} {k j:Nat} {acc:List UInt8} {wr:World} {c:UInt8} (h:QInv B w0 s k acc wr) (hj:k < j) (hle:j<=s.size) (hB:Lib.IsBuilder 68 5 B B (Lib.byteCells acc ++ [.int .u8 c.toNat]) w3) (hb:Below B wr w3)
  (hs:quoF (s.data.toList.drop k)=(quoF (s.data.toList.drop j)).map fun x => (x.1 + (j - k),c :: x.2)):QInv B w0 s j (acc ++ [c]) w3:=by
 have h1:=h.one
 refine ⟨by omega,hle,by simpa [Lib.byteCells] using hB,?_,by simp; have:=h.len; omega,h.below.trans hb,Nat.le_trans h.size hb.size⟩
 rw [h.is,hs,Option.map_map]
 congr 1
 funext x
 simp; omega
theorem quo_none {B:Nat} {w0 wr:World} {s:ByteArray} {k:Nat} {acc:List UInt8} (h:QInv B w0 s k acc wr) (hn:quoF (s.data.toList.drop k)=none):quoF (s.data.toList.drop 1)=none:=by rw [h.is,hn]; rfl
theorem b_undrewB {B C:Nat} {w w1:World} (h:Below B w.drew w1) (hC:C<=B):Below C w w1:=(show Below B w w1 from ⟨h.os,h.tape,h.output,h.size,h.block⟩).mono hC
set_option maxHeartbeats 1000000 in
theorem quote_any (s:ByteArray) (hs:s.size<=140737488351232) (h0:0 < s.size):∃ (k vk n e:Int) (u t:ByteArray),Tells (quoT (s.data.toList.drop 1)) s.data.toList k vk n e u t ∧
  ∀ w:World,Calls Tryz.prog 146 #[.string s] w fun x w' => x=.returned (.tuple #[.agg #[.int .i64 k,.int .i64 0,.string u,.int .i64 vk,.int .i64 n,.string t],.int .i64 e])/\Below w.heap.size w w':=by
 obtain ⟨k,vk,n,e,u,t,ht,hN,hS⟩:∃ (k vk n e:Int) (u t:ByteArray),Tells (quoT (s.data.toList.drop 1)) s.data.toList k vk n e u t ∧
   (quoF (s.data.toList.drop 1)=none->k=0/\vk=0/\n=0/\e=3/\u=⟨#[]⟩/\t=⟨#[]⟩) ∧
   (∀ m x,quoF (s.data.toList.drop 1)=some (m,x)->∀ W:World,Calls Tryz.prog 158 #[.string (s.extract 0 (m + 1)),.string ⟨x.toArray⟩] W fun z w' => z=.returned (.tuple #[.agg #[.int .i64 k,.int .i64 0,.string u,.int .i64 vk,.int .i64 n,.string t],.int .i64 e])/\Below W.heap.size W w'):=by
  cases hq:quoF (s.data.toList.drop 1) with
  | none => exact ⟨0,0,0,3,⟨#[]⟩,⟨#[]⟩,by unfold quoT; rw [hq]; exact ⟨rfl,by decide⟩,fun _ => ⟨rfl,rfl,rfl,rfl,rfl,rfl⟩,fun m x h => by cases h⟩
  | some y =>
   obtain ⟨m,x⟩:=y
   by_cases hx:40 < x.length
   ·refine ⟨0,0,0,1,⟨#[]⟩,⟨#[]⟩,by unfold quoT; rw [hq]; simp only; rw [if_pos hx]; exact ⟨rfl,by decide⟩,(fun h => by cases h),fun m' x' h W => ?_⟩
    injection h with h; injection h with h h'; subst h; subst h'
    exact ended_long _ ⟨x.toArray⟩ hx W
   ·refine ⟨3,3,0,0,s.extract 0 (m + 1),⟨x.toArray⟩,by unfold quoT; rw [hq]; simp only; rw [if_neg hx]; exact ⟨rfl,rfl,by simp [ByteArray.data_extract],rfl,rfl,rfl⟩,(fun h => by cases h),fun m' x' h W => ?_⟩
    injection h with h; injection h with h h'; subst h; subst h'
    exact ended_ok _ ⟨x.toArray⟩ (show x.length<=40 by omega) W
 refine ⟨k,vk,n,e,u,t,ht,fun w => ?_⟩
 have hI:QInv (w.heap.size + 1) (w.alloc (.cells #[.int .i64 0,.int .i64 0,.string ⟨#[]⟩,.int .i64 0,.int .i64 0,.string ⟨#[]⟩] 190)) s 1 [] ((w.alloc (.cells #[.int .i64 0,.int .i64 0,.string ⟨#[]⟩,.int .i64 0,.int .i64 0,.string ⟨#[]⟩] 190)).alloc (.cells #[.pointer none,.slice none 0 0] 68)) :=
  ⟨Nat.le_refl _,h0,by have:=Lib.fresh_isBuilder 68 5 (w.alloc (.cells #[.int .i64 0,.int .i64 0,.string ⟨#[]⟩,.int .i64 0,.int .i64 0,.string ⟨#[]⟩] 190)); simpa [Lib.byteCells] using this,by simp,by simp,by have:=b_new (w.alloc (.cells #[.int .i64 0,.int .i64 0,.string ⟨#[]⟩,.int .i64 0,.int .i64 0,.string ⟨#[]⟩] 190)) (.cells #[.pointer none,.slice none 0 0] 68); simpa using this,by simp⟩
 have HI0:=Lib.hid hI
 have HN:=Lib.hid hN
 have HS:=Lib.hid hS
 clear hI hN hS ht
 go_enter Tryz.func146,Tryz.ntmps146
 go_wp2_with fail
 go_loopw [5] (fun i wr => ∃ (k:Nat) (acc:List UInt8),i=.int .i64 k/\QInv (w.heap.size + 1) (w.alloc (.cells #[.int .i64 0,.int .i64 0,.string ⟨#[]⟩,.int .i64 0,.int .i64 0,.string ⟨#[]⟩] 190)) s k acc wr) (fun i _ => s.size - (intOf i).toNat)
 case atStart => exact ⟨1,[],rfl,HI0.out⟩
 case round =>
  obtain ⟨j,acc,rfl,hI⟩:=hrel
  obtain ⟨c1,d1⟩:=bcellB hI.below
  have hsz:=hI.size
  have hz:w.heap.size < wr.heap.size:=by omega
  have hbw:Below w.heap.size w wr:=b_then (by simpa using hI.below)
  have hle:=hI.le
  have hal:=hI.len
  have hone:=hI.one
  have hcl:(Lib.byteCells acc).length<=j:=by rw [Lib.byteCells_length]; exact hal
  have HI:=Lib.hid hI
  clear hI
  by_cases hlt:j < s.size
  ·by_cases h34:s[j]=34
   ·have t1:((s[j].toNat:Int) == 34)=true:=by rw [h34]; rfl
    have hq:quoF (s.data.toList.drop 1)=some (j,acc):=by
     rw [HI.out.is,quo_end s j hlt h34]; simp; omega
    have c2:=HS.out j acc hq
    have C2:=Lib.hid c2
    clear c2 hq h34
    have hi1:(0:Int)<=(j:Int) + 1:=by omega
    have hi2:(j:Int) + 1<=s.size:=by omega
    have hi3:((j:Int) + 1).toNat=j + 1:=by omega
    have hsum:IntKind.i64.wrap ((j:Int) + 1)=(j:Int) + 1:=IntWalk.i64_in _ (by omega)
    go_wp2_with fail
    go_region_held3 (fun _ => True) (trivial)
     (first | (go_at_call 24; (refine (Bld.string (w.heap.size + 1) _ acc _ (by exact HI.out.isB) (by exact hsz)).mono ?_); rintro e w1 ⟨rfl,hb1⟩; obtain ⟨c2,d2⟩:=bcellB hb1; have z2:w.heap.size < w1.heap.size:=Nat.lt_of_lt_of_le hz hb1.size) | (go_at_call 158; (refine (C2.out _).mono ?_); rintro e w2 ⟨rfl,hb2⟩; obtain ⟨c3,d3⟩:=bcell hb2; have z3:w.heap.size < w2.heap.size:=Nat.lt_of_lt_of_le z2 hb2.size))
    all_goals
     go_wp2_with fail
     refine bodyPost_ret (v:=.tuple #[.agg #[.int .i64 k,.int .i64 0,.string u,.int .i64 vk,.int .i64 n,.string t],.int .i64 e]) (by simp [results,Tryz.results146,go_sem,c1,c2,c3,z2]) rfl ⟨rfl,?_⟩
     exact b_set6 (hbw.trans ((b_undrewB hb1 (by omega)).trans (hb2.mono (by have:=z2; omega)))) _ (Nat.le_refl _) _ _ _ _ _ _
   ·have t1:((s[j].toNat:Int) == 34)=false:=by have:=byte_is s[j] 34 (by decide); rw [show ((34:Nat):Int)=34 from rfl] at this; rw [this]; exact decide_eq_false h34
    by_cases hlo:(s[j].toNat:Int) < 32
    ·have hno:=quo_none HI.out (quo_bad s j hlt h34 (.inl (by omega)))
     have hlo':decide ((s[j].toNat:Int) < 32)=true:=decide_eq_true hlo
     obtain ⟨rfl,rfl,rfl,rfl,rfl,rfl⟩:=HN.out hno
     clear hno
     go_wp2_with fail
     refine bodyPost_ret (v:=.tuple #[.agg #[.int .i64 0,.int .i64 0,.string ⟨#[]⟩,.int .i64 0,.int .i64 0,.string ⟨#[]⟩],.int .i64 3]) (by simp [results,Tryz.results146,go_sem,c1]) rfl ⟨rfl,?_⟩
     exact b_set6 hbw _ (Nat.le_refl _) _ _ _ _ _ _
    ·have hlo':decide ((s[j].toNat:Int) < 32)=false:=decide_eq_false hlo
     by_cases hhi:(126:Int) < s[j].toNat
     ·have hno:=quo_none HI.out (quo_bad s j hlt h34 (.inr (by omega)))
      have hhi':decide ((126:Int) < s[j].toNat)=true:=decide_eq_true hhi
      obtain ⟨rfl,rfl,rfl,rfl,rfl,rfl⟩:=HN.out hno
      clear hno
      go_wp2_with fail
      refine bodyPost_ret (v:=.tuple #[.agg #[.int .i64 0,.int .i64 0,.string ⟨#[]⟩,.int .i64 0,.int .i64 0,.string ⟨#[]⟩],.int .i64 3]) (by simp [results,Tryz.results146,go_sem,c1]) rfl ⟨rfl,?_⟩
      exact b_set6 hbw _ (Nat.le_refl _) _ _ _ _ _ _
     ·have hhi':decide ((126:Int) < s[j].toNat)=false:=decide_eq_false hhi
      by_cases h92:s[j]=92
      ·have t2:((s[j].toNat:Int) == 92)=true:=by rw [h92]; rfl
       by_cases hl2:j + 1 < s.size
       ·have hq:=quo_esc s j hl2 h92
        have t3:((j:Int) + 1 == s.size)=false:=by rw [beq_eq_false_iff_ne]; omega
        have u1:=byte_is s[j + 1] 34 (by decide)
        have u2:=byte_is s[j + 1] 92 (by decide)
        rw [show ((34:Nat):Int)=34 from rfl] at u1
        rw [show ((92:Nat):Int)=92 from rfl] at u2
        by_cases g1:s[j + 1]=34
        ·have v1:((s[j + 1].toNat:Int) != 34)=false:=by unfold bne; rw [u1]; exact congrArg not (decide_eq_true g1)
         have hq:quoF (s.data.toList.drop j)=(quoF (s.data.toList.drop (j + 2))).map fun x => (x.1 + (j + 2 - j),s[j + 1] :: x.2):=by
          rw [hq,if_pos (.inl g1),show j + 2 - j=2 by omega]
         clear h92 g1 u1 u2 h34
         have HQ:=Lib.hid hq
         clear hq
         go_wp2_with fail
         refine (Bld.writeByte (w.heap.size + 1) (w.heap.size + 1) _ _ _ HI.out.isB (by omega) hsz).mono ?_; rintro e w3 ⟨rfl,hB3,hb3⟩
         have hN:QInv (w.heap.size + 1) (w.alloc (.cells #[.int .i64 0,.int .i64 0,.string ⟨#[]⟩,.int .i64 0,.int .i64 0,.string ⟨#[]⟩] 190)) s (j + 2) (acc ++ [s[j + 1]]) w3:=HI.out.step (by omega) (by omega) hB3 hb3 HQ.out
         have HN3:=Lib.hid hN
         clear hN hB3 hb3
         go_wp2
         go_roundw
         case rel => exact ⟨j + 2,_,by go_num,HN3.out⟩
         case measure => simp [intOf]; omega
        ·have v1:((s[j + 1].toNat:Int) != 34)=true:=by unfold bne; rw [u1]; exact congrArg not (decide_eq_false g1)
         by_cases g2:s[j + 1]=92
         ·have v2:((s[j + 1].toNat:Int) != 92)=false:=by unfold bne; rw [u2]; exact congrArg not (decide_eq_true g2)
          have hq:quoF (s.data.toList.drop j)=(quoF (s.data.toList.drop (j + 2))).map fun x => (x.1 + (j + 2 - j),s[j + 1] :: x.2):=by
           rw [hq,if_pos (.inr g2),show j + 2 - j=2 by omega]
          clear h92 g1 g2 u1 u2 h34
          have HQ:=Lib.hid hq
          clear hq
          go_wp2_with fail
          refine (Bld.writeByte (w.heap.size + 1) (w.heap.size + 1) _ _ _ HI.out.isB (by omega) hsz).mono ?_; rintro e w3 ⟨rfl,hB3,hb3⟩
          have hN:QInv (w.heap.size + 1) (w.alloc (.cells #[.int .i64 0,.int .i64 0,.string ⟨#[]⟩,.int .i64 0,.int .i64 0,.string ⟨#[]⟩] 190)) s (j + 2) (acc ++ [s[j + 1]]) w3:=HI.out.step (by omega) (by omega) hB3 hb3 HQ.out
          have HN3:=Lib.hid hN
          clear hN hB3 hb3
          go_wp2
          go_roundw
          case rel => exact ⟨j + 2,_,by go_num,HN3.out⟩
          case measure => simp [intOf]; omega
         ·have v2:((s[j + 1].toNat:Int) != 92)=true:=by unfold bne; rw [u2]; exact congrArg not (decide_eq_false g2)
          have hno:=quo_none HI.out (hq.trans (if_neg (fun g => g.elim g1 g2)))
          clear h92 g1 g2 u1 u2 h34 hq
          obtain ⟨rfl,rfl,rfl,rfl,rfl,rfl⟩:=HN.out hno
          clear hno
          go_wp2_with fail
          refine bodyPost_ret (v:=.tuple #[.agg #[.int .i64 0,.int .i64 0,.string ⟨#[]⟩,.int .i64 0,.int .i64 0,.string ⟨#[]⟩],.int .i64 3]) (by simp [results,Tryz.results146,go_sem,c1]) rfl ⟨rfl,?_⟩
          exact b_set6 hbw _ (Nat.le_refl _) _ _ _ _ _ _
       ·have hno:=quo_none HI.out (quo_last s j (by omega) h34)
        have t3:((j:Int) + 1 == s.size)=true:=by rw [beq_iff_eq]; omega
        clear h92 h34
        obtain ⟨rfl,rfl,rfl,rfl,rfl,rfl⟩:=HN.out hno
        clear hno
        go_wp2_with fail
        refine bodyPost_ret (v:=.tuple #[.agg #[.int .i64 0,.int .i64 0,.string ⟨#[]⟩,.int .i64 0,.int .i64 0,.string ⟨#[]⟩],.int .i64 3]) (by simp [results,Tryz.results146,go_sem,c1]) rfl ⟨rfl,?_⟩
        exact b_set6 hbw _ (Nat.le_refl _) _ _ _ _ _ _
      ·have t2:((s[j].toNat:Int) == 92)=false:=by have:=byte_is s[j] 92 (by decide); rw [show ((92:Nat):Int)=92 from rfl] at this; rw [this]; exact decide_eq_false h92
       have hq:quoF (s.data.toList.drop j)=(quoF (s.data.toList.drop (j + 1))).map fun x => (x.1 + (j + 1 - j),s[j] :: x.2):=by
        rw [quo_one s j hlt h34 (by omega) h92,show j + 1 - j=1 by omega]
       clear h92 h34
       have HQ:=Lib.hid hq
       clear hq
       go_wp2_with fail
       refine (Bld.writeByte (w.heap.size + 1) (w.heap.size + 1) _ _ _ HI.out.isB (by omega) hsz).mono ?_; rintro e w3 ⟨rfl,hB3,hb3⟩
       have hN:QInv (w.heap.size + 1) (w.alloc (.cells #[.int .i64 0,.int .i64 0,.string ⟨#[]⟩,.int .i64 0,.int .i64 0,.string ⟨#[]⟩] 190)) s (j + 1) (acc ++ [s[j]]) w3:=HI.out.step (by omega) (by omega) hB3 hb3 HQ.out
       have HN3:=Lib.hid hN
       clear hN hB3 hb3
       go_wp2
       go_roundw
       case rel => exact ⟨j + 1,_,by go_num,HN3.out⟩
       case measure => simp [intOf]; omega
  ·have hno:=quo_none HI.out (quo_out s j (by omega))
   obtain ⟨rfl,rfl,rfl,rfl,rfl,rfl⟩:=HN.out hno
   clear hno
   go_wp2_with fail
   refine bodyPost_ret (v:=.tuple #[.agg #[.int .i64 0,.int .i64 0,.string ⟨#[]⟩,.int .i64 0,.int .i64 0,.string ⟨#[]⟩],.int .i64 3]) (by simp [results,Tryz.results146,go_sem,c1]) rfl ⟨rfl,?_⟩
   exact b_set6 hbw _ (Nat.le_refl _) _ _ _ _ _ _
end LexT
end Go.Proofs.YtjhhmdmmllblhaaGreatDoor
