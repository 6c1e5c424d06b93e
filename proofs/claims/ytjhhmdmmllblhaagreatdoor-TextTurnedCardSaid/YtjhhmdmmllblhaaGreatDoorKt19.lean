/- TxPrint TxWord TxNames PsTok: what these laws name of them. -/
import Derived.RegionDies
import Derived.Test.YtjhhmdmmllblhaaGreatDoorKt18
namespace Go.Proofs.YtjhhmdmmllblhaaGreatDoor
set_option linter.unusedVariables false
namespace TxQ
open Go.RowKit
open ValM LexM NumM ExM NmM ShowM PrM Kit ExL ExP ExN RawV Within RawL GenL FldP FldR FldC FrmM PgM PgA ShT TxM TxR TxP TxT Prn
set_option linter.unusedVariables false
structure TVars (w:World):Prop where
 pr:Prn.Vars w
 kd : StrTab.Is Tryz.prog w "lychway/text.kinds" kdN
 ty : StrTab.Is Tryz.prog w "lychway/text.types" tyN
theorem TVars.below {w w':World} (h:TVars w) (hb:Below w.heap.size w w'):TVars w':=⟨h.pr.below hb,LexT.var_below h.kd hb,LexT.var_below h.ty hb⟩
theorem kd_cell {w:World} (h:TVars w) (i:Nat) (hi:i < 4):w.cell? ⟨0,i,none⟩=some (.string ⟨(kdN.getD i []).toArray⟩):=StrTab.Is.cell h.kd (g:=0) (by kernel_rfl) i hi
theorem ty_cell {w:World} (h:TVars w) (i:Nat) (hi:i < 4):w.cell? ⟨1,i,none⟩=some (.string ⟨(tyN.getD i []).toArray⟩):=StrTab.Is.cell h.ty (g:=1) (by kernel_rfl) i hi
theorem fd_nine (w:World) (f:GenL.Fd) (V:World) (hV:Below (w.alloc (fdBox f)).heap.size (w.alloc (fdBox f)) V):V.cell? ⟨w.heap.size,0,none⟩=some (.string f.nm)/\V.cell? ⟨w.heap.size,1,none⟩=some (.int .i64 f.kind)/\V.cell? ⟨w.heap.size,2,none⟩=some (.int .i64 f.ty) ∧
  V.cell? ⟨w.heap.size,3,none⟩=some (.int .i64 f.d.op)/\V.cell? ⟨w.heap.size,4,none⟩=some (.int .i64 f.d.k)/\V.cell? ⟨w.heap.size,5,none⟩=some (.int .i64 f.d.n)/\V.cell? ⟨w.heap.size,6,none⟩=some (.string f.d.s)/\V.cell? ⟨w.heap.size,7,none⟩=some (.string f.d.nm)/\V.cell? ⟨w.heap.size,8,none⟩=some (.slice f.A f.n f.c):=by
 have e1:V.heap[w.heap.size]?=_:=(hV.block _ (by simp)).trans (World.alloc_heap_new w (fdBox f))
 unfold fdBox at e1
 refine ⟨?_,?_,?_,?_,?_,?_,?_,?_,?_⟩ <;> simp [World.cell?,e1]
theorem kd_split {k:Int} (h:1<=k/\k<=3):kdW k=kdN.getD k.toNat [] ++ [32]:=by rcases kt_cases h with rfl | rfl | rfl <;> rfl
theorem ty_split {t:Int} (h:1<=t/\t<=3):tyW t=32 :: tyN.getD t.toNat []:=by rcases kt_cases h with rfl | rfl | rfl <;> rfl
theorem kdN_len (i:Nat):(kdN.getD i []).length<=7:=by
 match i with
 | 0 => decide
 | 1 => decide
 | 2 => decide
 | 3 => decide
 | n + 4 => exact Nat.zero_le _
theorem tyN_len (i:Nat):(tyN.getD i []).length<=4:=by
 match i with
 | 0 => decide
 | 1 => decide
 | 2 => decide
 | 3 => decide
 | n + 4 => exact Nat.zero_le _
set_option maxRecDepth 100000 in
set_option maxHeartbeats 4000000 in
theorem fieldLine_any (e:FE) (w:World) (hf:FlOk (flE e)) (hx:1 < e.kind->e.x.checkE=0) (his:Is w e.x e.x.d e.B e.m) (hv:TVars w) :
  Calls Tryz.prog 13 #[.agg #[.string e.nm,.int .i64 e.kind,.int .i64 e.ty,.int .i64 e.x.d.op,.int .i64 e.x.d.k,.int .i64 e.x.d.n,.string e.x.d.s,.string e.x.d.nm,.slice e.B e.m e.c]] w fun r w' => r=.returned (.string ⟨(flL (flE e)).toArray⟩)/\Below w.heap.size w w':=by
 obtain ⟨nm,kind,ty,x,B,m,c⟩:=e
 simp only at hx his ⊢
 have hk:1<=kind/\kind<=3:=hf.k
 have ht:1<=ty/\ty<=3:=hf.t
 have hn:nm.data.toList.length<=10:=(nmB_parts hf.nm).2.1
 obtain ⟨W1,hW1⟩:∃ V,w.alloc (fdBox (FE.fd ⟨nm,kind,ty,x,B,m,c⟩))=V:=⟨_,rfl⟩
 obtain ⟨B1,hB1⟩:∃ B,w.heap.size=B:=⟨_,rfl⟩
 have hb1:=b_new w (fdBox (FE.fd ⟨nm,kind,ty,x,B,m,c⟩))
 have hcell:=fd_nine w (FE.fd ⟨nm,kind,ty,x,B,m,c⟩)
 rw [hW1] at hb1 hcell
 rw [hB1] at hcell
 obtain ⟨x0,x1,x2,x3,x4,x5,x6,x7,x8⟩:=hcell W1 (Below.refl _ _)
 have hv1:=hv.below hb1
 obtain ⟨K,hK⟩:∃ K:ByteArray,K=⟨(kdN.getD kind.toNat []).toArray⟩:=⟨_,rfl⟩
 obtain ⟨T,hT⟩:∃ K:ByteArray,K=⟨(tyN.getD ty.toNat []).toArray⟩:=⟨_,rfl⟩
 have kc:=kd_cell hv1 kind.toNat (by omega)
 have tc:=ty_cell hv1 ty.toNat (by omega)
 rw [← hK] at kc
 rw [← hT] at tc
 have hKl:K.data.toList=kdN.getD kind.toNat []:=by rw [hK]
 have hTl:T.data.toList=tyN.getD ty.toNat []:=by rw [hT]
 have hKs:K.size<=7:=by show K.data.toList.length<=_; rw [hKl]; exact kdN_len _
 have hTs:T.size<=4:=by show T.data.toList.length<=_; rw [hTl]; exact tyN_len _
 have hns:nm.size<=10:=hn
 have i0:0<=kind:=by omega
 have i5:=Lib.hid hk.1
 have i1:kind < 4:=by omega
 have i2:0<=ty:=by omega
 have i3:ty < 4:=by omega
 have hhead:kdW kind ++ (nm.data.toList ++ tyW ty)=K.data.toList ++ ([32] ++ (nm.data.toList ++ ([32] ++ T.data.toList))):=by
  rw [kd_split hk,ty_split ht,hKl,hTl]
  simp
 have hp:∀ V,Below W1.heap.size W1 V->Calls Tryz.prog 29 _ V _:=fun V hV => PrT.print_any x x.d B m c V ((his.below hb1).below hV) (hv1.pr.below hV)
 obtain ⟨t,htx⟩:∃ t:ByteArray,t=⟨(Ex.txt x).toArray⟩:=⟨_,rfl⟩
 have hout:∀ u:ByteArray,u.data.toList=kdW kind ++ (nm.data.toList ++ tyW ty) ++ (if 1 < kind then eqW ++ Ex.txt x else [])->Ending.returned (.string u)=.returned (.string ⟨(flL (flE ⟨nm,kind,ty,x,B,m,c⟩)).toArray⟩):=fun u hu => str_inj (by
  rw [hu]
  show _=fieldL _ _ _ _
  unfold fieldL flE
  simp only [List.append_assoc])
 rw [hhead] at hout
 have HP:=Lib.hid hp
 have HB:=Lib.hid hb1
 have HCell:=Lib.hid hcell
 have HW1:=Lib.hid hW1
 have HB1:=Lib.hid hB1
 have HOut:=Lib.hid hout
 have HX:=Lib.hid hx
 have HTx:=Lib.hid htx
 clear hp hb1 hcell hW1 hB1 hout hx htx hhead hf hk ht hn hv hv1 his hK hT hKl hTl
 unfold fdBox FE.fd at HW1
 unfold FE.fd at HCell x0 x1 x2 x3 x4 x5 x6 x7 x8
 simp only at HW1 HCell x0 x1 x2 x3 x4 x5 x6 x7 x8
 by_cases h1:kind=1
 ·have t1:(kind == 1)=true:=beq_iff_eq.2 h1
  have HO:=Lib.hid (show ∀ u:ByteArray,u.data.toList=K.data.toList ++ ([32] ++ (nm.data.toList ++ ([32] ++ T.data.toList)))->Ending.returned (.string u)=.returned (.string ⟨(flL (flE ⟨nm,kind,ty,x,B,m,c⟩)).toArray⟩) from fun u hu => HOut.out u (by rw [hu,if_neg (by omega),List.append_nil]))
  clear h1 HOut HX
  go_enter Tryz.func13,Tryz.ntmps13
  go_upto_region 1 with fail
  rw [HW1.out,HB1.out]
  first | (go_quiet (fail)) | (fail)
  go_wp2_with fail
  go_ret
  exact ⟨HO.out _ (by simp),b_drewN HB.out _⟩
 ·have t1:(kind == 1)=false:=beq_eq_false_iff_ne.2 h1
  have h1k:1 < kind:=by have:=i5.out; omega
  have hck:=HX.out h1k
  have HO:=Lib.hid (show ∀ u:ByteArray,u.data.toList=K.data.toList ++ ([32] ++ (nm.data.toList ++ ([32] ++ T.data.toList))) ++ (eqW ++ Ex.txt x)->Ending.returned (.string u)=.returned (.string ⟨(flL (flE ⟨nm,kind,ty,x,B,m,c⟩)).toArray⟩) from fun u hu => HOut.out u (by rw [hu,if_pos h1k]))
  simp only [hck,if_pos] at HP
  rw [← HTx.out] at HP
  have hts:t.size<=6000:=by show t.data.toList.length<=_; rw [HTx.out]; exact txt_le hck
  have htl:t.data.toList=Ex.txt x:=by rw [HTx.out]
  have HTl:=Lib.hid htl
  clear h1 h1k HOut HX hck htl
  go_enter Tryz.func13,Tryz.ntmps13
  go_upto_region 1 with fail
  rw [HW1.out,HB1.out]
  first | (go_quiet (fail)) | (fail)
  go_wp2_with fail
  refine (HP.out _ (b_drewN (Below.refl _ _) _)).mono ?_; rintro r w1 ⟨rfl,hb2⟩
  have HB2:=Lib.hid (b_trans HB.out ((b_drewN (Below.refl _ _) _).trans hb2))
  clear hb2
  go_wp2_with fail
  go_ret
  exact ⟨HO.out _ (by simp [HTl.out]),HB2.out⟩
theorem join_any (L:List ByteArray) (A:Option Addr) (c:Nat) (sep:ByteArray) (w:World) (h:TRow w A L) (hcap:L.length<=c) (hN:L.length<=140737488355328) (hlen:(Lib.join (L.map (·.data.toList)) sep.data.toList).length<=140737488355328) :
  Calls Tryz.prog 9 #[.slice A L.length c,.string sep] w fun e w' => e=.returned (.string ⟨(Lib.join (L.map (·.data.toList)) sep.data.toList).toArray⟩)/\Below w.heap.size w w':=by
 rcases Nat.eq_zero_or_pos L.length with h0 | h0
 ·obtain rfl:=List.eq_nil_of_length_eq_zero h0
  refine (Tryz.strings_Join_none A c sep w).mono fun e w' h => ?_
  obtain ⟨rfl,rfl⟩:=h
  exact ⟨rfl,Below.refl _ _⟩
 ·obtain ⟨a,rfl,hc0⟩:=h 0 h0
  have hsp:a.spot=none:=by
   unfold Addr.add at hc0
   rw [if_pos rfl] at hc0
   unfold World.cell? at hc0
   split at hc0
   ·split at hc0
    ·cases hc0
    ·rename_i hs; simpa using hs
   ·cases hc0
  obtain ⟨b,o,sp⟩:=a
  simp only at hsp
  subst hsp
  refine Tryz.strings_Join b o c L sep w (fun j x hj => ?_) (by have:=cell_lt' hc0; rwa [block_of_add] at this) hN hcap hlen
  obtain ⟨hjl,rfl⟩:=List.getElem?_eq_some_iff.1 hj
  obtain ⟨a,e,hc⟩:=h j hjl
  injection e with e
  subst e
  unfold Addr.add at hc
  by_cases hz:j=0
  ·subst hz; rw [if_pos rfl] at hc; exact hc
  ·rw [if_neg hz] at hc; exact hc
set_option maxRecDepth 100000 in
set_option maxHeartbeats 4000000 in
theorem pageLine_any (e:PE) (w:World) (hf:PlOk (plE e)) (hx:bareB e.x.d e.m ≠ true->e.x.checkE=0) (hfew:e.fs.length<=14) (hrow:TRow w e.F e.fs) (hcap:e.fs.length<=e.fc) (his:Is w e.x e.x.d e.B e.m) (hv:TVars w) :
  Calls Tryz.prog 14 #[.agg #[.string e.nm,.slice e.F e.fs.length e.fc,.int .i64 e.x.d.op,.int .i64 e.x.d.k,.int .i64 e.x.d.n,.string e.x.d.s,.string e.x.d.nm,.slice e.B e.m e.c]] w fun r w' => r=.returned (.string ⟨(plL (plE e)).toArray⟩)/\Below w.heap.size w w':=by
 have hn:e.nm.data.toList.length<=10:=(nmB_parts hf.nm).2.1
 have hns:e.nm.size<=10:=hn
 have hfs:∀ s ∈ e.fs,s.data.toList.length<=10:=fun s hs => (nmB_parts (hf.fs s.data.toList (List.mem_map.2 ⟨s,hs,rfl⟩))).2.1
 obtain ⟨J,hJ⟩:∃ J:ByteArray,J=⟨(commas (e.fs.map fun s => s.data.toList)).toArray⟩:=⟨_,rfl⟩
 have hJl:J.data.toList=commas (e.fs.map fun s => s.data.toList):=by rw [hJ]
 have hJs:J.size<=1000:=by
  show J.data.toList.length<=_
  rw [hJl]
  have:=commas_len (e.fs.map fun s => s.data.toList) 10 (fun s hs => by obtain ⟨t,ht,rfl⟩:=List.mem_map.1 hs; exact hfs t ht)
  rw [List.length_map] at this
  omega
 have hjoin:∀ V,Below w.heap.size w V->Calls Tryz.prog 9 #[.slice e.F e.fs.length e.fc,.string ⟨#[44,32]⟩] V fun r w' => r=.returned (.string J)/\Below V.heap.size V w':=fun V hV => by
  have:=join_any e.fs e.F e.fc ⟨#[44,32]⟩ V (hrow.below hV) hcap (by omega) (by
   rw [show (⟨#[44,32]⟩:ByteArray).data.toList=[44,32] from rfl,join_commas,← hJl]
   show J.size<=_
   omega)
  rw [show (⟨#[44,32]⟩:ByteArray).data.toList=[44,32] from rfl,join_commas,← hJ] at this
  exact this
 obtain ⟨W1,hW1⟩:∃ V,w.alloc (pgBox e)=V:=⟨_,rfl⟩
 obtain ⟨B1,hB1⟩:∃ B,w.heap.size=B:=⟨_,rfl⟩
 have hb1:=b_new w (pgBox e)
 have hcell:=pg_cells w e
 rw [hW1] at hb1 hcell
 rw [hB1] at hcell
 obtain ⟨x0,x1,x2,x3,x4,x5,x6,x7⟩:=hcell W1 (Below.refl _ _)
 have hnev:∀ V,Below W1.heap.size W1 V->Calls Tryz.prog 30 _ V _:=fun V hV => PgB.never_any e V
 have hp:∀ V,Below W1.heap.size W1 V->Calls Tryz.prog 29 _ V _:=fun V hV => PrT.print_any e.x e.x.d e.B e.m e.c V ((his.below hb1).below hV) ((hv.below hb1).pr.below hV)
 obtain ⟨t,htx⟩:∃ t:ByteArray,t=⟨(Ex.txt e.x).toArray⟩:=⟨_,rfl⟩
 have s1:=adds ⟨#[112,97,103,101,32]⟩ e.nm (by decide) (by omega)
 have s2:=adds (⟨#[112,97,103,101,32]⟩ ++ e.nm) ⟨#[58,32]⟩ (by rw [ByteArray.size_append]; show 5 + _<=_; omega) (by decide)
 have s3:=adds (⟨#[112,97,103,101,32]⟩ ++ e.nm ++ ⟨#[58,32]⟩) J (by rw [ByteArray.size_append,ByteArray.size_append]; show 5 + _ + 2<=_; omega) (by omega)
 have hout:∀ u:ByteArray,u.data.toList=pgW ++ (e.nm.data.toList ++ (coW ++ J.data.toList)) ++ skL (if (!bareB e.x.d e.m)=true then some (Ex.txt e.x) else none)->Ending.returned (.string u)=.returned (.string ⟨(plL (plE e)).toArray⟩):=fun u hu => str_inj (by
  rw [hu,hJl]
  show _=pageL _ _ _
  unfold pageL plE
  simp only [List.append_assoc])
 obtain ⟨b,hb⟩:∃ b,bareB e.x.d e.m=b:=⟨_,rfl⟩
 rw [hb] at hout hx hnev
 have HJ:=Lib.hid (fun V hV => hjoin V (b_trans hb1 hV))
 have HN:=Lib.hid hnev
 have HP:=Lib.hid hp
 have HB:=Lib.hid hb1
 have HCell:=Lib.hid hcell
 have HW1:=Lib.hid hW1
 have HB1:=Lib.hid hB1
 have HOut:=Lib.hid hout
 have HX:=Lib.hid hx
 have HTx:=Lib.hid htx
 have hbl:=Below.refl W1.heap.size W1
 clear hjoin hnev hp hb1 hcell hW1 hB1 hout hx htx hf hn hv his hJ hJl hfs hrow hcap hfew hb
 unfold pgBox at HW1
 generalize e.x.d=d at *
 generalize e.fs.length=fl at *
 go_enter Tryz.func14,Tryz.ntmps14
 go_upto_region 1 with fail
 rw [HW1.out,HB1.out]
 go_region_held3 (fun V => V.cell? ⟨B1,0,none⟩=some (.string e.nm)/\V.cell? ⟨B1,1,none⟩=some (.slice e.F fl e.fc)) (first | (with_reducible exact ⟨(HCell.out _ hbl).1,(HCell.out _ hbl).2.1⟩) | (with_reducible exact ⟨(HCell.out _ (b_drew hbl)).1,(HCell.out _ (b_drew hbl)).2.1⟩)) (first | (go_at_call 9; (with_reducible refine (HJ.out _ ?_).mono ?_); (first | exact hbl | exact b_drew hbl); rintro r w2 ⟨rfl,hb2⟩; have hbl:Below W1.heap.size W1 w2:=(by first | exact hbl.trans (hb2.mono hbl.size) | exact (b_drew hbl).trans (hb2.mono hbl.size)); obtain ⟨x0,x1,x2,x3,x4,x5,x6,x7⟩:=HCell.out w2 hbl; clear hb2) | (fail))
 all_goals
  have HBl:=Lib.hid hbl
  clear hbl s1 s2 s3
  go_wp2_with fail
  refine (HN.out _ HBl.out).mono ?_; rintro r w3 ⟨rfl,hb3⟩
  have hbl:=b_trans HBl.out hb3
  obtain ⟨x0,x1,x2,x3,x4,x5,x6,x7⟩:=HCell.out w3 hbl
  have HB3:=Lib.hid hbl
  clear hb3 hbl
  cases b with
  | true =>
   go_wp2_with fail
   go_ret
   exact ⟨HOut.out _ (by simp [skL]),b_trans HB.out HB3.out⟩
  | false =>
   have hck:=HX.out (by decide)
   simp only [hck,if_pos] at HP
   rw [← HTx.out] at HP
   have hts:t.size<=6000:=by show t.data.toList.length<=_; rw [HTx.out]; exact txt_le hck
   have htl:t.data.toList=Ex.txt e.x:=by rw [HTx.out]
   have HTl:=Lib.hid htl
   clear hck htl
   go_wp2_with fail
   refine (HP.out _ HB3.out).mono ?_; rintro r w4 ⟨rfl,hb4⟩
   have HB4:=Lib.hid (b_trans HB.out (b_trans HB3.out hb4))
   clear hb4
   go_wp2_with fail
   go_ret
   exact ⟨HOut.out _ (by simp [HTl.out,skL]),HB4.out⟩
def linesB (es:List FE) (ps:List PE):List ByteArray:=(linesF (es.map flE) (ps.map plE)).map fun l => ⟨l.toArray⟩
theorem linesB_len (es:List FE) (ps:List PE):(linesB es ps).length=es.length + ps.length:=by unfold linesB linesF; simp
theorem linesB_fl (es:List FE) (ps:List PE) (k:Nat) (h:k < es.length) (h2:k < (linesB es ps).length):(linesB es ps)[k]=⟨(flL (flE es[k])).toArray⟩:=by
 unfold linesB linesF at h2 ⊢
 rw [List.getElem_map,List.getElem_append_left (by simpa using h),List.getElem_map,List.getElem_map]
theorem linesB_pl (es:List FE) (ps:List PE) (k:Nat) (h:k < ps.length) (h2:es.length + k < (linesB es ps).length):(linesB es ps)[es.length + k]=⟨(plL (plE ps[k])).toArray⟩:=by
 unfold linesB linesF at h2 ⊢
 rw [List.getElem_map,List.getElem_append_right (by simp)]
 simp
theorem join_lines:∀ ls:List (List UInt8),Lib.join ls [10]=joinN ls
 | [] => rfl
 | [a] => Lib.join_one a [10]
 | a :: b :: r => by
  have ih:=join_lines (b :: r)
  unfold Lib.join List.intercalate at ih ⊢
  have e:joinN (a :: b :: r)=a ++ (10 :: joinN (b :: r)):=rfl
  rw [e,← ih]
  simp
theorem join_linesB (es:List FE) (ps:List PE):Lib.join ((linesB es ps).map (·.data.toList)) (⟨#[10]⟩:ByteArray).data.toList=formL es ps:=by
 rw [show (⟨#[10]⟩:ByteArray).data.toList=[10] from rfl,join_lines]
 unfold formL linesB
 rw [List.map_map]
 congr 1
 exact List.map_id _
structure LbI (w:World) (L:List ByteArray) (k:Nat) (v:Value) (wr:World):Prop where
 le:k<=L.length
 own:wr.ownsRow w.heap.size 9 1 v k (NmA.strV (L.take k))
 below:Below w.heap.size w wr
theorem LbI.step {w wr w1 w3:World} {L:List ByteArray} {k:Nat} {v v':Value} {o2:Obj} (h:LbI w L k v wr) (hk:k < L.length) (hb:Below wr.heap.size wr w1)
  (ho:w3.ownsRow w.heap.size 9 1 v' (k + 1) (NmA.strV (L.take k) ++ [.string L[k]])) (hg:(w1.alloc o2).grownBy w3 v.ownBlock):LbI w L (k + 1) v' w3:=by
 have hs:=h.below.size
 have hb1:Below w.heap.size w w1:=b_trans h.below hb
 refine ⟨hk,?_,(hb1.alloc hb1.size _).grown hg (by have:=hb1.size; simp; omega) (fun g hg => (h.own.lt g hg).1)⟩
 rw [List.take_succ_eq_append_getElem hk]
 unfold NmA.strV at ho ⊢
 rw [List.map_append]
 exact ho
theorem fl_pass {w:World} {es:List FE} {ps:List PE} {X:Nat->Ex} (h:FormOk w es ps X) (k:Nat) (hk:k < es.length):FlOk (flE es[k])/\(1 < es[k].kind->es[k].x.checkE=0) :=
 ⟨h.fl.1 _ (List.mem_map.2 ⟨es[k],List.getElem_mem hk,rfl⟩),h.fl.2 _ (List.mem_map.2 ⟨es[k],List.getElem_mem hk,rfl⟩)⟩
theorem pl_pass {w:World} {es:List FE} {ps:List PE} {X:Nat->Ex} (h:FormOk w es ps X) (k:Nat) (hk:k < ps.length):PlOk (plE ps[k])/\(bareB ps[k].x.d ps[k].m ≠ true->ps[k].x.checkE=0) :=
 ⟨h.pl.1 _ (List.mem_map.2 ⟨ps[k],List.getElem_mem hk,rfl⟩),fun hb => h.pl.2 _ (List.mem_map.2 ⟨ps[k],List.getElem_mem hk,rfl⟩) (by show (!bareB ps[k].x.d ps[k].m)=true; simpa using hb)⟩
theorem pl_few {w:World} {es:List FE} {ps:List PE} {X:Nat->Ex} (h:FormOk w es ps X) (i:Nat) (hi:i < ps.length):ps[i].fs.length<=14:=by
 have h0:=((page_zero h.pages).2 i hi).1
 unfold pageE at h0
 rw [dif_pos hi,if_pos ((page_zero h.pages).2 i hi).2.1,if_neg ((page_zero h.pages).2 i hi).2.2] at h0
 by_cases h6:scan (nameE (es.map FE.fd) (metP ps i) ps[i].fs) ps[i].fs.length=0
 ·have:=names_few h6
  rw [List.length_map] at this
  have:=h.few.1
  omega
 ·rw [if_neg h6] at h0; exact absurd h0 h6
set_option maxRecDepth 100000 in
set_option maxHeartbeats 8000000 in
theorem print_any (es:List FE) (ps:List PE) (X:Nat->Ex) (FA:Option Addr) (fc:Nat) (PA:Option Addr) (pc:Nat) (R:Int) (w:World) (hfl:Flds w FA (es.map FE.fd)) (hpg:Pgs w PA ps) (hok:PgsOk w ps) (hcp:∀ e ∈ ps,e.fs.length<=e.fc) (hn:es.length<=1048576) (hpn:ps.length<=1048576)
  (hR:R=0->FormOk w es ps X) (hC:∀ V,Below w.heap.size w V->Calls Tryz.prog 12 #[.agg #[.slice FA es.length fc,.slice PA ps.length pc]] V fun e w' => e=.returned (.int .i64 R)/\Below V.heap.size V w') (hv:TVars w) :
  Calls Tryz.prog 4 #[.agg #[.slice FA es.length fc,.slice PA ps.length pc]] w fun e w' => e=.returned (.tuple #[.string ⟨(if R=0 then formL es ps else []).toArray⟩,.int .i64 R])/\Below w.heap.size w w':=by
 obtain ⟨i0,hi,hz0,hz1,hz2⟩:=info_parts GenL.infoStr
 obtain ⟨W1,hW1⟩:∃ V,w.alloc (frBox FA es.length fc PA ps.length pc)=V:=⟨_,rfl⟩
 obtain ⟨B1,hB1⟩:∃ B,w.heap.size=B:=⟨_,rfl⟩
 have hb1:=b_new w (frBox FA es.length fc PA ps.length pc)
 have hcell:=fr_cells w FA es.length fc PA ps.length pc
 rw [hW1] at hb1 hcell
 rw [hB1] at hcell
 obtain ⟨x0,x1⟩:=hcell W1 (Below.refl _ _)
 have HC:=Lib.hid hC
 have HB:=Lib.hid hb1
 have HCell:=Lib.hid hcell
 have HW1:=Lib.hid hW1
 have HB1:=Lib.hid hB1
 have HR:=Lib.hid hR
 have HF:=Lib.hid hfl
 have HP:=Lib.hid hpg
 have HOk:=Lib.hid hok
 have HV:=Lib.hid hv
 have HCp:=Lib.hid hcp
 clear hC hb1 hcell hW1 hB1 hR hfl hpg hok hv hcp
 unfold frBox at HW1
 by_cases h0:R=0
 ·subst h0
  rw [if_pos rfl]
  have hform:=HR.out rfl
  have hfew:=hform.few
  obtain ⟨L,hL⟩:∃ L,linesB es ps=L:=⟨_,rfl⟩
  have hLl:L.length=es.length + ps.length:=by rw [← hL]; exact linesB_len es ps
  have hline:∀ (k:Nat) (h:k < es.length),∃ s:ByteArray,L[k]?=some s/\∀ V,Below w.heap.size w V->Calls Tryz.prog 13 #[.agg #[.string es[k].nm,.int .i64 es[k].kind,.int .i64 es[k].ty,.int .i64 es[k].x.d.op,.int .i64 es[k].x.d.k,.int .i64 es[k].x.d.n,.string es[k].x.d.s,.string es[k].x.d.nm,.slice es[k].B es[k].m es[k].c]] V fun r w' => r=.returned (.string s)/\Below V.heap.size V w':=fun k hk => by
   have h2:k < (linesB es ps).length:=by rw [linesB_len]; omega
   have hpass:=fl_pass hform k hk
   refine ⟨⟨(flL (flE es[k])).toArray⟩,by rw [← hL,List.getElem?_eq_getElem h2,linesB_fl es ps k hk h2],fun V hV => fieldLine_any es[k] V hpass.1 hpass.2 ((hform.fi k hk).below hV) (HV.out.below hV)⟩
  have hpline:∀ (k:Nat) (h:k < ps.length),∃ s:ByteArray,L[es.length + k]?=some s/\∀ V,Below w.heap.size w V->Calls Tryz.prog 14 #[.agg #[.string ps[k].nm,.slice ps[k].F ps[k].fs.length ps[k].fc,.int .i64 ps[k].x.d.op,.int .i64 ps[k].x.d.k,.int .i64 ps[k].x.d.n,.string ps[k].x.d.s,.string ps[k].x.d.nm,.slice ps[k].B ps[k].m ps[k].c]] V fun r w' => r=.returned (.string s)/\Below V.heap.size V w':=fun k hk => by
   have h2:es.length + k < (linesB es ps).length:=by rw [linesB_len]; omega
   have hpass:=pl_pass hform k hk
   have hmem:=List.getElem_mem hk
   refine ⟨⟨(plL (plE ps[k])).toArray⟩,by rw [← hL,List.getElem?_eq_getElem h2,linesB_pl es ps k hk h2],fun V hV => pageLine_any ps[k] V hpass.1 hpass.2 (pl_few hform k hk) ((HOk.out _ hmem).row.below hV) (HCp.out _ hmem) ((hform.pi k hk).below hV) (HV.out.below hV)⟩
  have hjoin:∀ (g cap:Nat) (V:World),(∀ (j:Nat) x,L[j]?=some x->V.cell? ⟨g,0 + j,none⟩=some (.string x))->g < V.heap.size->L.length<=cap->Calls Tryz.prog 9 #[.slice (some ⟨g,0,none⟩) (es.length + ps.length) cap,.string ⟨#[10]⟩] V fun r w' => r=.returned (.string ⟨(formL es ps).toArray⟩)/\Below V.heap.size V w':=fun g cap V hc hg hcap => by
   have:=Tryz.strings_Join g 0 cap L ⟨#[10]⟩ V hc hg (by omega) hcap (by rw [← hL,join_linesB]; have:=hform.size; omega)
   rw [hLl,← hL,join_linesB] at this
   exact this
  obtain ⟨out,hout⟩:∃ out:ByteArray,out=⟨(formL es ps).toArray⟩:=⟨_,rfl⟩
  rw [← hout] at hjoin ⊢
  have HLine:=Lib.hid hline
  have HPLine:=Lib.hid hpline
  have HJoin:=Lib.hid hjoin
  have HLl:=Lib.hid hLl
  have HFew:=Lib.hid hfew
  obtain ⟨en,hen⟩:∃ en,es.length=en:=⟨_,rfl⟩
  have hF':∀ V,Below w.heap.size w V->∀ k (h:k < es.length),∃ ad,FA=some ad/\FdAt V (ad.add (k * 9)) es[k].fd:=fun V hV k hk => by
   obtain ⟨ad,e,hat⟩:=HF.out.below hV k (by rw [List.length_map]; exact hk)
   rw [List.getElem_map] at hat
   exact ⟨ad,e,hat⟩
  have HF':=Lib.hid hF'
  clear hform hfew hL hLl hline hpline hjoin hout hF' hen HR
  go_enter Tryz.func4,Tryz.ntmps4
  go_upto_region 1 with fail
  rw [HW1.out,HB1.out]
  go_wp2_with fail
  refine (HC.out _ HB.out).mono ?_; rintro e w1 ⟨rfl,hb1⟩
  obtain ⟨c0,c1⟩:=HCell.out w1 hb1
  have HB2:=Lib.hid (b_trans HB.out hb1)
  have HBx:=Lib.hid hb1
  clear hb1
  go_wp2_with fail
  go_loopw [5,7,18] (fun v _ ii wr => ∃ (k:Nat) (u:Value),u=v/\ii=.int .i64 k/\k<=es.length/\LbI w1 L k u wr) (fun _ _ ii _ => es.length - (intOf ii).toNat)
  case atStart => exact ⟨0,_,rfl,rfl,Nat.zero_le _,⟨Nat.zero_le _,World.ownsRow_nil _ _ _ _,Below.refl _ _⟩⟩
  case round =>
   obtain ⟨k,v,rfl,rfl,hk,hI⟩:=hrel
   obtain ⟨wa,rfl⟩:∃ V,V=wr:=⟨_,rfl⟩
   by_cases hlt:k < es.length
   ·obtain ⟨ad,rfl,hat⟩:=HF'.out wa (b_trans HB2.out hI.below) k hlt
    obtain ⟨ln,hln,hcall⟩:=HLine.out k hlt
    obtain ⟨f,hfk⟩:∃ f,es[k]=f:=⟨_,rfl⟩
    rw [hfk] at hat hcall
    obtain ⟨q0,q1,q2,q3,q4,q5,q6,q7,q8⟩:=hat
    unfold FE.fd at q0 q1 q2 q3 q4 q5 q6 q7 q8
    simp only at q0 q1 q2 q3 q4 q5 q6 q7 q8
    obtain ⟨W5,hW5⟩:∃ V,wa.alloc (fdBox f.fd)=V:=⟨_,rfl⟩
    obtain ⟨B9,hB9⟩:∃ B,wa.heap.size=B:=⟨_,rfl⟩
    have hb5:=b_new wa (fdBox f.fd)
    have hcl:=fd_nine wa f.fd
    rw [hW5,hB9] at hcl
    rw [hW5] at hb5
    unfold FE.fd at hcl
    simp only at hcl
    obtain ⟨z0,z1,z2,z3,z4,z5,z6,z7,z8⟩:=hcl W5 (Below.refl _ _)
    have hbL:=hI.below
    have HCall:=Lib.hid (hcall W5 (b_trans HB2.out (b_trans hbL hb5)))
    have HI:=Lib.hid hI
    have HLn:=Lib.hid hln
    have HW5:=Lib.hid hW5
    have HB9:=Lib.hid hB9
    have HB5:=Lib.hid hb5
    clear hcl hcall hI hln hW5 hB9 hb5 hbL hfk
    unfold fdBox FE.fd at HW5
    go_upto_region 8 with fail
    rw [HW5.out,HB9.out]
    go_wp2_with fail
    refine HCall.out.mono ?_; rintro e w6 ⟨rfl,hb6⟩
    have hown:=(own_below HI.out.own (b_trans HB5.out hb6)).alloc (.cells #[.string ln] 9)
    have hz9:w1.heap.size<=w6.heap.size:=(b_trans HI.out.below (b_trans HB5.out hb6)).size
    have hkl:k<=1048576:=by omega
    have HB6:=Lib.hid (b_trans HB5.out hb6)
    clear hb6
    go_wp2_with (at_builtin; refine wpList_append_own _ rfl _ _ 31 rfl w1.heap.size 9 i0 (.string ⟨#[]⟩) 1 16 Tryz.underlying31 hi hz0 hz1 hz2 rfl (by decide) _ _ _ rfl hown ⟨w6.heap.size,0,none⟩ 1 1 [.string ln] rfl rfl ?c1 ?c2 ?c3 ?c4 ?c5 ?_)
    case c1 =>
     intro j y hj
     match j,hj with
     | 0,hj => simp at hj; subst hj; simp [Addr.add]
     | j + 1,hj => simp at hj
    case c2 => intro y hy; simp at hy; subst hy; rfl
    case c3 => unfold maxLen; omega
    case c4 => omega
    case c5 => simp; omega
    intro v' w3 hown3 hgrow _
    have hkL:k < L.length:=by have:=HLl.out; omega
    have hLk:L[k]=ln:=by
     have:=HLn.out
     rw [List.getElem?_eq_getElem hkL] at this
     injection this
    rw [← hLk] at hown3
    have hN:=HI.out.step hkL HB6.out hown3 hgrow
    have HN:=Lib.hid hN
    clear hN hown3 hgrow hown hLk hkL
    go_wp2
    go_roundw
    case rel => exact ⟨k + 1,_,rfl,by go_num,by omega,HN.out⟩
    case measure => simp [intOf]; omega
   ·have hke:k=es.length:=by omega
    subst hke
    have hb2:=hI.below
    obtain ⟨c0,c1⟩:=HCell.out wa (b_trans HBx.out hb2)
    have HI2:=Lib.hid hI
    clear hI hb2 hlt
    go_wp2_with fail
    go_loopw [5,9,31] (fun v _ ii wr => ∃ (k:Nat) (u:Value),u=v/\ii=.int .i64 k/\k<=ps.length/\LbI w1 L (es.length + k) u wr) (fun _ _ ii _ => ps.length - (intOf ii).toNat)
    case atStart => exact ⟨0,_,rfl,rfl,Nat.zero_le _,HI2.out⟩
    case round =>
     obtain ⟨k,v,rfl,rfl,hk,hI⟩:=hrel
     obtain ⟨wb,rfl⟩:∃ V,V=wr:=⟨_,rfl⟩
     by_cases hlt:k < ps.length
     ·obtain ⟨ad,rfl,hat⟩:=HP.out.below (b_trans HB2.out hI.below) k hlt
      obtain ⟨ln,hln,hcall⟩:=HPLine.out k hlt
      obtain ⟨f,hfk⟩:∃ f,ps[k]=f:=⟨_,rfl⟩
      rw [hfk] at hat hcall
      obtain ⟨q0,q1,q2,q3,q4,q5,q6,q7⟩:=hat
      obtain ⟨W5,hW5⟩:∃ V,wb.alloc (pgBox f)=V:=⟨_,rfl⟩
      obtain ⟨B9,hB9⟩:∃ B,wb.heap.size=B:=⟨_,rfl⟩
      have hb5:=b_new wb (pgBox f)
      have hcl:=pg_cells wb f
      rw [hW5,hB9] at hcl
      rw [hW5] at hb5
      obtain ⟨z0,z1,z2,z3,z4,z5,z6,z7⟩:=hcl W5 (Below.refl _ _)
      have hbL:=hI.below
      have HCall:=Lib.hid (hcall W5 (b_trans HB2.out (b_trans hbL hb5)))
      have HI:=Lib.hid hI
      have HLn:=Lib.hid hln
      have HW5:=Lib.hid hW5
      have HB9:=Lib.hid hB9
      have HB5:=Lib.hid hb5
      clear hcl hcall hI hln hW5 hB9 hb5 hbL hfk
      unfold pgBox at HW5
      go_upto_region 13 with fail
      rw [HW5.out,HB9.out]
      go_wp2_with fail
      refine HCall.out.mono ?_; rintro e w6 ⟨rfl,hb6⟩
      have hown:=(own_below HI.out.own (b_trans HB5.out hb6)).alloc (.cells #[.string ln] 9)
      have hz9:w1.heap.size<=w6.heap.size:=(b_trans HI.out.below (b_trans HB5.out hb6)).size
      have hkl:k<=1048576:=by omega
      have HB6:=Lib.hid (b_trans HB5.out hb6)
      clear hb6
      go_wp2_with (at_builtin; refine wpList_append_own _ rfl _ _ 31 rfl w1.heap.size 9 i0 (.string ⟨#[]⟩) 1 16 Tryz.underlying31 hi hz0 hz1 hz2 rfl (by decide) _ _ _ rfl hown ⟨w6.heap.size,0,none⟩ 1 1 [.string ln] rfl rfl ?c1 ?c2 ?c3 ?c4 ?c5 ?_)
      case c1 =>
       intro j y hj
       match j,hj with
       | 0,hj => simp at hj; subst hj; simp [Addr.add]
       | j + 1,hj => simp at hj
      case c2 => intro y hy; simp at hy; subst hy; rfl
      case c3 => unfold maxLen; omega
      case c4 => omega
      case c5 => simp; omega
      intro v' w3 hown3 hgrow _
      have hkL:es.length + k < L.length:=by have:=HLl.out; omega
      have hLk:L[es.length + k]=ln:=by
       have:=HLn.out
       rw [List.getElem?_eq_getElem hkL] at this
       injection this
      rw [← hLk] at hown3
      have hN:=HI.out.step hkL HB6.out hown3 hgrow
      have HN:=Lib.hid hN
      clear hN hown3 hgrow hown hLk hkL
      go_wp2
      go_roundw
      case rel => exact ⟨k + 1,_,rfl,by go_num,by omega,HN.out⟩
      case measure => simp [intOf]; omega
     ·have hke:k=ps.length:=by omega
      subst hke
      have hown:=hI.own
      rw [List.take_of_length_le (by have:=HLl.out; omega)] at hown
      obtain ⟨g,cap,rfl,_,hgl,hlc,hcm,hcl⟩:=own_form hown (by have:=HFew.out; omega)
      have hcells:∀ (j:Nat) x,L[j]?=some x->wb.cell? ⟨g,0 + j,none⟩=some (.string x):=fun j x hjx => by
       have hjl:j < L.length:=(List.getElem?_eq_some_iff.1 hjx).1
       rw [Nat.zero_add,hcl j (by have:=HLl.out; omega)]
       unfold NmA.strV
       rw [List.getElem?_map,hjx]; rfl
      have hj:=HJoin.out g cap wb hcells hgl (by have:=HLl.out; omega)
      have HJ:=Lib.hid hj
      have HBb:=Lib.hid (b_trans HB2.out hI.below)
      clear hj hown hcl hI hcells hlc
      go_wp2_with fail
      refine HJ.out.mono ?_; rintro e w9 ⟨rfl,hb9⟩
      have HB9:=Lib.hid (b_trans HBb.out hb9)
      clear hb9
      go_wp2_with fail
      go_ret2
      exact ⟨rfl,HB9.out⟩
 ·rw [if_neg h0]
  have t1:(R != 0)=true:=bne_iff_ne.2 h0
  clear h0 HR
  go_enter Tryz.func4,Tryz.ntmps4
  go_upto_region 1 with fail
  rw [HW1.out,HB1.out]
  go_wp2_with fail
  refine (HC.out _ HB.out).mono ?_; rintro e w1 ⟨rfl,hb1⟩
  have HB2:=Lib.hid (b_trans HB.out hb1)
  clear hb1
  go_wp2_with fail
  go_ret2
  exact ⟨rfl,HB2.out⟩
end TxQ
namespace TxW
open Go.RowKit
open ValM LexM NumM ExM NmM ShowM PrM Kit ExL ExP ExN RawV Within RawL GenL FldP FldR FldC FrmM PgM PgA ShT TxM TxR TxP TxT Prn TxQ
set_option linter.unusedVariables false
theorem kd_at (k:Nat) (h:k < 4) (w:World):(Instr.index 81 (.agg #[.string ⟨#[]⟩,.string ⟨#[105,110,112,117,116]⟩,.string ⟨#[102,111,114,109,117,108,97]⟩,.string ⟨#[108,111,111,107,117,112]⟩]) (.int .i64 k)).run Tryz.prog w=.ok (.string ⟨(kdN.getD k []).toArray⟩) w:=by
 obtain rfl | rfl | rfl | rfl:k=0 ∨ k=1 ∨ k=2 ∨ k=3:=by omega
 all_goals kernel_rfl
theorem kd_hit (s:List UInt8) (j:Nat) (hj:j < 4) (he:kdN.getD j []=s) (hno:∀ m,m < j->kdN.getD m [] ≠ s):wordOf kdN s=j:=by
 unfold wordOf
 obtain rfl | rfl | rfl | rfl:j=0 ∨ j=1 ∨ j=2 ∨ j=3:=by omega
 ·rw [if_pos he]; rfl
 ·rw [if_neg (hno 0 (by omega)),if_pos he]; rfl
 ·rw [if_neg (hno 0 (by omega)),if_neg (hno 1 (by omega)),if_pos he]; rfl
 ·rw [if_neg (hno 0 (by omega)),if_neg (hno 1 (by omega)),if_neg (hno 2 (by omega)),if_pos he]; rfl
theorem kd_miss (s:List UInt8) (hno:∀ m,m < 4->kdN.getD m [] ≠ s):wordOf kdN s=0:=by
 unfold wordOf
 rw [if_neg (hno 0 (by omega)),if_neg (hno 1 (by omega)),if_neg (hno 2 (by omega)),if_neg (hno 3 (by omega))]
set_option maxHeartbeats 2000000 in
theorem kindOf_any (s:ByteArray) (w:World) (hv:TVars w):Calls Tryz.prog 63 #[.string s] w fun e w' => e=.returned (.int .i64 (wordOf kdN s.data.toList))/\w=w':=by
 have q0:=kd_cell hv 0 (by omega); have q1:=kd_cell hv 1 (by omega); have q2:=kd_cell hv 2 (by omega); have q3:=kd_cell hv 3 (by omega)
 have hg:0 < w.heap.size:=World.block_lt_of_cell? w _ q0
 simp only [kdN,List.getD_cons_succ,List.getD_cons_zero,inW,foW,loW] at q0 q1 q2 q3
 obtain ⟨R,hR⟩:∃ R,wordOf kdN s.data.toList=R:=⟨_,rfl⟩
 rw [hR]
 have hhit:=kd_hit s.data.toList
 have hmiss:=kd_miss s.data.toList
 rw [hR] at hhit hmiss
 have HHit:=Lib.hid hhit
 have HMiss:=Lib.hid hmiss
 clear hv hR hhit hmiss
 go_enter Tryz.func63,Tryz.ntmps63
 go_wp2_with fail
 go_loop [3,4,6] (fun _ _ i => ∃ j:Nat,j<=4/\i=.int .i64 j/\∀ m,m < j->kdN.getD m [] ≠ s.data.toList) (fun _ _ i => 4 - (intOf i).toNat)
 case atStart => exact ⟨0,by omega,rfl,fun m hm => by omega⟩
 case round =>
  obtain ⟨j,hj,rfl,hno⟩:=hrel
  have HO:=Lib.hid hno
  clear hno
  clear q0 q1 q2 q3
  by_cases hlt:j < 4
  ·have ix:=fun W => kd_at j hlt W
   obtain ⟨p,hp⟩:∃ p:ByteArray,ByteArray.mk (kdN.getD j []).toArray=p:=⟨_,rfl⟩
   have hpl:p.data.toList=kdN.getD j []:=by rw [← hp]
   rw [hp] at ix
   by_cases hb:p=s
   ·have hH:=HHit.out j hlt (by rw [← hpl,hb]) HO.out
    have te:=eq_t hb
    clear hp hpl hb HHit HMiss HO
    go_wp2_with fail
    go_ret
    exact ⟨rfl,rfl⟩
   ·have te:=eq_f hb
    have HB:=Lib.hid (show kdN.getD j [] ≠ s.data.toList from fun e => hb (bytes_eq (by rw [hpl,e])))
    clear hp hpl hb HHit HMiss
    go_wp2_with fail
    go_round
    case rel => exact ⟨j + 1,by omega,by go_num,fun m hm => by
     by_cases g:m=j
     ·subst g; exact HB.out
     ·exact HO.out m (by omega)⟩
    case measure => simp [intOf]; omega
  ·have hN:=HMiss.out fun m hm => HO.out m (by omega)
   clear HHit HMiss HO
   go_wp2_with fail
   go_ret
   exact ⟨rfl,rfl⟩
theorem ty_at (k:Nat) (h:k < 4) (w:World):(Instr.index 81 (.agg #[.string ⟨#[]⟩,.string ⟨#[105,110,116]⟩,.string ⟨#[98,111,111,108]⟩,.string ⟨#[116,101,120,116]⟩]) (.int .i64 k)).run Tryz.prog w=.ok (.string ⟨(tyN.getD k []).toArray⟩) w:=by
 obtain rfl | rfl | rfl | rfl:k=0 ∨ k=1 ∨ k=2 ∨ k=3:=by omega
 all_goals kernel_rfl
theorem ty_hit (s:List UInt8) (j:Nat) (hj:j < 4) (he:tyN.getD j []=s) (hno:∀ m,m < j->tyN.getD m [] ≠ s):wordOf tyN s=j:=by
 unfold wordOf
 obtain rfl | rfl | rfl | rfl:j=0 ∨ j=1 ∨ j=2 ∨ j=3:=by omega
 ·rw [if_pos he]; rfl
 ·rw [if_neg (hno 0 (by omega)),if_pos he]; rfl
 ·rw [if_neg (hno 0 (by omega)),if_neg (hno 1 (by omega)),if_pos he]; rfl
 ·rw [if_neg (hno 0 (by omega)),if_neg (hno 1 (by omega)),if_neg (hno 2 (by omega)),if_pos he]; rfl
theorem ty_miss (s:List UInt8) (hno:∀ m,m < 4->tyN.getD m [] ≠ s):wordOf tyN s=0:=by
 unfold wordOf
 rw [if_neg (hno 0 (by omega)),if_neg (hno 1 (by omega)),if_neg (hno 2 (by omega)),if_neg (hno 3 (by omega))]
set_option maxHeartbeats 2000000 in
theorem typeOf_any (s:ByteArray) (w:World) (hv:TVars w):Calls Tryz.prog 64 #[.string s] w fun e w' => e=.returned (.int .i64 (wordOf tyN s.data.toList))/\w=w':=by
 have q0:=ty_cell hv 0 (by omega); have q1:=ty_cell hv 1 (by omega); have q2:=ty_cell hv 2 (by omega); have q3:=ty_cell hv 3 (by omega)
 have hg:1 < w.heap.size:=World.block_lt_of_cell? w _ q0
 simp only [tyN,List.getD_cons_succ,List.getD_cons_zero] at q0 q1 q2 q3
 obtain ⟨R,hR⟩:∃ R,wordOf tyN s.data.toList=R:=⟨_,rfl⟩
 rw [hR]
 have hhit:=ty_hit s.data.toList
 have hmiss:=ty_miss s.data.toList
 rw [hR] at hhit hmiss
 have HHit:=Lib.hid hhit
 have HMiss:=Lib.hid hmiss
 clear hv hR hhit hmiss
 go_enter Tryz.func64,Tryz.ntmps64
 go_wp2_with fail
 go_loop [3,4,6] (fun _ _ i => ∃ j:Nat,j<=4/\i=.int .i64 j/\∀ m,m < j->tyN.getD m [] ≠ s.data.toList) (fun _ _ i => 4 - (intOf i).toNat)
 case atStart => exact ⟨0,by omega,rfl,fun m hm => by omega⟩
 case round =>
  obtain ⟨j,hj,rfl,hno⟩:=hrel
  have HO:=Lib.hid hno
  clear hno
  clear q0 q1 q2 q3
  by_cases hlt:j < 4
  ·have ix:=fun W => ty_at j hlt W
   obtain ⟨p,hp⟩:∃ p:ByteArray,ByteArray.mk (tyN.getD j []).toArray=p:=⟨_,rfl⟩
   have hpl:p.data.toList=tyN.getD j []:=by rw [← hp]
   rw [hp] at ix
   by_cases hb:p=s
   ·have hH:=HHit.out j hlt (by rw [← hpl,hb]) HO.out
    have te:=eq_t hb
    clear hp hpl hb HHit HMiss HO
    go_wp2_with fail
    go_ret
    exact ⟨rfl,rfl⟩
   ·have te:=eq_f hb
    have HB:=Lib.hid (show tyN.getD j [] ≠ s.data.toList from fun e => hb (bytes_eq (by rw [hpl,e])))
    clear hp hpl hb HHit HMiss
    go_wp2_with fail
    go_round
    case rel => exact ⟨j + 1,by omega,by go_num,fun m hm => by
     by_cases g:m=j
     ·subst g; exact HB.out
     ·exact HO.out m (by omega)⟩
    case measure => simp [intOf]; omega
  ·have hN:=HMiss.out fun m hm => HO.out m (by omega)
   clear HHit HMiss HO
   go_wp2_with fail
   go_ret
   exact ⟨rfl,rfl⟩
end TxW
namespace TxN
open Go.RowKit
open ValM LexM NumM ExM NmM ShowM PrM Kit ExL ExP ExN RawV Within RawL GenL FldP FldR FldC FrmM NmA PgM PgA ShT TxM TxR TxP TxT Prn TxQ TxW
set_option linter.unusedVariables false
def Mx (w:World):Prop:=∃ m,w.cell? ⟨2,0,none⟩=some (.int .i64 m)
theorem Mx.below {w w':World} (h:Mx w) (hb:Below w.heap.size w w'):Mx w':=by
 obtain ⟨m,hm⟩:=h
 exact ⟨m,(hb.cell (p:=⟨2,0,none⟩) (cell_lt' hm)).trans hm⟩
theorem cut_none {s sep:ByteArray} {w:World} (hs:s.size<=2000000) (hm:Mx w) (hp:sep.data.toList ≠ []) (h:cutO s.data.toList sep.data.toList=none) :
  Calls Tryz.prog 59 #[.string s,.string sep] w fun e w' => e=.returned (.tuple #[.string s,.string ⟨#[]⟩,.bool false])/\∃ n,w'=w.drewN n:=by
 obtain ⟨m,hm⟩:=hm
 have:=Tryz.strings_Cut s sep m w (by omega) hm
 rw [cut_lib _ _ hp,h] at this
 simpa only [Lib.mk_data] using this
theorem cut_some {s sep a r:ByteArray} {w:World} (hs:s.size<=2000000) (hm:Mx w) (hp:sep.data.toList ≠ []) (h:cutO s.data.toList sep.data.toList=some (a.data.toList,r.data.toList)) :
  Calls Tryz.prog 59 #[.string s,.string sep] w fun e w' => e=.returned (.tuple #[.string a,.string r,.bool true])/\∃ n,w'=w.drewN n:=by
 obtain ⟨m,hm⟩:=hm
 have:=Tryz.strings_Cut s sep m w (by omega) hm
 rw [cut_lib _ _ hp,h] at this
 simpa only [Lib.mk_data] using this
theorem cut_cases (s sep:ByteArray) (hp:sep.data.toList ≠ []):cutO s.data.toList sep.data.toList=none ∨ ∃ a r:ByteArray,cutO s.data.toList sep.data.toList=some (a.data.toList,r.data.toList)/\r.size < s.size/\a.size<=s.size:=by
 cases h:cutO s.data.toList sep.data.toList with
 | none => exact .inl rfl
 | some q =>
  obtain ⟨a,r⟩:=q
  obtain ⟨h1,h2⟩:=cut_join hp h
  refine .inr ⟨⟨a.toArray⟩,⟨r.toArray⟩,rfl,h2,?_⟩
  show a.length<=s.data.toList.length
  rw [h1,List.length_append]; omega
theorem new_cell (w:World) (v:Value) (t:TypeId):(w.alloc (.cells #[v] t)).cell? ⟨w.heap.size,0,none⟩=some v:=by
 unfold World.cell?
 rw [World.alloc_heap_new]
 rfl
def NmI (s r:List UInt8) (done:List ByteArray) (b:Bool):Prop :=
 if b=true then s ≠ []/\Lib.split s cmW=(done.map fun t => t.data.toList) ++ Lib.split r cmW/\(∀ t ∈ done,nmB t.data.toList=true) else namesR s=some (done.map fun t => t.data.toList)
theorem nmI_start (s:List UInt8):NmI s s [] (decide (s ≠ [])):=by
 unfold NmI
 by_cases h:s=[]
 ·rw [if_neg (by simp [h])]
  unfold namesR; rw [if_pos h]; rfl
 ·rw [if_pos (by simp [h])]
  exact ⟨h,rfl,fun t ht => by cases ht⟩
theorem nmI_bad {s r a:List UInt8} {done:List ByteArray} {q:List (List UInt8)} (h:NmI s r done true) (he:Lib.split r cmW=a :: q) (hb:nmB a ≠ true):namesR s=none:=by
 obtain ⟨h1,h2,h3⟩:=h
 unfold namesR
 rw [if_neg h1,if_neg (fun hall => ?_)]
 rw [h2,he] at hall
 have:=List.all_eq_true.1 hall a (by simp)
 exact hb this
theorem nmI_last {s r:List UInt8} {a:ByteArray} {done:List ByteArray} (h:NmI s r done true) (he:Lib.split r cmW=[a.data.toList]) (hb:nmB a.data.toList=true) (r':List UInt8):NmI s r' (done ++ [a]) false:=by
 obtain ⟨h1,h2,h3⟩:=h
 unfold NmI namesR
 rw [if_neg (by decide),if_neg h1,if_pos]
 ·rw [h2,he]; simp
 ·rw [h2,he]
  refine List.all_eq_true.2 fun t ht => ?_
  rcases List.mem_append.1 ht with ht | ht
  ·obtain ⟨u,hu,rfl⟩:=List.mem_map.1 ht
   exact h3 u hu
  ·simp at ht; rw [ht]; exact hb
theorem nmI_more {s r r':List UInt8} {a:ByteArray} {done:List ByteArray} (h:NmI s r done true) (he:Lib.split r cmW=a.data.toList :: Lib.split r' cmW) (hb:nmB a.data.toList=true):NmI s r' (done ++ [a]) true:=by
 obtain ⟨h1,h2,h3⟩:=h
 unfold NmI
 rw [if_pos rfl]
 refine ⟨h1,by rw [h2,he]; simp,fun t ht => ?_⟩
 rcases List.mem_append.1 ht with ht | ht
 ·exact h3 t ht
 ·simp at ht; rw [ht]; exact hb
theorem nm_zero {l:List UInt8}:nmB l=true ↔ LexB.nameE l=0:=by rw [nmB_iff,decide_eq_true_eq]
def NamesOut (s:ByteArray) (w:World) (e:Ending) (w':World):Prop :=
 (namesR s.data.toList=none/\e=.returned (.tuple #[.slice none 0 0,.bool false]) ∨ ∃ v L,namesR s.data.toList=some (L.map fun t => t.data.toList)/\e=.returned (.tuple #[v,.bool true])/\w'.ownsRow w.heap.size 9 1 v L.length (strV L)/\L.length<=s.size + 1)/\Below w.heap.size w w'
set_option maxRecDepth 100000 in
set_option maxHeartbeats 8000000 in
theorem readNames_any (s:ByteArray) (w:World) (hs:s.size<=2000000) (hm:Mx w):Calls Tryz.prog 60 #[.string s] w (NamesOut s w):=by
 obtain ⟨i0,hi,hz0,hz1,hz2⟩:=info_parts GenL.infoStr
 have hst:=nmI_start s.data.toList
 obtain ⟨b0,hb0⟩:∃ b,decide (s.data.toList ≠ [])=b:=⟨_,rfl⟩
 rw [hb0] at hst
 have t0:(!s.toList.isEmpty)=b0:=by
  rw [← hb0]
  by_cases h:s=⟨#[]⟩
  ·rw [empty_t h,h]; rfl
  ·rw [empty_n h]
   have:s.data.toList ≠ []:=fun e => h (bytes_eq e)
   simp [this]
 have HM:=Lib.hid hm
 have HSt:=Lib.hid hst
 clear hm hst hb0
 go_enter Tryz.func60,Tryz.ntmps60
 go_wp2_with fail
 go_loopw [0,4,5,6] (fun lst v mo nm wr => ∃ (r:ByteArray) (done:List ByteArray) (b:Bool) (u:Value),lst=.string r/\u=v/\mo=.bool b/\NmI s.data.toList r.data.toList done b/\r.size<=s.size/\(b=true->done.length + r.size<=s.size)/\done.length<=s.size + 1/\wr.ownsRow w.heap.size 9 1 u done.length (strV done)/\Below w.heap.size w wr) (fun lst _ mo _ _ => match lst,mo with | .string r,.bool true => r.size + 1 | _,_ => 0)
 case atStart => exact ⟨s,[],b0,_,rfl,rfl,rfl,HSt.out,Nat.le_refl _,by simp,by simp,World.ownsRow_nil _ _ _ _,Below.refl _ _⟩
 case round =>
  obtain ⟨r,done,b,u,rfl,rfl,rfl,hI,hrs,hdl,hdl2,hown,hbw⟩:=hrel
  obtain ⟨wa,rfl⟩:∃ V,V=wr:=⟨_,rfl⟩
  have HI:=Lib.hid hI
  have HRs:=Lib.hid hrs
  have HDl:=Lib.hid hdl
  have HDl2:=Lib.hid hdl2
  have HOwn:=Lib.hid hown
  have HB:=Lib.hid hbw
  have HMa:=Lib.hid (HM.out.below hbw)
  clear hI hrs hdl hdl2 hown hbw
  cases b with
  | false =>
   go_wp2_with fail
   go_ret2
   exact ⟨.inr ⟨_,done,HI.out,rfl,HOwn.out,HDl2.out⟩,HB.out⟩
  | true =>
   rcases cut_cases r ⟨#[44,32]⟩ (by decide) with hc | ⟨a,q,hc,hlt,hal⟩
   ·have hsp:Lib.split r.data.toList cmW=[r.data.toList]:=by rw [split_cut _ _ (by decide)]; show (match cutO r.data.toList (⟨#[44,32]⟩:ByteArray).data.toList with | none => _ | some (a,r) => _)=_; rw [hc]
    have hcut:=cut_none (sep:=⟨#[44,32]⟩) (w:=wa) (by have:=HRs.out; omega) HMa.out (by decide) hc
    have hname:=fun V => LexB.name_any r V (by have:=HRs.out; omega)
    have HCut:=Lib.hid hcut
    by_cases hn:LexB.nameE r.data.toList=0
    ·rw [hn] at hname
     have HName:=Lib.hid hname
     have HN:=Lib.hid (nmI_last HI.out hsp (nm_zero.2 hn))
     clear hcut hname hn hc hsp
     go_wp2_with fail
     refine HCut.out.mono ?_; rintro e w1 ⟨rfl,n,rfl⟩
     go_wp2_with fail
     refine (HName.out _).mono ?_; rintro e w2 ⟨rfl,rfl⟩
     have hown:=(own_below HOwn.out (b_drewN (Below.refl wa.heap.size wa) n)).alloc (.cells #[.string r] 9)
     have hz9:w.heap.size<=wa.heap.size:=HB.out.size
     have hds:=HDl2.out
     have hss:=hs
     go_wp2_with (at_builtin; refine wpList_append_own _ rfl _ _ 31 rfl w.heap.size 9 i0 (.string ⟨#[]⟩) 1 16 Tryz.underlying31 hi hz0 hz1 hz2 rfl (by decide) _ _ _ rfl hown ⟨(wa.drewN n).heap.size,0,none⟩ 1 1 [.string r] rfl rfl ?c1 ?c2 ?c3 ?c4 ?c5 ?_)
     case c1 =>
      intro j y hj
      match j,hj with
      | 0,hj => simp at hj; subst hj; show ((wa.drewN n).alloc _).cell? ⟨(wa.drewN n).heap.size,0,none⟩=_; exact new_cell _ _ _
      | j + 1,hj => simp at hj
     case c2 => intro y hy; simp at hy; subst hy; rfl
     case c3 => unfold maxLen; omega
     case c4 => omega
     case c5 => simp; omega
     intro v' w3 hown3 hgrow _
     have hB3:Below w.heap.size w w3:=((b_drewN HB.out n).alloc hz9 _).grown hgrow (by have:=hz9; simp; omega) (fun g hg => (HOwn.out.lt g hg).1)
     have HOwn3:=Lib.hid hown3
     have HB3:=Lib.hid hB3
     clear hown3 hgrow hB3 hown
     go_wp2
     go_roundw
     case rel => exact ⟨⟨#[]⟩,done ++ [r],false,_,rfl,rfl,rfl,HN.out _,Nat.zero_le _,fun h => (by cases h),(by have:=HDl.out (by first | rfl | trivial); simp; omega),by rw [List.length_append,ShL.strV_snoc]; exact HOwn3.out,HB3.out⟩
     case measure => simp
    ·have t1:(LexB.nameE r.data.toList != 0)=true:=bne_iff_ne.2 hn
     generalize hE:LexB.nameE r.data.toList=E at *
     have HName:=Lib.hid hname
     have HN:=Lib.hid (nmI_bad HI.out hsp (fun h => hn (hE ▸ nm_zero.1 h)))
     clear hcut hname hn hc hsp hE
     go_wp2_with fail
     refine HCut.out.mono ?_; rintro e w1 ⟨rfl,n,rfl⟩
     go_wp2_with fail
     refine (HName.out _).mono ?_; rintro e w2 ⟨rfl,rfl⟩
     go_wp2_with fail
     go_ret2
     exact ⟨.inl ⟨HN.out,rfl⟩,b_drewN HB.out n⟩
   ·have hsp:Lib.split r.data.toList cmW=a.data.toList :: Lib.split q.data.toList cmW:=by rw [split_cut _ _ (by decide)]; show (match cutO r.data.toList (⟨#[44,32]⟩:ByteArray).data.toList with | none => _ | some (a,r) => _)=_; rw [hc]
    have hcut:=cut_some (sep:=⟨#[44,32]⟩) (w:=wa) (by have:=HRs.out; omega) HMa.out (by decide) hc
    have hname:=fun V => LexB.name_any a V (by have:=HRs.out; omega)
    have HCut:=Lib.hid hcut
    have HLt:=Lib.hid hlt
    by_cases hn:LexB.nameE a.data.toList=0
    ·rw [hn] at hname
     have HName:=Lib.hid hname
     have HN:=Lib.hid (nmI_more HI.out hsp (nm_zero.2 hn))
     clear hcut hname hn hc hsp hlt
     go_wp2_with fail
     refine HCut.out.mono ?_; rintro e w1 ⟨rfl,n,rfl⟩
     go_wp2_with fail
     refine (HName.out _).mono ?_; rintro e w2 ⟨rfl,rfl⟩
     have hown:=(own_below HOwn.out (b_drewN (Below.refl wa.heap.size wa) n)).alloc (.cells #[.string a] 9)
     have hz9:w.heap.size<=wa.heap.size:=HB.out.size
     have hds:=HDl2.out
     have hss:=hs
     go_wp2_with (at_builtin; refine wpList_append_own _ rfl _ _ 31 rfl w.heap.size 9 i0 (.string ⟨#[]⟩) 1 16 Tryz.underlying31 hi hz0 hz1 hz2 rfl (by decide) _ _ _ rfl hown ⟨(wa.drewN n).heap.size,0,none⟩ 1 1 [.string a] rfl rfl ?c1 ?c2 ?c3 ?c4 ?c5 ?_)
     case c1 =>
      intro j y hj
      match j,hj with
      | 0,hj => simp at hj; subst hj; show ((wa.drewN n).alloc _).cell? ⟨(wa.drewN n).heap.size,0,none⟩=_; exact new_cell _ _ _
      | j + 1,hj => simp at hj
     case c2 => intro y hy; simp at hy; subst hy; rfl
     case c3 => unfold maxLen; omega
     case c4 => omega
     case c5 => simp; omega
     intro v' w3 hown3 hgrow _
     have hB3:Below w.heap.size w w3:=((b_drewN HB.out n).alloc hz9 _).grown hgrow (by have:=hz9; simp; omega) (fun g hg => (HOwn.out.lt g hg).1)
     have HOwn3:=Lib.hid hown3
     have HB3:=Lib.hid hB3
     clear hown3 hgrow hB3 hown
     go_wp2
     go_roundw
     case rel => exact ⟨q,done ++ [a],true,_,rfl,rfl,rfl,HN.out,by have:=HRs.out; have:=HLt.out; omega,fun _ => (by have:=HDl.out (by first | rfl | trivial); have:=HLt.out; simp; omega),(by have:=HDl.out (by first | rfl | trivial); simp; omega),by rw [List.length_append,ShL.strV_snoc]; exact HOwn3.out,HB3.out⟩
     case measure => have:=HLt.out; simp; omega
    ·have t1:(LexB.nameE a.data.toList != 0)=true:=bne_iff_ne.2 hn
     generalize hE:LexB.nameE a.data.toList=E at *
     have HName:=Lib.hid hname
     have HN:=Lib.hid (nmI_bad HI.out hsp (fun h => hn (hE ▸ nm_zero.1 h)))
     clear hcut hname hn hc hsp hE hlt
     go_wp2_with fail
     refine HCut.out.mono ?_; rintro e w1 ⟨rfl,n,rfl⟩
     go_wp2_with fail
     refine (HName.out _).mono ?_; rintro e w2 ⟨rfl,rfl⟩
     go_wp2_with fail
     go_ret2
     exact ⟨.inl ⟨HN.out,rfl⟩,b_drewN HB.out n⟩
end TxN
namespace PsT
open Go.RowKit
open LexM Kit
set_option linter.unusedVariables false
def At (w:World) (P:Nat) (A:Option Addr) (n c k:Nat):Prop :=
 w.cell? ⟨P,0,none⟩=some (.slice A n c)/\w.cell? ⟨P,1,none⟩=some (.int .i64 (k:Int))
set_option maxHeartbeats 2000000 in
theorem isNext_end (P:Nat) (A:Option Addr) (n c:Nat) (s:ByteArray) (w:World) (hn:n<=160) (h:At w P A n c n) :
  Calls Tryz.prog 161 #[.pointer (some ⟨P,0,none⟩),.string s] w fun e w' => e=.returned (.bool false)/\∃ m,w'=w.drewN m:=by
 obtain ⟨h0,h1⟩:=h
 have i0:decide ((n:Int) < (n:Int))=false:=decide_eq_false (by omega)
 have i1:¬ (n:Int) < (n:Int):=by omega
 go_enter Tryz.func161,Tryz.ntmps161
 go_wp2_with fail
 go_quiet (fail)
 go_wp2_with fail
 go_ret
 exact ⟨rfl,_,rfl⟩
set_option maxHeartbeats 2000000 in
theorem isNext_some (P g:Nat) (n c k:Nat) (s t:ByteArray) (w:World) (hn:n<=160) (hk:k < n) (h:At w P (some ⟨g,0,none⟩) n c k) (ht:w.cell? ⟨g,k * 6 + 2,none⟩=some (.string t)) (b:Bool) (hb:(t.toList == s.toList)=b) :
  Calls Tryz.prog 161 #[.pointer (some ⟨P,0,none⟩),.string s] w fun e w' => e=.returned (.bool b)/\∃ m,w'=w.drewN m:=by
 obtain ⟨h0,h1⟩:=h
 have i0:decide ((k:Int) < (n:Int))=true:=decide_eq_true (by omega)
 have i1:(k:Int) < (n:Int):=by omega
 have i2:(0:Int)<=(k:Int):=by omega
 have i3:((k:Int)).toNat=k:=by omega
 go_enter Tryz.func161,Tryz.ntmps161
 go_wp2_with fail
 go_quiet (fail)
 go_wp2_with fail
 go_ret
 exact ⟨rfl,_,rfl⟩
set_option maxHeartbeats 2000000 in
theorem throw_end (P:Nat) (A:Option Addr) (n c:Nat) (w:World) (hn:n<=160) (h:At w P A n c n) :
  Calls Tryz.prog 127 #[.pointer (some ⟨P,0,none⟩)] w fun e w' => e=.panicked [{ v:=.iface 195 (.agg #[]),recovered:=false }]/\∃ m,w'=w.drewN m:=by
 obtain ⟨h0,h1⟩:=h
 have i0:((n:Int) == (n:Int))=true:=by simp
 go_enter Tryz.func127,Tryz.ntmps127
 go_wp2_with fail
 go_quiet (fail)
 go_wp2_with fail
 exact ⟨rfl,rfl,_,rfl⟩
set_option maxHeartbeats 2000000 in
theorem throw_some (P g:Nat) (n c k:Nat) (kd p vk nn:Int) (u t:ByteArray) (w:World) (hn:n<=160) (hk:k < n) (h:At w P (some ⟨g,0,none⟩) n c k)
  (c0:w.cell? ⟨g,k * 6,none⟩=some (.int .i64 kd)) (c1:w.cell? ⟨g,k * 6 + 1,none⟩=some (.int .i64 p)) (c2:w.cell? ⟨g,k * 6 + 2,none⟩=some (.string u)) (c3:w.cell? ⟨g,k * 6 + 3,none⟩=some (.int .i64 vk)) (c4:w.cell? ⟨g,k * 6 + 4,none⟩=some (.int .i64 nn)) (c5:w.cell? ⟨g,k * 6 + 5,none⟩=some (.string t)) :
  Calls Tryz.prog 127 #[.pointer (some ⟨P,0,none⟩)] w fun e w' => e=.panicked [{ v:=.iface 193 (.agg #[.int .i64 kd,.int .i64 p,.string u,.int .i64 vk,.int .i64 nn,.string t]),recovered:=false }]/\∃ m,w'=w.drewN m:=by
 obtain ⟨h0,h1⟩:=h
 have i0:((k:Int) == (n:Int))=false:=beq_eq_false_iff_ne.2 (by omega)
 have i1:(k:Int) < (n:Int):=by omega
 have i2:(0:Int)<=(k:Int):=by omega
 have i3:((k:Int)).toNat=k:=by omega
 go_enter Tryz.func127,Tryz.ntmps127
 go_wp2_with fail
 go_quiet (fail)
 go_wp2_with fail
 go_region_dies
 all_goals (try go_wp2)
 all_goals exact ⟨rfl,rfl,_,rfl⟩
def Took (w:World) (P k:Nat) (w':World):Prop:=∃ m,w'=(w.drewN m).setCell ⟨P,1,none⟩ (.int .i64 ((k:Int) + 1))
set_option maxHeartbeats 2000000 in
theorem expect_ok (P g:Nat) (n c k:Nat) (s t:ByteArray) (w:World) (hn:n<=160) (hk:k < n) (h:At w P (some ⟨g,0,none⟩) n c k) (hf:w.frozen? ⟨P,1,none⟩=false) (ht:w.cell? ⟨g,k * 6 + 2,none⟩=some (.string t)) (hb:(t.toList == s.toList)=true) :
  Calls Tryz.prog 196 #[.pointer (some ⟨P,0,none⟩),.string s] w fun e w' => e=.returned (.tuple #[])/\Took w P k w':=by
 have H:=Lib.hid (isNext_some P g n c k s t w hn hk h ht true hb)
 obtain ⟨h0,h1⟩:=h
 have hw:IntKind.i64.wrap ((k:Int) + 1)=(k:Int) + 1:=IntWalk.i64_in _ (by omega)
 go_enter Tryz.func196,Tryz.ntmps196
 go_wp2_with fail
 refine H.out.mono ?_
 rintro e w1 ⟨rfl,m,rfl⟩
 go_wp2_with fail
 go_end0
 exact ⟨rfl,_,rfl⟩
set_option maxHeartbeats 2000000 in
theorem expect_bad (P g:Nat) (n c k:Nat) (kd p vk nn:Int) (s u t:ByteArray) (w:World) (hn:n<=160) (hk:k < n) (h:At w P (some ⟨g,0,none⟩) n c k)
  (c0:w.cell? ⟨g,k * 6,none⟩=some (.int .i64 kd)) (c1:w.cell? ⟨g,k * 6 + 1,none⟩=some (.int .i64 p)) (c2:w.cell? ⟨g,k * 6 + 2,none⟩=some (.string u)) (c3:w.cell? ⟨g,k * 6 + 3,none⟩=some (.int .i64 vk)) (c4:w.cell? ⟨g,k * 6 + 4,none⟩=some (.int .i64 nn)) (c5:w.cell? ⟨g,k * 6 + 5,none⟩=some (.string t)) (hb:(u.toList == s.toList)=false) :
  Calls Tryz.prog 196 #[.pointer (some ⟨P,0,none⟩),.string s] w fun e w' => e=.panicked [{ v:=.iface 193 (.agg #[.int .i64 kd,.int .i64 p,.string u,.int .i64 vk,.int .i64 nn,.string t]),recovered:=false }]/\∃ m,w'=w.drewN m:=by
 have H:=Lib.hid (isNext_some P g n c k s u w hn hk h c2 false hb)
 have H2:=fun m => Lib.hid (throw_some P g n c k kd p vk nn u t (w.drewN m) hn hk h c0 c1 c2 c3 c4 c5)
 clear c0 c1 c2 c3 c4 c5 h
 go_enter Tryz.func196,Tryz.ntmps196
 go_wp2_with fail
 refine H.out.mono ?_
 rintro e w1 ⟨rfl,m,rfl⟩
 go_wp2_with fail
 refine (H2 m).out.mono ?_
 rintro e w1 ⟨rfl,m',rfl⟩
 go_wp2_with fail
 exact ⟨rfl,rfl,_,rfl⟩
set_option maxHeartbeats 2000000 in
theorem expect_end (P:Nat) (A:Option Addr) (n c:Nat) (s:ByteArray) (w:World) (hn:n<=160) (h:At w P A n c n) :
  Calls Tryz.prog 196 #[.pointer (some ⟨P,0,none⟩),.string s] w fun e w' => e=.panicked [{ v:=.iface 195 (.agg #[]),recovered:=false }]/\∃ m,w'=w.drewN m:=by
 have H:=Lib.hid (isNext_end P A n c s w hn h)
 have H2:=fun m => Lib.hid (throw_end P A n c (w.drewN m) hn h)
 clear h
 go_enter Tryz.func196,Tryz.ntmps196
 go_wp2_with fail
 refine H.out.mono ?_
 rintro e w1 ⟨rfl,m,rfl⟩
 go_wp2_with fail
 refine (H2 m).out.mono ?_
 rintro e w1 ⟨rfl,m',rfl⟩
 go_wp2_with fail
 exact ⟨rfl,rfl,_,rfl⟩
def rw_ (k:Nat):NotTab.Rw:=NotTab.rows.getD k ([],0,0)
theorem rw_at (k:Nat) (h:k < 19):NotTab.rows[k]?=some (rw_ k):=by
 unfold rw_
 rw [List.getD,List.getElem?_eq_getElem (show k < NotTab.rows.length from h)]; rfl
theorem tab_cells {w : World} (h : NotTab.Is Tryz.prog w "lychway/expr.notations" NotTab.rows) (k : Nat) (hk : k < 19) : w.cell? ⟨3, k * 3, none⟩ = some (.string ⟨(rw_ k).1.toArray⟩) ∧ w.cell? ⟨3, k * 3 + 1, none⟩ = some (.int .i64 (rw_ k).2.1) ∧ w.cell? ⟨3, k * 3 + 2, none⟩ = some (.int .i64 (rw_ k).2.2) :=
 NotTab.Is.cell h (g:=3) (by kernel_rfl) k _ (rw_at k hk)
theorem cell_ltP {w:World} {b o:Nat} {v:Value} (h:w.cell? ⟨b,o,none⟩=some v):b < w.heap.size:=by
 rcases Nat.lt_or_ge b w.heap.size with g | g
 ·exact g
 ·simp [World.cell?,Array.getElem?_eq_none g] at h
theorem bcellP {B:Nat} {W w1:World} (hb:Below B W w1):(∀ b o,b < B->w1.cell? ⟨b,o,none⟩=W.cell? ⟨b,o,none⟩)/\(∀ b o,b < B->w1.frozen? ⟨b,o,none⟩=W.frozen? ⟨b,o,none⟩) :=
 ⟨fun b o h => hb.cell (p:=⟨b,o,none⟩) h,fun b o h => hb.frozen (p:=⟨b,o,none⟩) h⟩
def tabV:Array Value:=#[.string ⟨#[]⟩,.int .i64 0,.int .i64 0,.string ⟨#[]⟩,.int .i64 6,.int .i64 0,.string ⟨#[]⟩,.int .i64 6,.int .i64 0,.string ⟨#[45]⟩,.int .i64 5,.int .i64 1,.string ⟨#[110,111,116]⟩,.int .i64 5,.int .i64 1,.string ⟨#[42]⟩,.int .i64 4,.int .i64 2,.string ⟨#[47]⟩,.int .i64 4,.int .i64 2,.string ⟨#[37]⟩,.int .i64 4,.int .i64 2,.string ⟨#[43]⟩,.int .i64 3,.int .i64 2,.string ⟨#[45]⟩,.int .i64 3,.int .i64 2,.string ⟨#[38]⟩,.int .i64 3,.int .i64 2,.string ⟨#[60]⟩,.int .i64 2,.int .i64 2,.string ⟨#[60,61]⟩,.int .i64 2,.int .i64 2,.string ⟨#[61]⟩,.int .i64 2,.int .i64 2,.string ⟨#[33,61]⟩,.int .i64 2,.int .i64 2,.string ⟨#[97,110,100]⟩,.int .i64 1,.int .i64 2,.string ⟨#[111,114]⟩,.int .i64 0,.int .i64 2,.string ⟨#[105,102]⟩,.int .i64 6,.int .i64 3,.string ⟨#[108,101,110]⟩,.int .i64 6,.int .i64 1]
theorem tab_at (k:Nat) (h:k < 19) (w:World):(Instr.index 149 (.agg tabV) (.int .i64 k)).run Tryz.prog w=.ok (.agg #[.string ⟨(rw_ k).1.toArray⟩,.int .i64 (rw_ k).2.1,.int .i64 (rw_ k).2.2]) w:=by
 obtain rfl | rfl | rfl | rfl | rfl | rfl | rfl | rfl | rfl | rfl | rfl | rfl | rfl | rfl | rfl | rfl | rfl | rfl | rfl:k=0 ∨ k=1 ∨ k=2 ∨ k=3 ∨ k=4 ∨ k=5 ∨ k=6 ∨ k=7 ∨ k=8 ∨ k=9 ∨ k=10 ∨ k=11 ∨ k=12 ∨ k=13 ∨ k=14 ∨ k=15 ∨ k=16 ∨ k=17 ∨ k=18:=by omega
 all_goals kernel_rfl
theorem tab_block {w : World} (h : NotTab.Is Tryz.prog w "lychway/expr.notations" NotTab.rows) : ∃ t fr, w.heap[3]? = some (.cells tabV t fr) := by
 unfold NotTab.Is World.var? at h
 have hg : Tryz.prog.globalNamed "lychway/expr.notations" = some 3 := by kernel_rfl
 rw [hg] at h
 simp only [Option.bind_some] at h
 have hv:(NotTab.rows.flatMap NotTab.rowC).toArray=tabV:=by rfl
 rw [hv] at h
 split at h <;> simp_all
set_option maxRecDepth 100000 in
set_option maxHeartbeats 4000000 in
theorem operator_none (P : Nat) (f : ByteArray → Bool) (q : Nat) (w : World) (hno : ∀ j, j < 19 → ¬ ((rw_ j).2.1 = (q : Int) ∧ f ⟨(rw_ j).1.toArray⟩ = true)) (hT : NotTab.Is Tryz.prog w "lychway/expr.notations" NotTab.rows)
  (hI:∀ s W,Below w.heap.size w W->Calls Tryz.prog 161 #[.pointer (some ⟨P,0,none⟩),.string s] W fun e w' => e=.returned (.bool (f s))/\∃ m,w'=W.drewN m) :
  Calls Tryz.prog 149 #[.pointer (some ⟨P,0,none⟩),.int .i64 (q:Int)] w fun e w' => e=.returned (.int .i64 0)/\Below w.heap.size w w':=by
 obtain ⟨tt,fr,hg⟩:=tab_block hT
 obtain ⟨tv,htv⟩:∃ v,v=tabV:=⟨_,rfl⟩
 rw [← htv] at hg
 have hsz:(Tryz.prog.info? 149).map (·.size)=some tv.size:=by rw [htv]; kernel_rfl
 have ix:=fun k h W => tab_at k h W
 rw [← htv] at ix
 have IX:=Lib.hid ix
 have HI:=Lib.hid hI
 have HN:=Lib.hid hno
 clear htv ix hI hno
 go_enter Tryz.func149,Tryz.ntmps149
 go_wp2_with (refine wpList_load_row rfl 149 _ rfl 3 rfl tt _ fr _ hg Tryz.underlying149 rfl hsz ?_)
 clear hg hsz hT
 go_loopw [4,8] (fun _ i wr => ∃ j:Nat,j<=19/\i=.int .i64 j/\Below w.heap.size w wr) (fun _ i _ => 19 - (intOf i).toNat)
 case atStart => exact ⟨0,by omega,rfl,Below.refl _ _⟩
 case round =>
  obtain ⟨j,hj,rfl,hb⟩:=hrel
  by_cases hlt:j < 19
  ·have ix:=IX.out j (by omega)
   have hnj:=HN.out j hlt
   obtain ⟨s,hs⟩:∃ s:ByteArray,ByteArray.mk (rw_ j).1.toArray=s:=⟨_,rfl⟩
   obtain ⟨y,hy⟩:∃ y,(rw_ j).2.1=y:=⟨_,rfl⟩
   obtain ⟨z,hz⟩:∃ z,(rw_ j).2.2=z:=⟨_,rfl⟩
   rw [hs,hy] at hnj
   simp only [hs,hy,hz] at ix
   clear hs hy hz
   by_cases hq:y=(q:Int)
   ·have hf:f s=false:=by cases h:f s with | false => rfl | true => exact absurd ⟨hq,h⟩ hnj
    have h1:=HI.out s
    rw [hf] at h1
    have H1:=Lib.hid h1
    clear h1 hnj hf
    subst hq
    go_wp2_with fail
    refine (H1.out _ (b_more hb _)).mono ?_
    rintro e w1 ⟨rfl,m,rfl⟩
    go_wp2_with fail
    go_roundw
    case rel => exact ⟨j + 1,by omega,by go_num,b_drewN (b_more hb _) _⟩
    case measure => simp [intOf]; omega
   ·clear hnj
    go_wp2_with fail
    go_roundw
    case rel => exact ⟨j + 1,by omega,by go_num,b_more hb _⟩
    case measure => simp [intOf]; omega
  ·go_wp2_with fail
   go_ret
   exact ⟨rfl,hb⟩
set_option maxRecDepth 100000 in
set_option maxHeartbeats 4000000 in
theorem operator_some (P : Nat) (f : ByteArray → Bool) (q : Nat) (w : World) (k op : Nat) (hk : k ≤ 160) (h1 : w.cell? ⟨P, 1, none⟩ = some (.int .i64 (k : Int))) (h2 : w.frozen? ⟨P, 1, none⟩ = false) (ho : op < 19) (hop : (rw_ op).2.1 = (q : Int) ∧ f ⟨(rw_ op).1.toArray⟩ = true) (hno : ∀ j, j < op → ¬ ((rw_ j).2.1 = (q : Int) ∧ f ⟨(rw_ j).1.toArray⟩ = true)) (hT : NotTab.Is Tryz.prog w "lychway/expr.notations" NotTab.rows)
  (hI:∀ s W,Below w.heap.size w W->Calls Tryz.prog 161 #[.pointer (some ⟨P,0,none⟩),.string s] W fun e w' => e=.returned (.bool (f s))/\∃ m,w'=W.drewN m) :
  Calls Tryz.prog 149 #[.pointer (some ⟨P,0,none⟩),.int .i64 (q:Int)] w fun e w' => e=.returned (.int .i64 (op:Int))/\∃ w1,Below w.heap.size w w1/\w'=w1.setCell ⟨P,1,none⟩ (.int .i64 ((k:Int) + 1)):=by
 obtain ⟨tt,fr,hg⟩:=tab_block hT
 obtain ⟨tv,htv⟩:∃ v,v=tabV:=⟨_,rfl⟩
 rw [← htv] at hg
 have hsz:(Tryz.prog.info? 149).map (·.size)=some tv.size:=by rw [htv]; kernel_rfl
 have ix:=fun k h W => tab_at k h W
 rw [← htv] at ix
 have IX:=Lib.hid ix
 have HI:=Lib.hid hI
 have HN:=Lib.hid hno
 clear htv ix hI hno
 go_enter Tryz.func149,Tryz.ntmps149
 go_wp2_with (refine wpList_load_row rfl 149 _ rfl 3 rfl tt _ fr _ hg Tryz.underlying149 rfl hsz ?_)
 clear hg hsz hT
 go_loopw [4,8] (fun _ i wr => ∃ j:Nat,j<=op/\i=.int .i64 j/\Below w.heap.size w wr) (fun _ i _ => 19 - (intOf i).toNat)
 case atStart => exact ⟨0,by omega,rfl,Below.refl _ _⟩
 case round =>
  obtain ⟨j,hj,rfl,hb⟩:=hrel
  by_cases hlt:j < op
  ·have ix:=IX.out j (by omega)
   have hnj:=HN.out j hlt
   obtain ⟨s,hs⟩:∃ s:ByteArray,ByteArray.mk (rw_ j).1.toArray=s:=⟨_,rfl⟩
   obtain ⟨y,hy⟩:∃ y,(rw_ j).2.1=y:=⟨_,rfl⟩
   obtain ⟨z,hz⟩:∃ z,(rw_ j).2.2=z:=⟨_,rfl⟩
   rw [hs,hy] at hnj
   simp only [hs,hy,hz] at ix
   clear hs hy hz
   by_cases hq:y=(q:Int)
   ·have hf:f s=false:=by cases h:f s with | false => rfl | true => exact absurd ⟨hq,h⟩ hnj
    have h1:=HI.out s
    rw [hf] at h1
    have H1:=Lib.hid h1
    clear h1 hnj hf
    subst hq
    go_wp2_with fail
    refine (H1.out _ (b_more hb _)).mono ?_
    rintro e w1 ⟨rfl,m,rfl⟩
    go_wp2_with fail
    go_roundw
    case rel => exact ⟨j + 1,by omega,by go_num,b_drewN (b_more hb _) _⟩
    case measure => simp [intOf]; omega
   ·clear hnj
    go_wp2_with fail
    go_roundw
    case rel => exact ⟨j + 1,by omega,by go_num,b_more hb _⟩
    case measure => simp [intOf]; omega
  ·obtain rfl:j=op:=by omega
   have ix:=IX.out j (by omega)
   obtain ⟨s,hs⟩:∃ s:ByteArray,ByteArray.mk (rw_ j).1.toArray=s:=⟨_,rfl⟩
   obtain ⟨y,hy⟩:∃ y,(rw_ j).2.1=y:=⟨_,rfl⟩
   obtain ⟨z,hz⟩:∃ z,(rw_ j).2.2=z:=⟨_,rfl⟩
   rw [hs,hy] at hop
   simp only [hs,hy,hz] at ix
   clear hs hy hz
   obtain ⟨hq,hf⟩:=hop
   have h1':=HI.out s
   rw [hf] at h1'
   have H1:=Lib.hid h1'
   clear h1' hf
   subst hq
   have hP:P < w.heap.size:=cell_ltP h1
   have c1:∀ V,Below w.heap.size w V->V.cell? ⟨P,1,none⟩=some (.int .i64 (k:Int)):=fun V hV => by rw [(bcellP hV).1 P 1 hP]; exact h1
   have c2:∀ V,Below w.heap.size w V->V.frozen? ⟨P,1,none⟩=false:=fun V hV => by rw [(bcellP hV).2 P 1 hP]; exact h2
   have hw:IntKind.i64.wrap ((k:Int) + 1)=(k:Int) + 1:=IntWalk.i64_in _ (by omega)
   go_wp2_with fail
   refine (H1.out _ (b_more hb _)).mono ?_
   rintro e w1 ⟨rfl,m,rfl⟩
   have hb1:=b_drewN (b_more hb (.cells #[.string s,.int .i64 (q:Int),.int .i64 z] 148)) m
   have c1':=c1 _ hb1
   have c2':=c2 _ hb1
   clear c1 c2 h1 h2
   go_wp2_with fail
   go_ret
   exact ⟨rfl,_,hb1,rfl⟩
theorem leaf_const (kd p vk nn:Int) (u t:ByteArray) (hk:kd=1 ∨ kd=3) (w:World) :
  Calls Tryz.prog 197 #[.agg #[.int .i64 kd,.int .i64 p,.string u,.int .i64 vk,.int .i64 nn,.string t]] w fun e w' => e=.returned (.tuple #[.agg #[.int .i64 1,.int .i64 vk,.int .i64 nn,.string t,.string ⟨#[]⟩,.slice none 0 0],.bool true])/\Below w.heap.size w w':=by
 rcases hk with rfl | rfl
 ·go_enter Tryz.func197,Tryz.ntmps197
  go_wp2_with fail
  refine bodyPost_ret (v:=.tuple #[.agg #[.int .i64 1,.int .i64 vk,.int .i64 nn,.string t,.string ⟨#[]⟩,.slice none 0 0],.bool true]) (by simp [results,Tryz.results197,go_sem]) rfl ⟨rfl,b_more (b_new _ _) _⟩
 ·go_enter Tryz.func197,Tryz.ntmps197
  go_wp2_with fail
  refine bodyPost_ret (v:=.tuple #[.agg #[.int .i64 1,.int .i64 vk,.int .i64 nn,.string t,.string ⟨#[]⟩,.slice none 0 0],.bool true]) (by simp [results,Tryz.results197,go_sem]) rfl ⟨rfl,b_more (b_new _ _) _⟩
theorem leaf_name (p vk nn:Int) (u t:ByteArray) (hu:(u.toList == [116,114,117,101])=false) (hv:(u.toList == [102,97,108,115,101])=false) (w:World)
  (hK:∀ W,Calls Tryz.prog 81 #[.string u] W fun e w' => e=.returned (.bool false)/\W=w') :
  Calls Tryz.prog 197 #[.agg #[.int .i64 2,.int .i64 p,.string u,.int .i64 vk,.int .i64 nn,.string t]] w fun e w' => e=.returned (.tuple #[.agg #[.int .i64 2,.int .i64 0,.int .i64 0,.string ⟨#[]⟩,.string u,.slice none 0 0],.bool true])/\Below w.heap.size w w':=by
 have HK:=Lib.hid hK
 clear hK
 go_enter Tryz.func197,Tryz.ntmps197
 go_wp2_with fail
 refine (HK.out _).mono ?_
 rintro e w1 ⟨rfl,rfl⟩
 go_wp2_with fail
 refine bodyPost_ret (v:=.tuple #[.agg #[.int .i64 2,.int .i64 0,.int .i64 0,.string ⟨#[]⟩,.string u,.slice none 0 0],.bool true]) (by simp [results,Tryz.results197,go_sem]) rfl ⟨rfl,b_more (b_new _ _) _⟩
theorem leaf_key (p vk nn:Int) (u t:ByteArray) (hu:(u.toList == [116,114,117,101])=false) (hv:(u.toList == [102,97,108,115,101])=false) (w:World)
  (hK:∀ W,Calls Tryz.prog 81 #[.string u] W fun e w' => e=.returned (.bool true)/\W=w') :
  Calls Tryz.prog 197 #[.agg #[.int .i64 2,.int .i64 p,.string u,.int .i64 vk,.int .i64 nn,.string t]] w fun e w' => e=.returned (.tuple #[.agg #[.int .i64 0,.int .i64 0,.int .i64 0,.string ⟨#[]⟩,.string ⟨#[]⟩,.slice none 0 0],.bool false])/\Below w.heap.size w w':=by
 have HK:=Lib.hid hK
 clear hK
 go_enter Tryz.func197,Tryz.ntmps197
 go_wp2_with fail
 refine (HK.out _).mono ?_
 rintro e w1 ⟨rfl,rfl⟩
 go_wp2_with fail
 refine bodyPost_ret (v:=.tuple #[.agg #[.int .i64 0,.int .i64 0,.int .i64 0,.string ⟨#[]⟩,.string ⟨#[]⟩,.slice none 0 0],.bool false]) (by simp [results,Tryz.results197,go_sem]) rfl ⟨rfl,b_more (b_new _ _) _⟩
theorem leaf_none (kd p vk nn:Int) (u t:ByteArray) (k1:kd ≠ 1) (k2:kd ≠ 2) (k3:kd ≠ 3) (hu:(u.toList == [116,114,117,101])=false) (hv:(u.toList == [102,97,108,115,101])=false) (w:World) :
  Calls Tryz.prog 197 #[.agg #[.int .i64 kd,.int .i64 p,.string u,.int .i64 vk,.int .i64 nn,.string t]] w fun e w' => e=.returned (.tuple #[.agg #[.int .i64 0,.int .i64 0,.int .i64 0,.string ⟨#[]⟩,.string ⟨#[]⟩,.slice none 0 0],.bool false])/\Below w.heap.size w w':=by
 have e1:(kd == 1)=false:=beq_eq_false_iff_ne.2 k1
 have e2:(kd == 2)=false:=beq_eq_false_iff_ne.2 k2
 have e3:(kd == 3)=false:=beq_eq_false_iff_ne.2 k3
 go_enter Tryz.func197,Tryz.ntmps197
 go_wp2_with fail
 refine bodyPost_ret (v:=.tuple #[.agg #[.int .i64 0,.int .i64 0,.int .i64 0,.string ⟨#[]⟩,.string ⟨#[]⟩,.slice none 0 0],.bool false]) (by simp [results,Tryz.results197,go_sem]) rfl ⟨rfl,b_more (b_new _ _) _⟩
end PsT
end Go.Proofs.YtjhhmdmmllblhaaGreatDoor
