/- NmPut RkOrdF Vls Df Dt: what these laws name of them. -/
import Derived.Test.YtonlkmkfcaadlaaGreatDoorKw23
namespace Go.Proofs.YtonlkmkfcaadlaaGreatDoor
set_option linter.unusedVariables false
namespace NmP
open Go.RowKit Go.Shelf
open ExM NmM Kit ExL ExP ExV ExN NmC
set_option linter.unusedVariables false
theorem eqs_of (s t:ByteArray):(s.toList == t.toList)=decide (s=t):=by
 rw [ByteArray.toList_eq,ByteArray.toList_eq]
 by_cases h:s=t
 ·subst h; simp
 ·rw [decide_eq_false h,beq_eq_false_iff_ne]
  intro e
  apply h
  cases s with | mk a => cases t with | mk b => exact congrArg _ (Array.toList_inj.1 e)
end NmP
namespace NmR
open Go.RowKit
open ExM NmM Kit ExL ExP ExV ExN NmC NmP
set_option linter.unusedVariables false
end NmR
namespace RkF
open Go.RowKit
open ValM LexM NumM ExM NmM Kit ExL ExP ExN ExC RawV Within RawL RawN GenL Gen GenT GenV FrmM Frm FldP FldR FldC FrmT FrmO TyM Ty TyG NmG NmO NmI NmA NmT NmR RkM RkA RkB RkC RkD RkO RkS RkK RkT RkP
set_option linter.unusedVariables false
theorem containsS_hasB (L:List ByteArray) (s:ByteArray):Lib.containsS L s=hasB L s:=by
 rw [Bool.eq_iff_iff,Lib.containsS_iff,hasB_true]
theorem contains_any (L:List ByteArray) (s:ByteArray) (v:Value) (base:Nat) (w:World) (hl:L.length<=1048576) (h:w.ownsRow base 9 1 v L.length (strV L)) :
  Calls Tryz.prog 34 #[v,.string s] w fun e w' => e=.returned (.bool (hasB L s))/\w=w':=by
 rcases Nat.eq_zero_or_pos L.length with h0 | h0
 ·obtain ⟨A,c,rfl,_⟩:=SRow.of_own h
  obtain rfl:L=[]:=List.eq_nil_of_length_eq_zero h0
  exact (Tryz.slices_Contains_string_empty A c s w).mono fun e w' h => ⟨h.1,h.2.symm⟩
 ·obtain ⟨A,c,rfl,hr⟩:=SRow.of_own h
  obtain ⟨g,rfl,_⟩:=hr 0 h0
  have:=Tryz.slices_Contains_string g 0 L.length c L s w (Nat.le_refl _) (by omega) (fun j hj => by
   obtain ⟨g',e,hc⟩:=hr j hj
   injection e with e; injection e with e _ _
   subst e
   rw [Nat.zero_add,List.getD_eq_getElem?_getD,List.getElem?_eq_getElem hj]; exact hc)
  rw [List.take_length,containsS_hasB] at this
  exact this.mono fun e w' h => ⟨h.1,h.2.symm⟩
end RkF
namespace VlS
open Go.RowKit
open EvM Kit
set_option linter.unusedVariables false
def VlAt (w:World) (a:Addr) (v:Vl):Prop:=w.cell? a=some (.int .i64 v.k)/\w.cell? ⟨a.block,a.off + 1,none⟩=some (.int .i64 v.n)/\w.cell? ⟨a.block,a.off + 2,none⟩=some (.string v.s)
def Vls (w:World) (A:Option Addr) (vs:List Vl):Prop:=∀ (i:Nat) (h:i < vs.length),∃ ad,A=some ad/\VlAt w (ad.add (i * 3)) vs[i]
theorem VlAt.below {w w':World} {a:Addr} {v:Vl} (h:VlAt w a v) (hb:Below w.heap.size w w'):VlAt w' a v :=
 ⟨(hb.cell (World.block_lt_of_cell? w _ h.1)).trans h.1,(hb.cell (World.block_lt_of_cell? w _ h.2.1)).trans h.2.1,(hb.cell (World.block_lt_of_cell? w _ h.2.2)).trans h.2.2⟩
theorem Vls.below {w w':World} {A:Option Addr} {vs:List Vl} (h:Vls w A vs) (hb:Below w.heap.size w w'):Vls w' A vs:=fun i hi => by
 obtain ⟨ad,e,h1⟩:=h i hi
 exact ⟨ad,e,h1.below hb⟩
open Classical in
noncomputable def diffK (nm:Nat->ByteArray) (a b:Nat->Vl):Nat->List ByteArray
 | 0 => []
 | k + 1 => if a k=b k then diffK nm a b k else diffK nm a b k ++ [nm k]
theorem diff_same {nm:Nat->ByteArray} {a b:Nat->Vl} {k:Nat} (h:a k=b k):diffK nm a b (k + 1)=diffK nm a b k:=if_pos h
theorem diff_other {nm:Nat->ByteArray} {a b:Nat->Vl} {k:Nat} (h:a k ≠ b k):diffK nm a b (k + 1)=diffK nm a b k ++ [nm k]:=if_neg h
theorem diff_len (nm:Nat->ByteArray) (a b:Nat->Vl):∀ k,(diffK nm a b k).length<=k
 | 0 => Nat.le_refl _
 | k + 1 => by
  have:=diff_len nm a b k
  unfold diffK
  split
  ·omega
  ·rw [List.length_append]; simp; omega
theorem diff_mem (nm:Nat->ByteArray) (a b:Nat->Vl) (s:ByteArray):∀ k,s ∈ diffK nm a b k ↔ ∃ i,i < k/\nm i=s/\a i ≠ b i
 | 0 => by simp [diffK]
 | k + 1 => by
  by_cases h:a k=b k
  ·rw [diff_same h,diff_mem nm a b s k]
   constructor
   ·rintro ⟨i,h1,h2⟩; exact ⟨i,by omega,h2⟩
   ·rintro ⟨i,h1,h2,h3⟩
    refine ⟨i,?_,h2,h3⟩
    by_cases e:i=k
    ·subst e; exact absurd h h3
    ·omega
  ·rw [diff_other h,List.mem_append,List.mem_singleton,diff_mem nm a b s k]
   constructor
   ·rintro (⟨i,h1,h2⟩ | rfl)
    ·exact ⟨i,by omega,h2⟩
    ·exact ⟨k,by omega,rfl,h⟩
   ·rintro ⟨i,h1,h2,h3⟩
    by_cases e:i=k
    ·subst e; exact .inr h2.symm
    ·exact .inl ⟨i,by omega,h2,h3⟩
theorem diff_none (nm:Nat->ByteArray) (a:Nat->Vl):∀ k,diffK nm a a k=[]
 | 0 => rfl
 | k + 1 => by rw [diff_same rfl,diff_none nm a k]
def vAt (l:List Vl) (i:Nat):Vl:=(l[i]?).getD ⟨0,0,⟨#[]⟩⟩
theorem vAt_at {l:List Vl} {i:Nat} (h:i < l.length):vAt l i=l[i]:=by unfold vAt; rw [List.getElem?_eq_getElem h]; rfl
end VlS
namespace DfP
open Go.RowKit
open ExM EvM Kit ExL ExP GenL NmA VlS
set_option linter.unusedVariables false
def boxD (f:GenL.Fd):Obj:=.cells #[.string f.nm,.int .i64 f.kind,.int .i64 f.ty,.int .i64 f.d.op,.int .i64 f.d.k,.int .i64 f.d.n,.string f.d.s,.string f.d.nm,.slice f.A f.n f.c] 43
theorem boxD_nm (w:World) (f:GenL.Fd) (V:World) (hV:Below (w.alloc (boxD f)).heap.size (w.alloc (boxD f)) V):V.cell? ⟨w.heap.size,0,none⟩=some (.string f.nm):=by
 have e1:V.heap[w.heap.size]?=_:=(hV.block _ (by simp)).trans (World.alloc_heap_new w (boxD f))
 unfold boxD at e1
 simp [World.cell?,e1]
def nmF (F:List GenL.Fd) (i:Nat):ByteArray:=(F[i]?.map GenL.Fd.nm).getD ⟨#[]⟩
theorem nmF_at {F:List GenL.Fd} {i:Nat} (h:i < F.length):nmF F i=F[i].nm:=by unfold nmF; rw [List.getElem?_eq_getElem h]; rfl
theorem strV_snoc' (M:List ByteArray) (s:ByteArray):strV (M ++ [s])=strV M ++ [.string s]:=by unfold strV; rw [List.map_append]; rfl
def diffE (F:List GenL.Fd) (a b:List Vl):Int:=if a.length=F.length/\b.length=F.length then 0 else 1
noncomputable def diffL (F:List GenL.Fd) (a b:List Vl):List ByteArray:=if a.length=F.length/\b.length=F.length then diffK (nmF F) (vAt a) (vAt b) F.length else []
theorem info_partS {t:TypeId} {z:Value} {s b:Nat} (h:(Tryz.prog.info? t).map (fun i => (i.zero,i.size,i.bytes))=some (some z,s,b)):∃ i0,Tryz.prog.info? t=some i0/\i0.zero=some z/\i0.size=s/\i0.bytes=b:=by
 cases hi:Tryz.prog.info? t with
 | none => rw [hi] at h; cases h
 | some i0 =>
  rw [hi] at h
  simp only [Option.map_some,Option.some.injEq,Prod.mk.injEq] at h
  exact ⟨i0,rfl,h.1,h.2.1,h.2.2⟩
theorem vl_tests (a b:Vl):(a=b) ∨ (a ≠ b/\((a.k == b.k)=false ∨ ((a.k == b.k)=true/\(a.n == b.n)=false) ∨ ((a.k == b.k)=true/\(a.n == b.n)=true/\(a.s.toList == b.s.toList)=false))):=by
 by_cases h1:a.k=b.k
 ·by_cases h2:a.n=b.n
  ·by_cases h3:a.s=b.s
   ·left
    obtain ⟨ak,an,az⟩:=a
    obtain ⟨bk,bn,bz⟩:=b
    have h1:ak=bk:=h1
    have h2:an=bn:=h2
    have h3:az=bz:=h3
    rw [h1,h2,h3]
   ·refine .inr ⟨fun e => h3 (by rw [e]),.inr (.inr ⟨beq_iff_eq.2 h1,beq_iff_eq.2 h2,?_⟩)⟩
    rw [NmP.eqs_of]; exact decide_eq_false h3
  ·exact .inr ⟨fun e => h2 (by rw [e]),.inr (.inl ⟨beq_iff_eq.2 h1,beq_eq_false_iff_ne.2 h2⟩)⟩
 ·exact .inr ⟨fun e => h1 (by rw [e]),.inl (beq_eq_false_iff_ne.2 h1)⟩
def DiffOut (F:List GenL.Fd) (a b:List Vl) (w:World) (e:Ending) (w':World):Prop:=∃ v,e=.returned (.tuple #[v,.int .i64 (diffE F a b)])/\w'.ownsRow w.heap.size 9 1 v (diffL F a b).length (strV (diffL F a b))/\Below w.heap.size w w'
set_option maxRecDepth 100000 in
set_option maxHeartbeats 8000000 in
theorem differ_any (F:List GenL.Fd) (FA:Option Addr) (fc:Nat) (a b:List Vl) (A1 A2:Option Addr) (c1 c2:Nat) (w:World) (hf:Flds w FA F) (ha:Vls w A1 a) (hb:Vls w A2 b) (hn:F.length<=1048576) (hna:a.length<=1048576) (hnb:b.length<=1048576) :
  Calls Tryz.prog 36 #[.slice FA F.length fc,.slice A1 a.length c1,.slice A2 b.length c2] w (DiffOut F a b w):=by
 obtain ⟨i0,hi,hz0,hz1,hz2⟩:=info_partS NmA.infoStr
 have hml:maxLen<=9223372036854775807:=by unfold maxLen; omega
 unfold DiffOut
 by_cases hl:a.length=F.length/\b.length=F.length
 ·have e1:diffE F a b=0:=if_pos hl
  have e2:diffL F a b=diffK (nmF F) (vAt a) (vAt b) F.length:=if_pos hl
  rw [e1,e2]
  obtain ⟨l1,l2⟩:=hl
  have hfl:∀ V,Below w.heap.size w V->∀ (i:Nat) (hi:i < F.length),∃ ad,FA=some ad/\FdAt V (ad.add (i * 9)) F[i]:=fun V hV i hi => hf.below hV i hi
  have hva:∀ V,Below w.heap.size w V->∀ (i:Nat) (hi:i < F.length),∃ ad,A1=some ad/\VlAt V (ad.add (i * 3)) (vAt a i):=fun V hV i hi => by
   obtain ⟨ad,e,h⟩:=ha.below hV i (by omega)
   exact ⟨ad,e,by rw [vAt_at (by omega)]; exact h⟩
  have hvb:∀ V,Below w.heap.size w V->∀ (i:Nat) (hi:i < F.length),∃ ad,A2=some ad/\VlAt V (ad.add (i * 3)) (vAt b i):=fun V hV i hi => by
   obtain ⟨ad,e,h⟩:=hb.below hV i (by omega)
   exact ⟨ad,e,by rw [vAt_at (by omega)]; exact h⟩
  have hnm:∀ (i:Nat) (hi:i < F.length),nmF F i=F[i].nm:=fun i hi => nmF_at hi
  rw [l1,l2]
  obtain ⟨va,hea⟩:∃ f,vAt a=f:=⟨_,rfl⟩
  obtain ⟨vb,heb⟩:∃ f,vAt b=f:=⟨_,rfl⟩
  obtain ⟨nm,hen⟩:∃ f,nmF F=f:=⟨_,rfl⟩
  simp only [hea] at hva ⊢
  simp only [heb] at hvb ⊢
  simp only [hen] at hnm ⊢
  have HFl:=Lib.hid hfl
  have HVa:=Lib.hid hva
  have HVb:=Lib.hid hvb
  have HNm:=Lib.hid hnm
  clear hfl hva hvb hnm hf ha hb hna hnb e1 e2 l1 l2 hea heb hen
  obtain ⟨n,hne⟩:∃ n,F.length=n:=⟨_,rfl⟩
  simp only [hne] at hn HFl HVa HVb HNm ⊢
  go_enter Tryz.func36,Tryz.ntmps36
  go_wp2_with fail
  go_loopw [8,9,10,25] (fun s8 _ _ ii wr => ∃ (k:Nat) (v:Value),v=s8/\ii=.int .i64 k/\k<=n/\wr.ownsRow w.heap.size 9 1 v (diffK nm va vb k).length (strV (diffK nm va vb k))/\Below w.heap.size w wr) (fun _ _ _ ii _ => n - (intOf ii).toNat)
  case atStart => exact ⟨0,_,rfl,rfl,Nat.zero_le _,World.ownsRow_nil _ _ _ _,Below.refl _ _⟩
  case round =>
   obtain ⟨k,v,rfl,rfl,hk,hown,hb⟩:=hrel
   obtain ⟨wa,rfl⟩:∃ V,V=wr:=⟨_,rfl⟩
   by_cases hlt:k < n
   ·obtain ⟨ad,rfl,hat⟩:=HFl.out wa hb k (by omega)
    have hnmk:=HNm.out k (by omega)
    have hle:=diff_len nm va vb k
    obtain ⟨f,hfk⟩:∃ f,F[k]'(by omega)=f:=⟨_,rfl⟩
    rw [hfk] at hat hnmk
    obtain ⟨q0,q1,q2,q3,q4,q5,q6,q7,q8⟩:=hat
    obtain ⟨W5,hW5⟩:∃ V,wa.alloc (boxD f)=V:=⟨_,rfl⟩
    obtain ⟨B9,hB9⟩:∃ B,wa.heap.size=B:=⟨_,rfl⟩
    have hb5:=b_new wa (boxD f)
    have hcell:=boxD_nm wa f
    rw [hW5,hB9] at hcell
    rw [hW5] at hb5
    have x0:=hcell W5 (Below.refl _ _)
    have hbw:=b_trans hb hb5
    obtain ⟨a1,rfl,y0,y1,y2⟩:=HVa.out W5 hbw k (by omega)
    obtain ⟨a2,rfl,z0,z1,z2⟩:=HVb.out W5 hbw k (by omega)
    have hown5:=own_below hown hb5
    have hcs:=vl_tests (va k) (vb k)
    have hsame:=fun h => diff_same (nm:=nm) (a:=va) (b:=vb) (k:=k) h
    have hother:=fun h => diff_other (nm:=nm) (a:=va) (b:=vb) (k:=k) h
    have hlt':=hown.lt
    have tlt:(k:Int) < (n:Int):=by omega
    have HCell:=Lib.hid hcell
    have HW5:=Lib.hid hW5
    have HB9:=Lib.hid hB9
    have hsz:=hbw.size
    generalize diffK nm va vb k=M at hown hown5 hsame hother hle
    rw [hnmk] at hother
    obtain ⟨x,hx⟩:∃ x,va k=x:=⟨_,rfl⟩
    obtain ⟨y,hy⟩:∃ y,vb k=y:=⟨_,rfl⟩
    rw [hx] at y0 y1 y2 hcs hsame hother
    rw [hy] at z0 z1 z2 hcs hsame hother
    obtain ⟨xk,xn,xs⟩:=x
    obtain ⟨yk,yn,ys⟩:=y
    unfold boxD at HW5
    rcases hcs with e | ⟨ne,hd⟩
    ·have hN:=hsame e
     injection e with e1 e2 e3
     subst e1 e2 e3
     have HN:=Lib.hid (show W5.ownsRow w.heap.size 9 1 v (diffK nm va vb (k + 1)).length (strV (diffK nm va vb (k + 1)))/\Below w.heap.size w W5 from by rw [hN]; exact ⟨hown5,hbw⟩)
     clear hN hsame hother hown hown5 hlt' hcell hW5 hB9 hb5 hb hbw hx hy hfk hnmk
     go_upto_region 7 with fail
     rw [HW5.out,HB9.out]
     go_quiet (fail)
     go_wp2_with fail
     go_roundw
     case rel => exact ⟨k + 1,_,rfl,by go_num,by omega,HN.out.1,b_drewN HN.out.2 nq⟩
     case measure => simp [intOf]; omega
    ·have hN:=hother ne
     have hnx:∀ (w6:World),Below W5.heap.size W5 w6->∀ (gg cap:Nat) (w8:World),w8.ownsRow w.heap.size 9 1 (.slice (some ⟨gg,0,none⟩) (M.length + 1) cap) (M.length + 1) (strV M ++ [.string f.nm])->(w6.alloc (.cells #[.string f.nm] 9)).grownBy w8 v.ownBlock->w8.ownsRow w.heap.size 9 1 (.slice (some ⟨gg,0,none⟩) (M.length + 1) cap) (diffK nm va vb (k + 1)).length (strV (diffK nm va vb (k + 1)))/\Below w.heap.size w w8:=fun w6 h6 gg cap w8 h1 h2 => by
      rw [hN,List.length_append,strV_snoc']
      have hb6:=b_trans (b_trans hbw h6) (b_new w6 (.cells #[.string f.nm] 9))
      exact ⟨h1,hb6.grown h2 hb6.size (fun q e => (hown.lt q e).1)⟩
     have HNx:=Lib.hid hnx
     have HOw:=Lib.hid hown5
     have HSz:=Lib.hid hsz
     clear hnx hN hsame hother hown hown5 hlt' hcell hW5 hB9 hb5 hb hbw hx hy hfk hnmk hsz ne
     rcases hd with t1 | ⟨t1,t2⟩ | ⟨t1,t2,t3⟩
     all_goals
      go_upto_region 7 with fail
      rw [HW5.out,HB9.out]
      go_quiet (fail)
      obtain ⟨w6,hw6⟩:∃ V,W5.drewN nq=V:=⟨_,rfl⟩
      have hb6:Below W5.heap.size W5 w6:=by rw [← hw6]; exact b_drewN (Below.refl _ _) nq
      rw [hw6]
      have HB6:=Lib.hid hb6
      have HW6:=Lib.hid hw6
      clear hb6 hw6
      have hown6:=own_below HOw.out HB6.out
      have x0:=HCell.out w6 HB6.out
      have hsz:w.heap.size<=w6.heap.size:=Nat.le_trans HSz.out HB6.out.size
      have HO6:=Lib.hid hown6
      clear hown6
      go_wp2_with (at_builtin; refine wpList_append_lies _ rfl _ _ 64 rfl w.heap.size 9 i0 _ 1 16 Tryz.underlying64 hi hz0 hz1 hz2 rfl (by decide) v M.length (strV M) rfl (HO6.out.alloc _) ⟨w6.heap.size,0,none⟩ 1 1 [.string f.nm] rfl rfl (World.news_of_block (cs:=#[.string f.nm]) (t:=9) (fr:=(0,0)) (World.alloc_heap_new w6 _)) (by simp [Value.oneCell']) (by decide) (by unfold maxLen; omega) (by omega) (by simp; omega) (w6.heap.size + 1) (by simp) ?_; intro gg cap w8 hown8 hgrow8 hat8 hlt8; have hN:=HNx.out w6 HB6.out gg cap w8 hown8 hgrow8; have HN:=Lib.hid hN; clear hN hown8 hgrow8 hat8 hlt8)
      go_roundw
      case rel => exact ⟨k + 1,_,rfl,by go_num,by omega,HN.out.1,HN.out.2⟩
      case measure => simp [intOf]; omega
   ·have hO9:wa.ownsRow w.heap.size 9 1 v (diffK nm va vb n).length (strV (diffK nm va vb n))/\Below w.heap.size w wa:=by
     have e:k=n:=by omega
     rw [← e]; exact ⟨hown,hb⟩
    have HO9:=Lib.hid hO9
    clear hown hb hO9
    go_wp2_with fail
    go_ret2
    exact ⟨v,rfl,HO9.out.1,HO9.out.2⟩
 ·have e1:diffE F a b=1:=if_neg hl
  have e2:diffL F a b=[]:=if_neg hl
  rw [e1,e2]
  clear hf ha hb e1 e2
  obtain ⟨n,hne⟩:∃ n,F.length=n:=⟨_,rfl⟩
  obtain ⟨na,hna'⟩:∃ n,a.length=n:=⟨_,rfl⟩
  obtain ⟨nb,hnb'⟩:∃ n,b.length=n:=⟨_,rfl⟩
  rw [hne] at hn hl ⊢
  rw [hna'] at hna hl ⊢
  rw [hnb'] at hnb hl ⊢
  have hcs:(((na:Int) != (n:Int))=true) ∨ (((na:Int) != (n:Int))=false/\((nb:Int) != (n:Int))=true):=by
   by_cases h1:na=n
   ·refine .inr ⟨by rw [h1]; exact bne_self_eq_false _,bne_iff_ne.2 fun e => hl ⟨h1,by omega⟩⟩
   ·exact .inl (bne_iff_ne.2 fun e => h1 (by omega))
  clear hl hne hna' hnb'
  rcases hcs with t1 | ⟨t1,t2⟩
  all_goals
   go_enter Tryz.func36,Tryz.ntmps36
   go_wp2_with fail
   go_ret2
   exact ⟨_,rfl,World.ownsRow_nil _ _ _ _,Below.refl _ _⟩
end DfP
namespace Dt
open Go.RowKit Go.Maps
open ValM LexM NumM ExM NmM StrM EvM EvP FoM Kit ExL ExP ExN RawV Within RawL RawN GenL TyM Ty EvF EvO EvR EvE FrmM Frm FrmT FrmO FldP FldC FcM PgM PgF ShE RkM RkD RkO RkT RkP RkS RkK TxR TxT TxK InpG FcF WhM WhQ WhU WhT WhA Wh1 Wh2 Wh3 Wh4 Wh5 Wh6 Wh7 Wh8 Wh9 Wh10 Wh11 SMp KMp NmA VlS DfP
set_option linter.unusedVariables false
theorem vls_row {w:World} {g:Nat} {vs:List Vl} (h:RowV w g vs):Vls w (some ⟨g,0,none⟩) vs:=fun i hi => ⟨_,rfl,by rw [add_block]; exact h.at i hi⟩
theorem differ_form {es:List FE} {FA:Option Addr} {fc:Nat} {a b:List Vl} {g1 g2:Nat} {V:World} (hf:Flds V FA (es.map FE.fd)) (hn:es.length<=10) (ha:a.length=es.length) (hb:b.length=es.length) (h1:RowV V g1 a) (h2:RowV V g2 b) :
  Calls Tryz.prog 36 #[.slice FA es.length fc,.slice (some ⟨g1,0,none⟩) es.length es.length,.slice (some ⟨g2,0,none⟩) es.length es.length] V fun e w' => ∃ v,e=.returned (.tuple #[v,.int .i64 0])/\w'.ownsRow V.heap.size 9 1 v (diffL (es.map FE.fd) a b).length (strV (diffL (es.map FE.fd) a b))/\Below V.heap.size V w':=by
 have hl:(es.map FE.fd).length=es.length:=List.length_map _
 have h:=differ_any (es.map FE.fd) FA fc a b (some ⟨g1,0,none⟩) (some ⟨g2,0,none⟩) es.length es.length V hf (vls_row h1) (vls_row h2) (by omega) (by omega) (by omega)
 unfold DiffOut at h
 rw [hl,ha,hb] at h
 have e:diffE (es.map FE.fd) a b=0:=if_pos ⟨by rw [hl,ha],by rw [hl,hb]⟩
 rw [e] at h
 exact h
theorem differ_none (F:List GenL.Fd) (a:List Vl):diffL F a a=[]:=by
 unfold diffL
 split
 ·exact diff_none _ _ _
 ·rfl
theorem differ_len {es:List FE} {a b:List Vl} (hn:es.length<=10):(diffL (es.map FE.fd) a b).length<=1048576:=by
 have hl:(es.map FE.fd).length=es.length:=List.length_map _
 unfold diffL
 split
 ·have:=diff_len (nmF (es.map FE.fd)) (vAt a) (vAt b) (es.map FE.fd).length; omega
 ·simp
theorem differ_has {es:List FE} {a b:List Vl} (hap:Apart (es.map toW)) (ha:a.length=es.length) (hb:b.length=es.length) (i:Nat) (hi:i < es.length) (h1:i < a.length) (h2:i < b.length) :
  hasB (diffL (es.map FE.fd) a b) es[i].fd.nm=true ↔ a[i] ≠ b[i]:=by
 have hl:(es.map FE.fd).length=es.length:=List.length_map _
 have e:diffL (es.map FE.fd) a b=diffK (nmF (es.map FE.fd)) (vAt a) (vAt b) es.length:=by
  unfold diffL
  rw [if_pos ⟨by rw [hl,ha],by rw [hl,hb]⟩,hl]
 rw [e,hasB_true,diff_mem]
 constructor
 ·rintro ⟨j,hj,h3,h4⟩
  rw [nmF_at (by rw [hl]; exact hj),List.getElem_map] at h3
  have:j=i:=hap j i (by rw [List.length_map]; exact hj) (by rw [List.length_map]; exact hi) (by rw [List.getElem_map,List.getElem_map]; exact h3)
  subst this
  rw [vAt_at h1,vAt_at h2] at h4
  exact h4
 ·intro h
  exact ⟨i,hi,by rw [nmF_at (by rw [hl]; exact hi),List.getElem_map],by rw [vAt_at h1,vAt_at h2]; exact h⟩
theorem differ_tests {L:List ByteArray} {s:ByteArray} {a b:Vl} (h:hasB L s=true ↔ a ≠ b) :
  (hasB L s=false/\a=b) ∨ (hasB L s=true/\((a.k == b.k)=false ∨ ((a.k == b.k)=true/\(a.n == b.n)=false) ∨ ((a.k == b.k)=true/\(a.n == b.n)=true/\(a.s.toList == b.s.toList)=false))):=by
 rcases vl_tests a b with e | ⟨e,hd⟩
 ·exact .inl ⟨by rw [← Bool.not_eq_true,h]; exact fun hn => hn e,e⟩
 ·exact .inr ⟨h.2 e,hd⟩
end Dt
end Go.Proofs.YtonlkmkfcaadlaaGreatDoor
