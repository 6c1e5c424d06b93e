/- PsForm PsTop PsTot PsParsed: what these laws name of them. -/
import Derived.Tactics
import Derived.Tactics2
import Derived.Defers
import Derived.Recover
import Derived.Test.YtjhhmdmmllblhaaGreatDoorKt20
namespace Go.Proofs.YtjhhmdmmllblhaaGreatDoor
set_option linter.unusedVariables false
namespace PsF
open Go.RowKit
open LexM ExM Kit ExL ExP PsM PsT NmC Ps PsR PsL PsA
set_option linter.unusedVariables false
section
variable {w0:World} {P:Nat} {A:Option Addr} {c:Nat} {L:List Tk} {w:World} {k:Nat}
theorem opAt_bounds {q op:Nat} {s:List UInt8} (h:PsM.opAt q s=some op) (hs:s ≠ []):3<=op/\op < 19:=by
 obtain ⟨h1,h3,_⟩:=opAt_some h hs
 exact ⟨h3,h1⟩
set_option maxRecDepth 100000 in
set_option maxHeartbeats 8000000 in
theorem pref_any (hE:Env w0 P A L) (hFu:Full L) (hSm:Small L) (F:Nat) (hF:∀ f,f<=F->FormC w0 P A c L f):∀ (f:Nat),f<=F + 1->∀ (w:World) (k:Nat) (o:Out),run f (.form 5) (L.drop k)=o->o ≠ .tired->St w0 P A c L w k →
  Calls Tryz.prog 148 #[.pointer (some ⟨P,0,none⟩)] w (PsL.Ends w0 P A c L w k o):=by
 intro f
 induction f with
 | zero => intro _ w k o hrun hne; exact absurd hrun.symm hne
 | succ f ih =>
  intro hf w k o hrun hne hS
  have hl:=hS.lt
  obtain ⟨V,hV⟩:∃ V,w.alloc (.cells #[.int .i64 0,.int .i64 0,.int .i64 0,.string ⟨#[]⟩,.string ⟨#[]⟩,.slice none 0 0] 45)=V:=⟨_,rfl⟩
  have hSV:=box_new hS
  have hzV:=boxz_at w
  have hbV:=b_new w (.cells #[.int .i64 0,.int .i64 0,.int .i64 0,.string ⟨#[]⟩,.string ⟨#[]⟩,.slice none 0 0] 45)
  rw [hV] at hSV hzV hbV
  cases h5:opNext 5 (L.drop k) with
  | none =>
   have HO:=Lib.hid (operator_no hE hSV hFu 5 (by omega) h5)
   have HA:=Lib.hid (fun (W:World) (hW:St w0 P A c L W k) => atom_any hE hFu hSm F hF f (by omega) o hW h5 hrun hne)
   have HV:=Lib.hid hV
   have HBV:=Lib.hid hbV
   have HZ:=Lib.hid hzV
   have HS:=Lib.hid hS
   have HSV:=Lib.hid hSV
   have HE:=Lib.hid hE
   clear ih hF hrun hne hS hV hSV hzV hbV h5 hE
   go_enter Tryz.func148,Tryz.ntmps148
   go_wp2_with fail
   rw [HV.out]
   refine HO.out.mono ?_; rintro e w2 ⟨rfl,hb2⟩
   have hS2:=HSV.out.keep hb2
   have hg2:w.grownBy w2 (some P):=grown_below (HBV.out.trans (hb2.mono HBV.out.size)) _
   have hz2:=boxz_keep HZ.out hb2
   have HX:=Lib.hid (HA.out w2 hS2)
   have HG:=Lib.hid hg2
   have HZ2:=Lib.hid hz2
   clear hb2 hS2 hg2 hz2
   go_wp2_with fail
   refine HX.out.mono ?_; intro e w3 he
   cases o with
   | tired => exact he.elim
   | bad r' =>
    obtain ⟨v,rfl,hw,hg⟩:=he
    have HW:=Lib.hid (And.intro hw hg)
    clear hw hg
    go_wp2_with fail
    exact ⟨rfl,v,rfl,HW.out.1,grown_trans HG.out HW.out.2⟩
   | ok l r' =>
    match l,he with
    | [],he => exact he.elim
    | x :: y :: l,he => exact he.elim
    | [x],he =>
     obtain ⟨d,B,n,c2,k',rfl,hix,rfl,hk',hS3,hg3⟩:=he
     obtain ⟨hbz,hend⟩:=fin_box (cp:=c2) HS.out HE.out HG.out HZ2.out hix hS3 hg3
     obtain ⟨z1,z2⟩:=cells_of hbz
     unfold S6 at hend
     have HEnd:=Lib.hid hend
     clear hend hbz hix hS3 hg3
     go_wp2_with fail
     refine bodyPost_ret (v:=.agg #[.int .i64 d.op,.int .i64 d.k,.int .i64 d.n,.string d.s,.string d.nm,.slice B n c2]) (by simp [results,Tryz.results148,go_sem,z1]) rfl ?_
     obtain ⟨e1,e2,e3⟩:=HEnd.out
     exact ⟨d,B,n,c2,k',rfl,e1,rfl,hk',e2,e3⟩
  | some op =>
   obtain ⟨t,r,hd⟩:∃ t r,L.drop k=t :: r:=by
    cases hd:L.drop k with
    | nil => rw [hd] at h5; cases h5
    | cons t r => exact ⟨t,r,rfl⟩
   obtain ⟨hk,ht,hr⟩:=drop_cons hd
   have h5':PsM.opAt 5 t.s=some op:=by rw [hd] at h5; exact h5
   have hob:=opAt_bounds h5' (hFu t (by rw [ht]; exact List.getElem_mem _))
   obtain ⟨o2,ho2⟩:∃ o2,run f (.form 5) (L.drop (k + 1))=o2:=⟨_,rfl⟩
   have hrun2:wrap op o2=o:=by
    rw [hd] at hrun
    simp only [run,if_true,h5'] at hrun
    rw [hr,ho2] at hrun; exact hrun
   have hne2:o2 ≠ .tired:=fun e => hne (by rw [← hrun2,e]; rfl)
   have HO:=Lib.hid (operator_yes hE hSV hFu 5 op h5)
   have HA:=Lib.hid (fun (W:World) (hW:St w0 P A c L W (k + 1)) => ih (by omega) W (k + 1) o2 ho2 hne2 hW)
   have HV:=Lib.hid hV
   have HBV:=Lib.hid hbV
   have HZ:=Lib.hid hzV
   have HS:=Lib.hid hS
   have HE:=Lib.hid hE
   have t3:((op:Int) == 0)=false:=beq_eq_false_iff_ne.2 (by omega)
   subst hrun2
   clear ih hF hrun hne hS hV hSV hzV hbV h5 h5' hE ho2 hne2 hd ht hr
   go_enter Tryz.func148,Tryz.ntmps148
   go_wp2_with fail
   rw [HV.out]
   refine HO.out.mono ?_; rintro e w2 ⟨rfl,hk2,hS2,hg2⟩
   have hz2:=boxz_grown HZ.out hg2 (by omega)
   have hgw2:=grown_trans (grown_below HBV.out (some P)) hg2
   have hsz2:=hgw2.size
   have HX:=Lib.hid (HA.out w2 hS2)
   have HG:=Lib.hid hgw2
   have HZ2:=Lib.hid hz2
   clear hS2 hg2 hgw2 hz2
   go_wp2_with fail
   refine HX.out.mono ?_; intro e w3 he
   cases o2 with
   | tired => exact he.elim
   | bad r' =>
    obtain ⟨v,rfl,hw,hg⟩:=he
    have HW:=Lib.hid (And.intro hw hg)
    clear hw hg
    go_wp2_with fail
    exact ⟨rfl,v,rfl,HW.out.1,grown_trans HG.out HW.out.2⟩
   | ok l r' =>
    match l,he with
    | [],he => exact he.elim
    | x :: y :: l,he => exact he.elim
    | [x],he =>
     obtain ⟨d,B,n,c2,k',rfl,hix,rfl,hk',hS3,hg3⟩:=he
     have hb4:=b_new w3 (.cells #[.int .i64 d.op,.int .i64 d.k,.int .i64 d.n,.string d.s,.string d.nm,.slice B n c2] 45)
     have hs3:=hg3.size
     have hx:IsP (fun b => w2.heap.size<=b) (w3.alloc (.cells #[.int .i64 d.op,.int .i64 d.k,.int .i64 d.n,.string d.s,.string d.nm,.slice B n c2] 45)) (opN op [x]) ⟨(op:Int),0,0,⟨#[]⟩,⟨#[]⟩⟩ (some ⟨w3.heap.size,0,none⟩) 1:=by
      have:=isP_row (P:=fun b => w2.heap.size<=b) (w:=w3.alloc (.cells #[.int .i64 d.op,.int .i64 d.k,.int .i64 d.n,.string d.s,.string d.nm,.slice B n c2] 45)) (d:=⟨(op:Int),0,0,⟨#[]⟩,⟨#[]⟩⟩) (es:=[⟨x,d,B,n,c2⟩]) (g:=w3.heap.size) (fun j hj => by rw [(cells_of (World.alloc_heap_new w3 (.cells #[.int .i64 d.op,.int .i64 d.k,.int .i64 d.n,.string d.s,.string d.nm,.slice B n c2] 45))).1]; simp [elC,El.cells]) hs3 (by unfold maxLen; simp) (Nat.zero_le _) (Nat.zero_le _) (fun e he => by simp at he; subst he; exact hix.below hb4)
      exact this
     obtain ⟨hbz,hend⟩:=fin_box (cp:=1) HS.out HE.out HG.out HZ2.out hx (hS3.keep hb4) (grown_trans hg3 (grown_below hb4 _))
     obtain ⟨z1,z2⟩:=cells_of hbz
     unfold S6 at hend
     have HEnd:=Lib.hid hend
     clear hend hbz hix hx hS3 hg3 hb4
     go_wp2_with fail
     refine bodyPost_ret (v:=.agg #[.int .i64 (op:Int),.int .i64 0,.int .i64 0,.string ⟨#[]⟩,.string ⟨#[]⟩,.slice (some ⟨w3.heap.size,0,none⟩) 1 1]) (by simp [results,Tryz.results148,go_sem,z1]) rfl ?_
     obtain ⟨e1,e2,e3⟩:=HEnd.out
     exact ⟨_,_,1,1,k',rfl,e1,rfl,by omega,e2,e3⟩
structure FI (w0:World) (P:Nat) (A:Option Addr) (c:Nat) (L:List Tk) (w:World) (k:Nat) (X:Nat) (x:Ex) (d:Nd) (B:Option Addr) (m cp:Nat) (wr:World) (k':Nat):Prop where
 box:wr.heap[X]?=some (.cells #[.int .i64 d.op,.int .i64 d.k,.int .i64 d.n,.string d.s,.string d.nm,.slice B m cp] 45 (0,0))
 is:IsP (fun b => w.heap.size < b/\b ≠ X) wr x d B m
 st:St w0 P A c L wr k'
 res:Boxz wr w.heap.size
 grown:w.grownBy wr (some P)
 le:k<=k'
 lt:w.heap.size < X
theorem FI.keep {X:Nat} {x:Ex} {d:Nd} {B:Option Addr} {m cp:Nat} {wr w1:World} {k' k2:Nat} (h:FI w0 P A c L w k X x d B m cp wr k') (hl:P < w.heap.size) (hS:St w0 P A c L w1 k2) (hg:wr.grownBy w1 (some P)) (hk:k'<=k2):FI w0 P A c L w k X x d B m cp w1 k2 :=
 ⟨(hg.block X (Array.getElem?_eq_some_iff.1 h.box).1 (fun e => by injection e with e; have:=h.lt; omega)).trans h.box,
  IsP.keep (fun b hb hlt => hg.block b hlt (fun e => by injection e with e; have:=hb.1; omega)) (fun _ hb _ => hb) _ _ _ _ h.is,hS,boxz_grown h.res hg (by omega),grown_trans h.grown hg,Nat.le_trans h.le hk,h.lt⟩
theorem FI.step {X:Nat} {x y:Ex} {d dy:Nd} {B By:Option Addr} {m cp my cy:Nat} {wr w2:World} {k1 k2 op:Nat} (h:FI w0 P A c L w k X x d B m cp wr k1) (hl:P < w.heap.size) (hP:w0.heap.size<=P) (hx:IsP (fun b => wr.heap.size<=b) w2 y dy By my) (hS:St w0 P A c L w2 k2) (hg:wr.grownBy w2 (some P)) (hk:k1<=k2) :
  FI w0 P A c L w k X (opN op [x,y]) ⟨(op:Int),0,0,⟨#[]⟩,⟨#[]⟩⟩ (some ⟨w2.heap.size,0,none⟩) 2 2 (S6 (w2.alloc (.cells #[.int .i64 d.op,.int .i64 d.k,.int .i64 d.n,.string d.s,.string d.nm,.slice B m cp,.int .i64 dy.op,.int .i64 dy.k,.int .i64 dy.n,.string dy.s,.string dy.nm,.slice By my cy] 45)) X (.int .i64 (op:Int)) (.int .i64 0) (.int .i64 0) (.string ⟨#[]⟩) (.string ⟨#[]⟩) (.slice (some ⟨w2.heap.size,0,none⟩) 2 2)) k2:=by
 have h2:=h.keep hl hS hg hk
 have hXl:=(Array.getElem?_eq_some_iff.1 h2.box).1
 have hXr:=(Array.getElem?_eq_some_iff.1 h.box).1
 have hwr:=h.grown.size
 have hs2:=hg.size
 obtain ⟨W,hW⟩:∃ W,w2.alloc (.cells #[.int .i64 d.op,.int .i64 d.k,.int .i64 d.n,.string d.s,.string d.nm,.slice B m cp,.int .i64 dy.op,.int .i64 dy.k,.int .i64 dy.n,.string dy.s,.string dy.nm,.slice By my cy] 45)=W:=⟨_,rfl⟩
 have hbn:Below w2.heap.size w2 W:=by rw [← hW]; exact b_new _ _
 have hnew:W.heap[w2.heap.size]?=some (.cells #[.int .i64 d.op,.int .i64 d.k,.int .i64 d.n,.string d.s,.string d.nm,.slice B m cp,.int .i64 dy.op,.int .i64 dy.k,.int .i64 dy.n,.string dy.s,.string dy.nm,.slice By my cy] 45 (0,0)):=by rw [← hW]; exact World.alloc_heap_new w2 _
 have hsW:W.heap.size=w2.heap.size + 1:=by rw [← hW]; simp
 rw [hW]
 have hh:=fun b (hb:b ≠ X) => s6_heap W X b hb (.int .i64 (op:Int)) (.int .i64 0) (.int .i64 0) (.string ⟨#[]⟩) (.string ⟨#[]⟩) (.slice (some ⟨w2.heap.size,0,none⟩) 2 2)
 have hgS:=s6_grown W X (.int .i64 (op:Int)) (.int .i64 0) (.int .i64 0) (.string ⟨#[]⟩) (.string ⟨#[]⟩) (.slice (some ⟨w2.heap.size,0,none⟩) 2 2)
 have hwl:=h.lt
 have hxW:IsP (fun b => w.heap.size < b/\b ≠ X) W x d B m:=IsP.below h2.is hbn
 have hyW:IsP (fun b => w.heap.size < b/\b ≠ X) W y dy By my:=(IsP.below hx hbn).imp fun b hb _ => by have h1:wr.heap.size<=b:=hb; exact ⟨by omega,by omega⟩
 have hrow:IsP (fun b => w.heap.size < b/\b ≠ X) W (opN op [x,y]) ⟨(op:Int),0,0,⟨#[]⟩,⟨#[]⟩⟩ (some ⟨w2.heap.size,0,none⟩) 2:=by
  have:=isP_row (P:=fun b => w.heap.size < b/\b ≠ X) (w:=W) (d:=⟨(op:Int),0,0,⟨#[]⟩,⟨#[]⟩⟩) (es:=[⟨x,d,B,m,cp⟩,⟨y,dy,By,my,cy⟩]) (g:=w2.heap.size) (fun j hj => by unfold World.cell?; rw [hnew]; simp [elC,El.cells]) ⟨by omega,by omega⟩ (by unfold maxLen; simp) (Nat.zero_le _) (Nat.zero_le _) (fun e he => by
   simp at he
   rcases he with rfl | rfl
   ·exact hxW
   ·exact hyW)
  exact this
 have hSW:=hS.keep hbn
 have hlP:=hSW.lt
 refine ⟨set6_box ((hbn.block X hXl).trans h2.box) _ _ _ _ _ _,IsP.keep (fun b hb _ => hh b hb.2) (fun _ hb _ => hb) _ _ _ _ hrow,⟨(hh P (by omega)).trans hSW.prs,?_,hS.le⟩,?_,?_,h2.le,h.lt⟩
 ·exact hSW.below.grown hgS hSW.below.size (fun j e => by injection e with e; have:=h.st.below.size; omega)
 ·exact (hh _ (by omega)).trans (boxz_keep h2.res hbn)
 ·refine ⟨hgS.os.trans (hbn.os.trans h2.grown.os),hgS.tape.trans (hbn.tape.trans h2.grown.tape),hgS.output.trans (hbn.output.trans h2.grown.output),by rw [s6_size]; omega,fun b hb hne => (hh b (by omega)).trans ((hbn.block b (by omega)).trans (h2.grown.block b hb hne))⟩
theorem s6_alloc (W:World) (o:Obj) (B:Nat) (h:B < W.heap.size) (u0 u1 u2 u3 u4 u5:Value):S6 (W.alloc o) B u0 u1 u2 u3 u4 u5=(S6 W B u0 u1 u2 u3 u4 u5).alloc o:=by
 unfold S6
 have a:∀ (V:World) (i:Nat) (v:Value),B < V.heap.size->(V.alloc o).setCell ⟨B,i,none⟩ v=(V.setCell ⟨B,i,none⟩ v).alloc o:=fun V i v hV => World.setCell_alloc_past o B i v hV
 rw [a _ _ _ h,a _ _ _ (by rw [sz_set]; exact h),a _ _ _ (by simp only [sz_set]; exact h),a _ _ _ (by simp only [sz_set]; exact h),a _ _ _ (by simp only [sz_set]; exact h),a _ _ _ (by simp only [sz_set]; exact h)]
theorem FI.done {X:Nat} {x:Ex} {d:Nd} {B:Option Addr} {m cp:Nat} {wr:World} {k':Nat} (h:FI w0 P A c L w k X x d B m cp wr k') (hS:St w0 P A c L w k) (hP:w0.heap.size<=P) :
  IsP (fun b => w.heap.size<=b) (S6 wr w.heap.size (.int .i64 d.op) (.int .i64 d.k) (.int .i64 d.n) (.string d.s) (.string d.nm) (.slice B m cp)) x d B m/\St w0 P A c L (S6 wr w.heap.size (.int .i64 d.op) (.int .i64 d.k) (.int .i64 d.n) (.string d.s) (.string d.nm) (.slice B m cp)) k'/\w.grownBy (S6 wr w.heap.size (.int .i64 d.op) (.int .i64 d.k) (.int .i64 d.n) (.string d.s) (.string d.nm) (.slice B m cp)) (some P) :=
 put_res hS hP (h.is.imp fun b hb _ => hb.1) h.st h.res h.grown
end
end PsF
namespace PsT2
open Go.RowKit
open LexM ExM Kit ExL ExP PsM PsT NmC Ps PsR PsL PsA PsF
set_option linter.unusedVariables false
section
variable {w0:World} {P:Nat} {A:Option Addr} {c:Nat} {L:List Tk}
def left (P n:Nat) (w:World):Nat:=match w.cell? ⟨P,1,none⟩ with | some (.int _ k) => n - k.toNat | _ => 0
theorem left_st {w:World} {k:Nat} (h:St w0 P A c L w k):left P L.length w=L.length - k:=by
 unfold left; rw [h.at.2]; simp
def after (F q:Nat) (o:Out):Out:=match o with | .ok (x :: _) r => run F (.loop q x) r | o => o
theorem run_form (F q:Nat) (h:q ≠ 5) (ts:List Tk):run (F + 1) (.form q) ts=after F q (run F (.form (q + 1)) ts):=by
 simp only [run,if_neg h,after]
 cases run F (.form (q + 1)) ts with
 | ok l r => cases l <;> rfl
 | bad r => rfl
 | tired => rfl
def once (F q op:Nat) (x:Ex) (o:Out):Out:=match o with | .ok (y :: _) r' => if q=2 then .ok [opN op [x,y]] r' else run F (.loop q (opN op [x,y])) r' | o => o
theorem run_loop (F q op:Nat) (x:Ex) (t:Tk) (r:List Tk) (h:PsM.opAt q t.s=some op):run (F + 1) (.loop q x) (t :: r)=once F q op x (run F (.form (q + 1)) r):=by
 simp only [run,h,once]
 cases run F (.form (q + 1)) r with
 | ok l r => cases l <;> rfl
 | bad r => rfl
 | tired => rfl
set_option maxRecDepth 100000 in
set_option maxHeartbeats 16000000 in
theorem form_step (hE:Env w0 P A L) (hFu:Full L) (hSm:Small L) (F:Nat) (hF:∀ f,f<=F->FormC w0 P A c L f):FormC w0 P A c L (F + 1):=by
 intro q w k o hq hrun hne hS
 have hl:=hS.lt
 obtain ⟨V,hV⟩:∃ V,w.alloc (.cells #[.int .i64 0,.int .i64 0,.int .i64 0,.string ⟨#[]⟩,.string ⟨#[]⟩,.slice none 0 0] 45)=V:=⟨_,rfl⟩
 have hSV:=box_new hS
 have hzV:=boxz_at w
 have hbV:=b_new w (.cells #[.int .i64 0,.int .i64 0,.int .i64 0,.string ⟨#[]⟩,.string ⟨#[]⟩,.slice none 0 0] 45)
 rw [hV] at hSV hzV hbV
 by_cases h5:q=5
 ·subst h5
  have HA:=Lib.hid (pref_any hE hFu hSm F hF (F + 1) (by omega) V k o hrun hne hSV)
  have HV:=Lib.hid hV
  have HG:=Lib.hid (grown_below hbV (some P))
  have HZ:=Lib.hid hzV
  have HS:=Lib.hid hS
  have HE:=Lib.hid hE
  clear hF hrun hne hS hV hSV hzV hbV hE
  go_enter Tryz.func126,Tryz.ntmps126
  go_wp2_with fail
  rw [HV.out]
  refine HA.out.mono ?_; intro e w3 he
  cases o with
  | tired => exact he.elim
  | bad r' =>
   obtain ⟨v,rfl,hw,hg⟩:=he
   have HW:=Lib.hid (And.intro hw hg)
   clear hw hg
   go_wp2_with fail
   exact ⟨rfl,v,rfl,HW.out.1,grown_trans HG.out HW.out.2⟩
  | ok l r' =>
   match l,he with
   | [],he => exact he.elim
   | x :: y :: l,he => exact he.elim
   | [x],he =>
    obtain ⟨d,B,n,c2,k',rfl,hix,rfl,hk',hS3,hg3⟩:=he
    obtain ⟨hbz,hend⟩:=fin_box (cp:=c2) HS.out HE.out HG.out HZ.out hix hS3 hg3
    obtain ⟨z1,z2⟩:=cells_of hbz
    unfold S6 at hend
    have HEnd:=Lib.hid hend
    clear hend hbz hix hS3 hg3
    go_wp2_with fail
    refine bodyPost_ret (v:=.agg #[.int .i64 d.op,.int .i64 d.k,.int .i64 d.n,.string d.s,.string d.nm,.slice B n c2]) (by simp [results,Tryz.results126,go_sem,z1]) rfl ?_
    obtain ⟨e1,e2,e3⟩:=HEnd.out
    exact ⟨d,B,n,c2,k',rfl,e1,rfl,hk',e2,e3⟩
 ·have t5:((q:Int) == 5)=false:=beq_eq_false_iff_ne.2 (by omega)
  have hw1:IntKind.i64.wrap ((q:Int) + 1)=(q:Int) + 1:=IntWalk.i64_in _ (by omega)
  obtain ⟨o1,ho1⟩:∃ o1,run F (.form (q + 1)) (L.drop k)=o1:=⟨_,rfl⟩
  have hrun1:after F q o1=o:=by rw [run_form F q h5,ho1] at hrun; exact hrun
  have hne1:o1 ≠ .tired:=fun e => hne (by rw [← hrun1,e]; rfl)
  have hc1:=hF F (Nat.le_refl _) (q + 1) V k o1 (by omega) ho1 hne1 hSV
  rw [show (((q + 1:Nat)):Int)=(q:Int) + 1 from rfl] at hc1
  have HC1:=Lib.hid hc1
  have HF:=Lib.hid hF
  have HV:=Lib.hid hV
  have HG:=Lib.hid (grown_below hbV (some P))
  have HZ:=Lib.hid hzV
  have HS:=Lib.hid hS
  have HE:=Lib.hid hE
  have HRun:=Lib.hid hrun1
  have HNe:=Lib.hid hne
  have HO1:=Lib.hid ho1
  clear hF hrun hne hS hV hSV hzV hbV hE hc1 hrun1 ho1 hne1
  go_enter Tryz.func126,Tryz.ntmps126
  go_wp2_with fail
  rw [HV.out]
  refine HC1.out.mono ?_; intro e w3 he
  cases o1 with
  | tired => exact he.elim
  | bad r' =>
   obtain ⟨v,rfl,hw,hg⟩:=he
   obtain rfl:=HRun.out
   have HW:=Lib.hid (And.intro hw hg)
   clear hw hg
   go_wp2_with fail
   exact ⟨rfl,v,rfl,HW.out.1,grown_trans HG.out HW.out.2⟩
  | ok l r' =>
   match l,he with
   | [],he => exact he.elim
   | x :: y :: l,he => exact he.elim
   | [x],he =>
    obtain ⟨d,B,n,c2,k1,rfl,hix,rfl,hk1,hS3,hg3⟩:=he
    have hrun2:run F (.loop q x) (L.drop k1)=o:=HRun.out
    have hb4:=b_new w3 (.cells #[.int .i64 d.op,.int .i64 d.k,.int .i64 d.n,.string d.s,.string d.nm,.slice B n c2] 45)
    have hz3:=boxz_grown HZ.out hg3 (by omega)
    have hsV:w.heap.size < V.heap.size:=(Array.getElem?_eq_some_iff.1 HZ.out).1
    have hs3:=hg3.size
    have hI0:FI w0 P A c L w k w3.heap.size x d B n c2 (w3.alloc (.cells #[.int .i64 d.op,.int .i64 d.k,.int .i64 d.n,.string d.s,.string d.nm,.slice B n c2] 45)) k1 :=
     ⟨World.alloc_heap_new w3 _,(IsP.keep (fun b _ hb => (hb4.block b hb)) (fun b hb hlt => ⟨by have h1:V.heap.size<=b:=hb; omega,by omega⟩) _ _ _ _ hix),hS3.keep hb4,boxz_keep hz3 hb4,grown_trans HG.out (grown_trans hg3 (grown_below hb4 _)),hk1,by omega⟩
    have HI0:=Lib.hid hI0
    have HRun2:=Lib.hid hrun2
    clear hI0 hb4 hz3 hix hS3 hg3 hrun2 HC1 HZ
    go_wp2_with fail
    go_loopw [6] (fun _ wr => ∃ (x:Ex) (d:Nd) (B:Option Addr) (m cp k' f2:Nat),FI w0 P A c L w k w3.heap.size x d B m cp wr k'/\f2<=F/\run f2 (.loop q x) (L.drop k')=o) (fun _ wr => left P L.length wr)
    case atStart => exact ⟨x,d,B,n,c2,k1,F,HI0.out,Nat.le_refl _,HRun2.out⟩
    case round =>
     clear HI0 HRun2 HO1 HRun hk1
     obtain ⟨x,d,B,m,cp,k',f2,hI,hf2,hrunL⟩:=hrel
     obtain ⟨f3,rfl⟩:∃ g,f2=g + 1:=by
      cases f2 with
      | zero => exact absurd hrunL.symm HNe.out
      | succ f => exact ⟨f,rfl⟩
     have hleft:=left_st hI.st
     cases hop:opNext q (L.drop k') with
     | none =>
      have ho:o=.ok [x] (L.drop k'):=by
       rw [← hrunL]
       cases hd:L.drop k' with
       | nil => simp [run]
       | cons t r =>
        rw [hd] at hop
        have hop':PsM.opAt q t.s=none:=hop
        simp only [run,hop']
      subst ho
      have HO:=Lib.hid (operator_no HE.out hI.st hFu q (by omega) hop)
      have HI:=Lib.hid hI
      clear hI hop hrunL
      go_wp2_with fail
      refine HO.out.mono ?_; rintro e w4 ⟨rfl,hb4⟩
      have hI4:=HI.out.keep hl (HI.out.st.keep hb4) (grown_below hb4 _) (Nat.le_refl _)
      have hend:=hI4.done HS.out HE.out.hP
      obtain ⟨y1,y2⟩:=cells_of hI4.box
      obtain ⟨z1,z2⟩:=cells_of hI4.res
      unfold S6 at hend
      have HEnd:=Lib.hid (And.intro hI4.le hend)
      clear hend hI4 hb4 HI HO
      go_wp2_with fail
      refine bodyPost_ret (v:=.agg #[.int .i64 d.op,.int .i64 d.k,.int .i64 d.n,.string d.s,.string d.nm,.slice B m cp]) (by simp [results,Tryz.results126,go_sem,z1]) rfl ?_
      obtain ⟨e0,e1,e2,e3⟩:=HEnd.out
      exact ⟨d,B,m,cp,k',rfl,e1,rfl,e0,e2,e3⟩
     | some op =>
      obtain ⟨t,r,hd⟩:∃ t r,L.drop k'=t :: r:=by
       cases hd:L.drop k' with
       | nil => rw [hd] at hop; cases hop
       | cons t r => exact ⟨t,r,rfl⟩
      obtain ⟨hk',ht,hr⟩:=drop_cons hd
      have hop':PsM.opAt q t.s=some op:=by rw [hd] at hop; exact hop
      have hob:=opAt_bounds hop' (hFu t (by rw [ht]; exact List.getElem_mem _))
      rw [hd,run_loop f3 q op x t r hop',hr] at hrunL
      obtain ⟨o3,ho3⟩:∃ o3,run f3 (.form (q + 1)) (L.drop (k' + 1))=o3:=⟨_,rfl⟩
      rw [ho3] at hrunL
      have hne3:o3 ≠ .tired:=fun e => HNe.out (by rw [← hrunL,e]; rfl)
      have hone:∀ l r,o3=.ok l r->∃ y,l=[y]:=fun l r e => run_form_one f3 (.form (q + 1)) _ l r (fun n acc => by simp) (ho3.trans e)
      have HOne:=Lib.hid hone
      clear hone
      have t6:((op:Int) == 0)=false:=beq_eq_false_iff_ne.2 (by omega)
      have HO:=Lib.hid (operator_yes HE.out hI.st hFu q op hop)
      have HI:=Lib.hid hI
      have HR3:=Lib.hid hrunL
      have HC3:=Lib.hid (fun (W:World) (hW:St w0 P A c L W (k' + 1)) => HF.out f3 (by omega) (q + 1) W (k' + 1) o3 (by omega) ho3 hne3 hW)
      clear hI hop hop' hrunL hd ht hr ho3 hne3
      go_wp2_with fail
      refine HO.out.mono ?_; rintro e w4 ⟨rfl,hk4,hS4,hg4⟩
      have hI4:=HI.out.keep hl hS4 hg4 (Nat.le_succ _)
      have HI4:=Lib.hid hI4
      clear HO HI hg4 hS4 hI4
      have hc3:∀ W,Below w4.heap.size w4 W->Calls Tryz.prog 126 #[.pointer (some ⟨P,0,none⟩),.int .i64 ((q:Int) + 1)] W (PsL.Ends w0 P A c L W (k' + 1) o3):=fun W hW => by
       have:=HC3.out W (HI4.out.st.keep hW)
       rw [show (((q + 1:Nat)):Int)=(q:Int) + 1 from rfl] at this; exact this
      have HC:=Lib.hid hc3
      have hbl:=Below.refl w4.heap.size w4
      obtain ⟨y1,y2⟩:=cells_of HI4.out.box
      have y3:=(Array.getElem?_eq_some_iff.1 HI4.out.box).1
      clear hc3 HC3
      cases o3 with
      | tired => exact absurd HR3.out.symm HNe.out
      | bad r3 =>
       obtain rfl:=HR3.out
       go_wp2_with fail
       have hfin:∀ W w5 v,Below w4.heap.size w4 W->Wrong v r3/\W.grownBy w5 (some P)->PsL.Ends w0 P A c L w k (.bad r3) (.panicked [{ v:=v,recovered:=false }]) w5:=fun W w5 v hW h => ⟨v,rfl,h.1,grown_trans HI4.out.grown (grown_trans (grown_below hW _) h.2)⟩
       have HFin:=Lib.hid hfin
       clear hfin
       go_region_dies
       all_goals
        refine (HC.out _ (by first | exact b_drew hbl | exact hbl)).mono ?_
        rintro e w5 ⟨v,rfl,hw,hg5⟩
        have HW:=Lib.hid (HFin.out _ w5 v (b_drew hbl) ⟨hw,hg5⟩)
        clear hw hg5
        go_wp2_with fail
        exact ⟨rfl,HW.out⟩
      | ok l3 r3 =>
       obtain ⟨y,rfl⟩:=HOne.out l3 r3 rfl
       go_upto_region 7 with fail
       go_cut [6] (fun _ wx => ∃ (dy:Nd) (By:Option Addr) (my cy k2 g:Nat),r3=L.drop k2/\k' + 1<=k2/\FI w0 P A c L w k w3.heap.size (opN op [x,y]) ⟨(op:Int),0,0,⟨#[]⟩,⟨#[]⟩⟩ (some ⟨g,0,none⟩) 2 2 wx k2)
       case first =>
        go_region_with (go_at_call 126; (with_reducible refine (HC.out _ ?_).mono ?_); (first | exact hbl | exact b_drew hbl); rintro e w5 ⟨dy,By,my,cy,k2,rfl,hy5,hr5,hk5,hS5,hg5⟩; have hg6:w4.grownBy w5 (some P):=(by first | exact hg5 | exact grown_trans (grown_below (b_drew (Below.refl _ _)) _) hg5); have hI5:=HI4.out.keep hl hS5 hg6 hk5; have hN:=HI4.out.step (op:=op) (cy:=cy) hl HE.out.hP hy5 hS5 hg6 hk5; obtain ⟨x1,x2⟩:=cells_of hI5.box; have x3:=(Array.getElem?_eq_some_iff.1 hI5.box).1; rw [s6_alloc _ _ _ x3] at hN; unfold S6 at hN; have HN:=Lib.hid (And.intro hr5 (And.intro hk5 hN)); clear hN hI5 hg6 hy5 hr5 hk5 hS5 hg5)
        all_goals (go_wp2_with fail; go_meet)
        all_goals (with_reducible exact ⟨dy,By,my,cy,k2,w5.heap.size,HN.out.1,HN.out.2.1,HN.out.2.2⟩)
       case rest =>
        obtain ⟨dy,By,my,cy,k2,g,rfl,hk6,hI6⟩:=hcut
        have hres:once f3 q op x (.ok [y] (L.drop k2))=o:=HR3.out
        have hleft6:=left_st hI6.st
        have hle6:=hI6.st.le
        by_cases hq2:q=2
        ·subst hq2
         have t7:(((2:Nat):Int) == 2)=true:=rfl
         simp only [once,if_true] at hres
         subst hres
         have hend:=hI6.done HS.out HE.out.hP
         obtain ⟨x1,x2⟩:=cells_of hI6.box
         obtain ⟨z1,z2⟩:=cells_of hI6.res
         have hn1:w3.heap.size ≠ w.heap.size:=by have:=hI6.lt; omega
         unfold S6 at hend
         have HEnd:=Lib.hid (And.intro hI6.le hend)
         clear hend hI6 y1 y2 y3 HR3 HOne HC
         go_wp2_with fail
         refine bodyPost_ret (v:=.agg #[.int .i64 (op:Int),.int .i64 0,.int .i64 0,.string ⟨#[]⟩,.string ⟨#[]⟩,.slice (some ⟨g,0,none⟩) 2 2]) (by simp [results,Tryz.results126,go_sem,z1]) rfl ?_
         obtain ⟨e0,e1,e2,e3⟩:=HEnd.out
         exact ⟨_,_,2,2,k2,rfl,e1,rfl,e0,e2,e3⟩
        ·have t7:((q:Int) == 2)=false:=beq_eq_false_iff_ne.2 (by omega)
         simp only [once,if_neg hq2] at hres
         have HI6:=Lib.hid hI6
         have HRes:=Lib.hid hres
         clear hI6 hres y1 y2 y3 HR3 HOne HC
         go_wp2_with fail
         go_roundw
         case rel => exact ⟨_,_,_,2,2,k2,f3,HI6.out,by omega,HRes.out⟩
         case measure => rw [hleft6,hleft]; omega
theorem form_all (hE:Env w0 P A L) (hFu:Full L) (hSm:Small L):∀ f,FormC w0 P A c L f:=by
 intro f
 induction f using Nat.strongRecOn with
 | ind f ih =>
  cases f with
  | zero => intro q w k o _ hrun hne; exact absurd hrun.symm hne
  | succ F => exact form_step hE hFu hSm F fun g hg => ih g (by omega)
end
end PsT2
namespace PsTot
open LexM ExM PsM
def Shape (b:Nat) (o:Out):Prop:=(∃ x r,o=.ok [x] r/\r.length < b) ∨ ∃ r,o=.bad r
def Done (ts:List Tk):Prop:=(∀ q,q<=5->∃ o,Ev (.form q) ts o/\Shape ts.length o)/\(∀ q x,q<=4->∃ o,Ev (.loop q x) ts o/\Shape (ts.length + 1) o) ∧
 (∀ n acc,∃ o,Ev (.list n acc) ts o/\((∃ l r,o=.ok l r/\r.length < ts.length) ∨ ∃ r,o=.bad r)/\(∀ r,acc.length + 1=n->∀ l,o=.ok l r->∃ y,l=acc ++ [y]))
theorem tail_len {r:List Tk} {s:List UInt8} (h:isNext s r=true):r.tail.length < r.length:=by
 cases r with
 | nil => simp [isNext] at h
 | cons t r => simp
theorem wrap_shape {op b:Nat} {o:Out} (h:(∃ l r,o=.ok l r/\r.length < b) ∨ ∃ r,o=.bad r):Shape b (wrap op o):=by
 rcases h with ⟨l,r,rfl,h⟩ | ⟨r,rfl⟩
 ·exact .inl ⟨_,r,rfl,h⟩
 ·exact .inr ⟨r,rfl⟩
theorem Shape.any {b:Nat} {o:Out} (h:Shape b o):(∃ l r,o=.ok l r/\r.length < b) ∨ ∃ r,o=.bad r:=by
 rcases h with ⟨x,r,h1,h2⟩ | h
 ·exact .inl ⟨_,r,h1,h2⟩
 ·exact .inr h
theorem Shape.mono {b b':Nat} {o:Out} (h:Shape b o) (hb:b<=b'):Shape b' o:=by
 rcases h with ⟨x,r,h1,h2⟩ | h
 ·exact .inl ⟨x,r,h1,by omega⟩
 ·exact .inr h
theorem done_all : ∀ (n : Nat) (ts : List Tk), ts.length ≤ n → Done ts := by
  intro n
  induction n using Nat.strongRecOn with
  | ind n ih =>
  intro ts hn
  have sh : ∀ us : List Tk, us.length < ts.length → Done us := fun us h => ih us.length (by omega) us (Nat.le_refl _)
  have h5 : ∃ o, Ev (.form 5) ts o ∧ Shape ts.length o := by
    cases ts with
    | nil => exact ⟨_, ev_end, .inr ⟨_, rfl⟩⟩
    | cons t r =>
      have hr := sh r (by simp)
      cases e5 : PsM.opAt 5 t.s with
      | some op =>
        obtain ⟨o, h1, h2⟩ := hr.1 5 (by omega)
        exact ⟨_, ev_prefix e5 h1, wrap_shape ((h2.mono (by simp)).any)⟩
      | none =>
        by_cases hp : t.s = [40]
        · obtain ⟨o, h1, h2, h3⟩ := hr.2.2 1 []
          refine ⟨o, ev_paren e5 hp h1, ?_⟩
          rcases h2 with ⟨l, r', rfl, h⟩ | h
          · obtain ⟨y, rfl⟩ := h3 r' rfl l rfl
            exact .inl ⟨y, r', rfl, by simp; omega⟩
          · exact .inr h
        · cases e6 : PsM.opAt 6 t.s with
          | some op =>
            cases hi : isNext [40] r with
            | false => exact ⟨_, ev_call_bad e5 hp e6 hi, .inr ⟨_, rfl⟩⟩
            | true =>
              have ht := tail_len hi
              obtain ⟨o, h1, h2, _⟩ := (sh r.tail (by simp at ht ⊢; omega)).2.2 (arity op) []
              refine ⟨_, ev_call e5 hp e6 hi h1, wrap_shape ?_⟩
              rcases h2 with ⟨l, r', h, g⟩ | h
              · exact .inl ⟨l, r', h, by simp at g ⊢; omega⟩
              · exact .inr h
          | none =>
            cases hl : leafN t with
            | some x => exact ⟨_, ev_leaf e5 hp e6 hl, .inl ⟨x, r, rfl, by simp⟩⟩
            | none => exact ⟨_, ev_leaf_bad e5 hp e6 hl, .inr ⟨_, rfl⟩⟩
  have hf : ∀ j q, q + j = 5 → ∃ o, Ev (.form q) ts o ∧ Shape ts.length o := by
    intro j
    induction j with
    | zero => intro q hq; obtain rfl : q = 5 := by omega
              exact h5
    | succ j ihj =>
      intro q hq
      obtain ⟨o, h1, h2⟩ := ihj (q + 1) (by omega)
      rcases h2 with ⟨x, r, rfl, h⟩ | ⟨r, rfl⟩
      · obtain ⟨o2, g1, g2⟩ := (sh r h).2.1 q x (by omega)
        exact ⟨o2, ev_form (by omega) h1 g1, g2.mono (by omega)⟩
      · exact ⟨_, ev_form_bad (by omega) h1, .inr ⟨r, rfl⟩⟩
  refine ⟨fun q hq => hf (5 - q) q (by omega), fun q x hq => ?_, fun m acc => ?_⟩
  · cases ts with
    | nil => exact ⟨_, ev_loop_end, .inl ⟨x, [], rfl, by simp⟩⟩
    | cons t r =>
      cases e : PsM.opAt q t.s with
      | none => exact ⟨_, ev_loop_none e, .inl ⟨x, _, rfl, by simp⟩⟩
      | some op =>
        obtain ⟨o, h1, h2⟩ := (sh r (by simp)).1 (q + 1) (by omega)
        rcases h2 with ⟨y, r', rfl, h⟩ | ⟨r', rfl⟩
        · by_cases h22 : q = 2
          · subst h22
            exact ⟨_, ev_loop_once e h1, .inl ⟨_, r', rfl, by simp; omega⟩⟩
          · obtain ⟨o2, g1, g2⟩ := (sh r' (by simp; omega)).2.1 q (opN op [x, y]) hq
            exact ⟨o2, ev_loop_more h22 e h1 g1, g2.mono (by simp; omega)⟩
        · exact ⟨_, ev_loop_bad e h1, .inr ⟨r', rfl⟩⟩
  · obtain ⟨o, h1, h2⟩ := hf 5 0 rfl
    rcases h2 with ⟨x, r, rfl, h⟩ | ⟨r, rfl⟩
    · by_cases hm : acc.length + 1 < m
      · cases hi : isNext [44] r with
        | false => exact ⟨_, ev_list_more_bad h1 hm hi, .inr ⟨r, rfl⟩, fun r' hacc l e => by cases e⟩
        | true =>
          have ht := tail_len hi
          obtain ⟨o2, g1, g2, _⟩ := (sh r.tail (by omega)).2.2 m (acc ++ [x])
          refine ⟨o2, ev_list_more h1 hm hi g1, ?_, fun r' hacc => by omega⟩
          rcases g2 with ⟨l, r', e, g⟩ | g
          · exact .inl ⟨l, r', e, by omega⟩
          · exact .inr g
      · cases hi : isNext [41] r with
        | false => exact ⟨_, ev_list_last_bad h1 hm hi, .inr ⟨r, rfl⟩, fun r' hacc l e => by cases e⟩
        | true =>
          have ht := tail_len hi
          refine ⟨_, ev_list_last h1 hm hi, .inl ⟨_, _, rfl, by omega⟩, fun r' hacc l e => ?_⟩
          simp only [Out.ok.injEq] at e
          exact ⟨x, e.1.symm⟩
    · exact ⟨_, ev_list_bad h1, .inr ⟨r, rfl⟩, fun r' hacc l e => by cases e⟩
theorem form_total (ts:List Tk):∃ o,Ev (.form 0) ts o/\Shape ts.length o:=(done_all ts.length ts (Nat.le_refl _)).1 0 (by omega)
end PsTot
namespace PsD
open Go.RowKit
open LexM ExM Kit ExL ExP PsM PsT NmC Ps PsR PsL PsA PsF PsT2
set_option linter.unusedVariables false
theorem as_tok (v:Value) (w:World):(Instr.typeAssert (.iface 193 v) 20 193 true).run Tryz.prog w=.ok (.tuple #[v,.bool true]) w:=by kernel_rfl
theorem as_tok_no (v:Value) (w:World):(Instr.typeAssert (.iface 195 v) 20 193 true).run Tryz.prog w=.ok (.tuple #[.agg #[.int .i64 0,.int .i64 0,.string ⟨#[]⟩,.int .i64 0,.int .i64 0,.string ⟨#[]⟩],.bool false]) w:=by kernel_rfl
theorem as_end (v:Value) (w:World):(Instr.typeAssert (.iface 195 v) 20 195 true).run Tryz.prog w=.ok (.tuple #[v,.bool true]) w:=by kernel_rfl
set_option maxHeartbeats 2000000 in
theorem catch_idle (p q r:Addr) (w:World) :
  CallsD Tryz.prog 125 #[.pointer (some p),.pointer (some q),.pointer (some r)] .returning w fun e u' w' => e=.returned (.tuple #[])/\u'=.returning/\w'=w:=by
 refine callsD_of_wpS Tryz.func125 rfl fun c₀ cs hu => ?_
 simp only [Tryz.ntmps125,List.size_toArray,List.length_cons,List.length_nil,Nat.reduceAdd,Nat.reduceSub,Array.replicate_succ,Array.replicate_zero,List.push_toArray,List.append_toArray,List.nil_append,List.cons_append]
 apply wpS_seq
 apply wpS_region
 simp [wpOpsS,go_sem,recoverD,hu,Exit.thenS]
 refine wpS_of_wp ?_
 go_wp2_with fail
 refine ⟨rfl,.returning,?_,_,by simp [results,Tryz.results125],rfl,rfl,rfl⟩
 cases c₀; simp_all
set_option maxRecDepth 100000 in
set_option maxHeartbeats 4000000 in
theorem catch_tok (bp bq br:Nat) (kd p vk nn a0 e0:Int) (u t:ByteArray) (w:World) (h1:w.cell? ⟨bp,0,none⟩=some (.int .i64 a0)) (h2:w.frozen? ⟨bp,0,none⟩=false) (h3:w.cell? ⟨bq,0,none⟩=some (.int .i64 e0)) (h4:w.frozen? ⟨bq,0,none⟩=false) (hne:bp ≠ bq) (l1:bp < w.heap.size) (l2:bq < w.heap.size) :
  CallsD Tryz.prog 125 #[.pointer (some ⟨bp,0,none⟩),.pointer (some ⟨bq,0,none⟩),.pointer (some ⟨br,0,none⟩)] (.panicking [{ v:=.iface 193 (.agg #[.int .i64 kd,.int .i64 p,.string u,.int .i64 vk,.int .i64 nn,.string t]),recovered:=false }]) w fun e u' w' => e=.returned (.tuple #[])/\u'=.panicking [{ v:=.iface 193 (.agg #[.int .i64 kd,.int .i64 p,.string u,.int .i64 vk,.int .i64 nn,.string t]),recovered:=true }] ∧
   ∃ o,w'=((w.setCell ⟨bp,0,none⟩ (.int .i64 p)).setCell ⟨bq,0,none⟩ (.int .i64 3)).alloc o:=by
 refine callsD_of_wpS Tryz.func125 rfl fun c₀ cs hu => ?_
 simp only [Tryz.ntmps125,List.size_toArray,List.length_cons,List.length_nil,Nat.reduceAdd,Nat.reduceSub,Array.replicate_succ,Array.replicate_zero,List.push_toArray,List.append_toArray,List.nil_append,List.cons_append]
 apply wpS_seq
 apply wpS_region
 simp [wpOpsS,go_sem,recoverD,hu,Exit.thenS]
 refine wpS_of_wp ?_
 have a1:=as_tok (.agg #[.int .i64 kd,.int .i64 p,.string u,.int .i64 vk,.int .i64 nn,.string t]) w
 go_wp2_with fail
 exact ⟨rfl,_,rfl,_,by simp [results,Tryz.results125],rfl,rfl,_,rfl⟩
set_option maxRecDepth 100000 in
set_option maxHeartbeats 4000000 in
theorem catch_end (bp bq br:Nat) (a0 e0 ln:Int) (w:World) (h1:w.cell? ⟨bp,0,none⟩=some (.int .i64 a0)) (h2:w.frozen? ⟨bp,0,none⟩=false) (h3:w.cell? ⟨bq,0,none⟩=some (.int .i64 e0)) (h4:w.frozen? ⟨bq,0,none⟩=false) (h5:w.cell? ⟨br,0,none⟩=some (.int .i64 ln)) (hne:bp ≠ bq) (l1:bp < w.heap.size) (l2:bq < w.heap.size) (l3:br < w.heap.size) :
  CallsD Tryz.prog 125 #[.pointer (some ⟨bp,0,none⟩),.pointer (some ⟨bq,0,none⟩),.pointer (some ⟨br,0,none⟩)] (.panicking [{ v:=.iface 195 (.agg #[]),recovered:=false }]) w fun e u' w' => e=.returned (.tuple #[])/\u'=.panicking [{ v:=.iface 195 (.agg #[]),recovered:=true }] ∧
   ∃ o,w'=((w.setCell ⟨bp,0,none⟩ (.int .i64 ln)).setCell ⟨bq,0,none⟩ (.int .i64 3)).alloc o:=by
 refine callsD_of_wpS Tryz.func125 rfl fun c₀ cs hu => ?_
 simp only [Tryz.ntmps125,List.size_toArray,List.length_cons,List.length_nil,Nat.reduceAdd,Nat.reduceSub,Array.replicate_succ,Array.replicate_zero,List.push_toArray,List.append_toArray,List.nil_append,List.cons_append]
 apply wpS_seq
 apply wpS_region
 simp [wpOpsS,go_sem,recoverD,hu,Exit.thenS]
 refine wpS_of_wp ?_
 have a1:=as_tok_no (.agg #[]) w
 have a2:=as_end (.agg #[]) w
 go_wp2_with fail
 exact ⟨rfl,_,rfl,_,by simp [results,Tryz.results125],rfl,rfl,_,rfl⟩
theorem box5 (w:World) (o0 o1 o2 o3 o4:Obj):(((((w.alloc o0).alloc o1).alloc o2).alloc o3).alloc o4).heap[w.heap.size]?=some o0/\(((((w.alloc o0).alloc o1).alloc o2).alloc o3).alloc o4).heap[w.heap.size + 1]?=some o1/\(((((w.alloc o0).alloc o1).alloc o2).alloc o3).alloc o4).heap[w.heap.size + 1 + 1]?=some o2/\(((((w.alloc o0).alloc o1).alloc o2).alloc o3).alloc o4).heap[w.heap.size + 1 + 1 + 1]?=some o3/\(((((w.alloc o0).alloc o1).alloc o2).alloc o3).alloc o4).heap[w.heap.size + 1 + 1 + 1 + 1]?=some o4:=by
 have a0:=World.alloc_heap_new w o0
 have a1:=World.alloc_heap_new (w.alloc o0) o1
 have a2:=World.alloc_heap_new ((w.alloc o0).alloc o1) o2
 have a3:=World.alloc_heap_new (((w.alloc o0).alloc o1).alloc o2) o3
 have a4:=World.alloc_heap_new ((((w.alloc o0).alloc o1).alloc o2).alloc o3) o4
 simp only [World.size_alloc] at a1 a2 a3 a4
 have k:=fun (v:World) (o:Obj) (b:Nat) (x:Obj) (h:v.heap[b]?=some x) => ((b_new v o).block b (Array.getElem?_eq_some_iff.1 h).1).trans h
 exact ⟨k _ _ _ _ (k _ _ _ _ (k _ _ _ _ (k _ _ _ _ a0))),k _ _ _ _ (k _ _ _ _ (k _ _ _ _ a1)),k _ _ _ _ (k _ _ _ _ a2),k _ _ _ _ a3,a4⟩
theorem cell1 {W:World} {b:Nat} {v:Value} {t:TypeId} (h:W.heap[b]?=some (.cells #[v] t (0,0))):W.cell? ⟨b,0,none⟩=some v/\W.frozen? ⟨b,0,none⟩=false/\b < W.heap.size :=
 ⟨by simp [World.cell?,h],by simp [World.frozen?,h],(Array.getElem?_eq_some_iff.1 h).1⟩
theorem after_catch {w w1:World} {b1 b2 b3:Nat} {a0 e0 a er:Int} {t2 t3:TypeId} {o1:Obj} (hb:Below w.heap.size w w1) (h1:w1.heap[b1]?=some o1) (h2:w1.heap[b2]?=some (.cells #[.int .i64 a0] t2 (0,0))) (h3:w1.heap[b3]?=some (.cells #[.int .i64 e0] t3 (0,0))) (n12:b1 ≠ b2) (n13:b1 ≠ b3) (n23:b2 ≠ b3) (g2:w.heap.size<=b2) (g3:w.heap.size<=b3) (o:Obj) :
  (((w1.setCell ⟨b2,0,none⟩ (.int .i64 a)).setCell ⟨b3,0,none⟩ (.int .i64 er)).alloc o).heap[b1]?=some o1/\(((w1.setCell ⟨b2,0,none⟩ (.int .i64 a)).setCell ⟨b3,0,none⟩ (.int .i64 er)).alloc o).heap[b2]?=some (.cells #[.int .i64 a] t2 (0,0))/\(((w1.setCell ⟨b2,0,none⟩ (.int .i64 a)).setCell ⟨b3,0,none⟩ (.int .i64 er)).alloc o).heap[b3]?=some (.cells #[.int .i64 er] t3 (0,0))/\Below w.heap.size w (((w1.setCell ⟨b2,0,none⟩ (.int .i64 a)).setCell ⟨b3,0,none⟩ (.int .i64 er)).alloc o)/\w1.grownBy (w1.setCell ⟨b2,0,none⟩ (.int .i64 a)) (some b2):=by
 have e2:(w1.setCell ⟨b2,0,none⟩ (.int .i64 a)).heap[b2]?=some (.cells #[.int .i64 a] t2 (0,0)):=heap_setCell_same w1 b2 0 _ _ (.int .i64 a) h2
 have e3:(w1.setCell ⟨b2,0,none⟩ (.int .i64 a)).heap[b3]?=_:=(Below.heap_setCell w1 ⟨b2,0,none⟩ (.int .i64 a) b3 (fun e => n23 e.symm)).trans h3
 have e1:(w1.setCell ⟨b2,0,none⟩ (.int .i64 a)).heap[b1]?=_:=(Below.heap_setCell w1 ⟨b2,0,none⟩ (.int .i64 a) b1 n12).trans h1
 have k3:=heap_setCell_same (w1.setCell ⟨b2,0,none⟩ (.int .i64 a)) b3 0 _ _ (.int .i64 er) e3
 have k2:=(Below.heap_setCell (w1.setCell ⟨b2,0,none⟩ (.int .i64 a)) ⟨b3,0,none⟩ (.int .i64 er) b2 n23).trans e2
 have k1:=(Below.heap_setCell (w1.setCell ⟨b2,0,none⟩ (.int .i64 a)) ⟨b3,0,none⟩ (.int .i64 er) b1 n13).trans e1
 have kk:=fun (v:World) (o:Obj) (b:Nat) (x:Obj) (h:v.heap[b]?=some x) => ((b_new v o).block b (Array.getElem?_eq_some_iff.1 h).1).trans h
 have hbb:=(hb.setCell (p:=⟨b2,0,none⟩) g2 (.int .i64 a)).setCell (p:=⟨b3,0,none⟩) g3 (.int .i64 er)
 exact ⟨kk _ o _ _ k1,kk _ o _ _ k2,kk _ o _ _ k3,hbb.trans ((b_new _ o).mono hbb.size),grown_set _ _ _ _⟩
theorem after_idle {w w1:World} {b1 b2 b3:Nat} {a0 e0:Int} {t2 t3:TypeId} {o1:Obj} (hb:Below w.heap.size w w1) (h1:w1.heap[b1]?=some o1) (h2:w1.heap[b2]?=some (.cells #[.int .i64 a0] t2 (0,0))) (h3:w1.heap[b3]?=some (.cells #[.int .i64 e0] t3 (0,0))) (n12:b1 ≠ b2) (n13:b1 ≠ b3) (n23:b2 ≠ b3) (g2:w.heap.size<=b2) (g3:w.heap.size<=b3) (a er:Int) :
  ((w1.setCell ⟨b2,0,none⟩ (.int .i64 a)).setCell ⟨b3,0,none⟩ (.int .i64 er)).heap[b1]?=some o1/\((w1.setCell ⟨b2,0,none⟩ (.int .i64 a)).setCell ⟨b3,0,none⟩ (.int .i64 er)).heap[b2]?=some (.cells #[.int .i64 a] t2 (0,0))/\((w1.setCell ⟨b2,0,none⟩ (.int .i64 a)).setCell ⟨b3,0,none⟩ (.int .i64 er)).heap[b3]?=some (.cells #[.int .i64 er] t3 (0,0))/\Below w.heap.size w ((w1.setCell ⟨b2,0,none⟩ (.int .i64 a)).setCell ⟨b3,0,none⟩ (.int .i64 er)):=by
 have e2:(w1.setCell ⟨b2,0,none⟩ (.int .i64 a)).heap[b2]?=some (.cells #[.int .i64 a] t2 (0,0)):=heap_setCell_same w1 b2 0 _ _ (.int .i64 a) h2
 have e3:(w1.setCell ⟨b2,0,none⟩ (.int .i64 a)).heap[b3]?=_:=(Below.heap_setCell w1 ⟨b2,0,none⟩ (.int .i64 a) b3 (fun e => n23 e.symm)).trans h3
 have e1:(w1.setCell ⟨b2,0,none⟩ (.int .i64 a)).heap[b1]?=_:=(Below.heap_setCell w1 ⟨b2,0,none⟩ (.int .i64 a) b1 n12).trans h1
 have k3:=heap_setCell_same (w1.setCell ⟨b2,0,none⟩ (.int .i64 a)) b3 0 _ _ (.int .i64 er) e3
 have k2:=(Below.heap_setCell (w1.setCell ⟨b2,0,none⟩ (.int .i64 a)) ⟨b3,0,none⟩ (.int .i64 er) b2 n23).trans e2
 have k1:=(Below.heap_setCell (w1.setCell ⟨b2,0,none⟩ (.int .i64 a)) ⟨b3,0,none⟩ (.int .i64 er) b1 n13).trans e1
 exact ⟨k1,k2,k3,(hb.setCell (p:=⟨b2,0,none⟩) g2 (.int .i64 a)).setCell (p:=⟨b3,0,none⟩) g3 (.int .i64 er)⟩
def atOf (len:Int):List Tk->Int
 | [] => len
 | t :: _ => t.pos
def ParsedOut (w:World) (R:Ex->Int->Int->Prop) (e:Ending) (w':World):Prop :=
 ∃ (x:Ex) (d:Nd) (B:Option Addr) (m cp:Nat) (a er:Int),e=.returned (.tuple #[.agg #[.int .i64 d.op,.int .i64 d.k,.int .i64 d.n,.string d.s,.string d.nm,.slice B m cp],.int .i64 a,.int .i64 er])/\IsP (fun b => w.heap.size<=b) w' x d B m/\R x a er/\Below w.heap.size w w'
set_option maxRecDepth 100000 in
set_option maxHeartbeats 8000000 in
theorem parsed_any (L:List Tk) (A:Option Addr) (c:Nat) (ln:Int) (w:World) (hE:∀ P,w.heap.size<=P->Env w P A L) (hFu:Full L) (hSm:Small L) (o:Out) (ho:Ev (.form 0) L o) (hsh:PsTot.Shape L.length o) :
  Calls Tryz.prog 101 #[.slice A L.length c,.int .i64 ln] w (ParsedOut w fun x a er => (o=.ok [x] []/\a=0/\er=0) ∨ ∃ r,((∃ x,o=.ok [x] r/\r ≠ []) ∨ o=.bad r)/\a=atOf ln r/\er=3):=by
 have hmf:∀ (fn:Fn) (first cap:Array Value) (w:World),(Instr.makeFunc fn first cap).run Tryz.prog w=.ok (.func fn first cap) w:=fun _ _ _ _ => rfl
 obtain ⟨hnt,f,hrun⟩:=ho
 have hrun:=hrun f (Nat.le_refl _)
 obtain ⟨V,hV⟩:∃ V,((((w.alloc (.cells #[.int .i64 ln] 3)).alloc (.cells #[.int .i64 0,.int .i64 0,.int .i64 0,.string ⟨#[]⟩,.string ⟨#[]⟩,.slice none 0 0] 45)).alloc (.cells #[.int .i64 0] 3)).alloc (.cells #[.int .i64 0] 23)).alloc (.cells #[.slice A L.length c,.int .i64 0] 197)=V:=⟨_,rfl⟩
 have hbV:Below w.heap.size w V:=by rw [← hV]; exact b_more (b_more (b_more (b_more (b_new _ _) _) _) _) _
 have hsV:V.heap.size=w.heap.size + 5:=by rw [← hV]; simp
 have hbx:V.heap[w.heap.size]?=some (.cells #[.int .i64 ln] 3 (0,0))/\V.heap[w.heap.size + 1]?=some (.cells #[.int .i64 0,.int .i64 0,.int .i64 0,.string ⟨#[]⟩,.string ⟨#[]⟩,.slice none 0 0] 45 (0,0))/\V.heap[w.heap.size + 1 + 1]?=some (.cells #[.int .i64 0] 3 (0,0))/\V.heap[w.heap.size + 1 + 1 + 1]?=some (.cells #[.int .i64 0] 23 (0,0))/\V.heap[w.heap.size + 1 + 1 + 1 + 1]?=some (.cells #[.slice A L.length c,.int .i64 0] 197 (0,0)):=by
  rw [← hV]; exact box5 w _ _ _ _ _
 have hSt:St w (w.heap.size + 1 + 1 + 1 + 1) A c L V 0:=⟨hbx.2.2.2.2,hbV,Nat.zero_le _⟩
 have hEP:=hE (w.heap.size + 1 + 1 + 1 + 1) (by omega)
 have hc:=form_all (c:=c) hEP hFu hSm f 0 V 0 o (by omega) hrun hnt hSt
 have HC:=Lib.hid hc
 have HV:=Lib.hid hV
 have HBV:=Lib.hid hbV
 have HEP:=Lib.hid hEP
 have HBx:=Lib.hid hbx
 clear hc hV hbV hEP hbx hSt hE hrun hnt
 go_enter_defers Tryz.func101,Tryz.ntmps101
 go_wp2_with fail
 rw [HV.out]
 refine HC.out.mono ?_; intro e w1 he
 have hkeep:∀ W1,V.grownBy W1 (some (w.heap.size + 1 + 1 + 1 + 1))->(W1.heap[w.heap.size]?=some (.cells #[.int .i64 ln] 3 (0,0))/\W1.heap[w.heap.size + 1]?=some (.cells #[.int .i64 0,.int .i64 0,.int .i64 0,.string ⟨#[]⟩,.string ⟨#[]⟩,.slice none 0 0] 45 (0,0))/\W1.heap[w.heap.size + 1 + 1]?=some (.cells #[.int .i64 0] 3 (0,0))/\W1.heap[w.heap.size + 1 + 1 + 1]?=some (.cells #[.int .i64 0] 23 (0,0)))/\Below w.heap.size w W1:=fun W1 hg => by
  obtain ⟨b0,b1,b2,b3,_⟩:=HBx.out
  have k:∀ b,b < w.heap.size + 1 + 1 + 1 + 1->W1.heap[b]?=V.heap[b]?:=fun b hb => hg.block b (by omega) (fun e => by injection e with e; omega)
  exact ⟨⟨(k _ (by omega)).trans b0,(k _ (by omega)).trans b1,(k _ (by omega)).trans b2,(k _ (by omega)).trans b3⟩,HBV.out.grown hg HBV.out.size (fun j e => by injection e with e; omega)⟩
 cases o with
 | tired => exact he.elim
 | bad r =>
  obtain ⟨v,rfl,hw,hg⟩:=he
  obtain ⟨⟨b0,b1,b2,b3⟩,hbw⟩:=hkeep w1 hg
  obtain ⟨x0,f0,l0⟩:=cell1 b0
  obtain ⟨x2,f2,l2⟩:=cell1 b2
  obtain ⟨x3,f3,l3⟩:=cell1 b3
  obtain ⟨x1,f1⟩:=cells_of b1
  have l1:=(Array.getElem?_eq_some_iff.1 b1).1
  have HBw:=Lib.hid hbw
  have HB:=Lib.hid (And.intro b1 (And.intro b2 b3))
  clear hkeep hg b0 b1 b2 b3 hbw HBx HC HV
  rcases hw with ⟨rfl,rfl⟩ | ⟨t,r',rfl,rfl⟩
  ·go_wp2_with fail
   refine leaves_cons (f:=125) (args:=#[.pointer (some ⟨w.heap.size + 1 + 1,0,none⟩),.pointer (some ⟨w.heap.size + 1 + 1 + 1,0,none⟩),.pointer (some ⟨w.heap.size,0,none⟩)]) (by simp) (by simp [go_sem]) ?_
   refine (catch_end (w.heap.size + 1 + 1) (w.heap.size + 1 + 1 + 1) w.heap.size 0 0 ln w1 x2 f2 x3 f3 x0 (by omega) l2 l3 l0).mono ?_
   rintro e u' w'' ⟨rfl,rfl,o,rfl⟩
   obtain ⟨k1,k2,k3,kb,_⟩:=after_catch (a:=ln) (er:=3) HBw.out HB.out.1 HB.out.2.1 HB.out.2.2 (by omega) (by omega) (by omega) (by omega) (by omega) o
   obtain ⟨W2,hW2⟩:∃ W2,((w1.setCell ⟨w.heap.size + 1 + 1,0,none⟩ (.int .i64 ln)).setCell ⟨w.heap.size + 1 + 1 + 1,0,none⟩ (.int .i64 3)).alloc o=W2:=⟨_,rfl⟩
   rw [hW2] at k1 k2 k3 kb ⊢
   obtain ⟨y1,_⟩:=cells_of k1
   obtain ⟨y2,_⟩:=cell1 k2
   obtain ⟨y3,_⟩:=cell1 k3
   clear hW2 x0 x1 x2 x3 f0 f1 f2 f3
   simp [Leaves,settle,results,Tryz.results101,go_sem,y1,y2,y3]
   exact ⟨.mk ⟨0,0,0,⟨#[]⟩,⟨#[]⟩⟩ [],⟨0,0,0,⟨#[]⟩,⟨#[]⟩⟩,none,0,0,_,_,rfl,isP_leaf _ _ _ _ (Nat.zero_le _) (Nat.zero_le _),by simp [atOf],kb⟩
  ·go_wp2_with fail
   unfold tkV
   refine leaves_cons (f:=125) (args:=#[.pointer (some ⟨w.heap.size + 1 + 1,0,none⟩),.pointer (some ⟨w.heap.size + 1 + 1 + 1,0,none⟩),.pointer (some ⟨w.heap.size,0,none⟩)]) (by simp) (by simp [go_sem]) ?_
   refine (catch_tok (w.heap.size + 1 + 1) (w.heap.size + 1 + 1 + 1) w.heap.size _ _ _ _ 0 0 _ _ w1 x2 f2 x3 f3 (by omega) l2 l3).mono ?_
   rintro e u' w'' ⟨rfl,rfl,o,rfl⟩
   obtain ⟨k1,k2,k3,kb,_⟩:=after_catch (a:=(t.pos:Int)) (er:=3) HBw.out HB.out.1 HB.out.2.1 HB.out.2.2 (by omega) (by omega) (by omega) (by omega) (by omega) o
   obtain ⟨W2,hW2⟩:∃ W2,((w1.setCell ⟨w.heap.size + 1 + 1,0,none⟩ (.int .i64 (t.pos:Int))).setCell ⟨w.heap.size + 1 + 1 + 1,0,none⟩ (.int .i64 3)).alloc o=W2:=⟨_,rfl⟩
   rw [hW2] at k1 k2 k3 kb ⊢
   obtain ⟨y1,_⟩:=cells_of k1
   obtain ⟨y2,_⟩:=cell1 k2
   obtain ⟨y3,_⟩:=cell1 k3
   clear hW2 x0 x1 x2 x3 f0 f1 f2 f3
   simp [Leaves,settle,results,Tryz.results101,go_sem,y1,y2,y3]
   exact ⟨.mk ⟨0,0,0,⟨#[]⟩,⟨#[]⟩⟩ [],⟨0,0,0,⟨#[]⟩,⟨#[]⟩⟩,none,0,0,_,_,rfl,isP_leaf _ _ _ _ (Nat.zero_le _) (Nat.zero_le _),by simp [atOf],kb⟩
 | ok l r =>
  obtain ⟨x,rfl⟩:∃ x,l=[x]:=by
   match l,he with
   | [],he => exact he.elim
   | x :: y :: l,he => exact he.elim
   | [x],he => exact ⟨x,rfl⟩
  obtain ⟨d,B,m,cp,k',rfl,hix,rfl,_,hS1,hg⟩:=he
  obtain ⟨⟨b0,b1,b2,b3⟩,hbw⟩:=hkeep w1 hg
  have hh:=fun b (hb:b ≠ w.heap.size + 1) => s6_heap w1 (w.heap.size + 1) b hb (.int .i64 d.op) (.int .i64 d.k) (.int .i64 d.n) (.string d.s) (.string d.nm) (.slice B m cp)
  have hgS:=s6_grown w1 (w.heap.size + 1) (.int .i64 d.op) (.int .i64 d.k) (.int .i64 d.n) (.string d.s) (.string d.nm) (.slice B m cp)
  obtain ⟨WS,hWS⟩:∃ W,S6 w1 (w.heap.size + 1) (.int .i64 d.op) (.int .i64 d.k) (.int .i64 d.n) (.string d.s) (.string d.nm) (.slice B m cp)=W:=⟨_,rfl⟩
  have c1:=set6_box b1 (.int .i64 d.op) (.int .i64 d.k) (.int .i64 d.n) (.string d.s) (.string d.nm) (.slice B m cp)
  rw [hWS] at hh hgS c1
  have c0:=(hh _ (by omega)).trans b0
  have c2:=(hh _ (by omega)).trans b2
  have c3:=(hh _ (by omega)).trans b3
  have hbS:Below w.heap.size w WS:=hbw.grown hgS hbw.size (fun j e => by injection e with e; omega)
  have hSS:St w (w.heap.size + 1 + 1 + 1 + 1) A c L WS k':=⟨(hh _ (by omega)).trans hS1.prs,hbS,hS1.le⟩
  have hixS:IsP (fun b => w.heap.size + 5<=b) WS x d B m:=IsP.keep (fun b hb _ => hh b (by have h1:V.heap.size<=b:=hb; omega)) (fun b hb _ => by have h1:V.heap.size<=b:=hb; show w.heap.size + 5<=b; omega) _ _ _ _ hix
  obtain ⟨xx1,ff1⟩:=cells_of b1
  have l1':=(Array.getElem?_eq_some_iff.1 b1).1
  have HWS:=Lib.hid hWS
  clear hkeep hg hh hgS b0 b1 b2 b3 hbw hix hS1 HBx HC HV hWS
  go_upto_region 4 with fail
  unfold S6 at HWS
  rw [HWS.out]
  clear xx1 ff1 l1' HWS
  obtain ⟨x0,f0,l0⟩:=cell1 c0
  obtain ⟨x2,f2,l2⟩:=cell1 c2
  obtain ⟨x3,f3,l3⟩:=cell1 c3
  obtain ⟨x1,f1⟩:=cells_of c1
  have l1:=(Array.getElem?_eq_some_iff.1 c1).1
  obtain ⟨p0,p1⟩:=hSS.at
  have lP:=hSS.lt
  rcases Nat.lt_or_ge k' L.length with hk | hk
  ·have hT:=throw_c HEP.out hSS
   go_wp2_with fail
   refine hT.mono ?_
   rintro e w5 ⟨v,rfl,hw,mm,rfl⟩
   obtain ⟨Wd,hWd⟩:∃ Wd,WS.drewN mm=Wd:=⟨_,rfl⟩
   have hhd:Wd.heap=WS.heap:=by rw [← hWd]; rfl
   have hbd:Below w.heap.size w Wd:=by rw [← hWd]; exact b_drewN hbS mm
   rw [← hhd] at c1 c2 c3
   have hixd:IsP (fun b => w.heap.size + 5<=b) Wd x d B m:=IsP.keep (fun b _ _ => by rw [hhd]) (fun b hb _ => hb) _ _ _ _ hixS
   rw [hWd]
   clear x0 x1 x2 x3 f0 f1 f2 f3 l0 l1 l2 l3 p0 p1 lP
   obtain ⟨x2,f2,l2⟩:=cell1 c2
   obtain ⟨x3,f3,l3⟩:=cell1 c3
   have HB:=Lib.hid (And.intro c1 (And.intro c2 c3))
   have HBd:=Lib.hid hbd
   have HIx:=Lib.hid hixd
   rcases hw with ⟨h0,_⟩ | ⟨t,r',hd,rfl⟩
   ·exact absurd (congrArg List.length h0) (by simp; omega)
   clear c1 c2 c3 c0 hixd hixS hbd hbS hSS hhd hWd hT
   unfold tkV
   refine leaves_cons (f:=125) (args:=#[.pointer (some ⟨w.heap.size + 1 + 1,0,none⟩),.pointer (some ⟨w.heap.size + 1 + 1 + 1,0,none⟩),.pointer (some ⟨w.heap.size,0,none⟩)]) (by simp) (by simp [go_sem]) ?_
   refine (catch_tok (w.heap.size + 1 + 1) (w.heap.size + 1 + 1 + 1) w.heap.size _ _ _ _ 0 0 _ _ Wd x2 f2 x3 f3 (by omega) l2 l3).mono ?_
   rintro e u' w'' ⟨rfl,rfl,o,rfl⟩
   obtain ⟨k1,k2,k3,kb,_⟩:=after_catch (a:=(t.pos:Int)) (er:=3) HBd.out HB.out.1 HB.out.2.1 HB.out.2.2 (by omega) (by omega) (by omega) (by omega) (by omega) o
   have hix3:IsP (fun b => w.heap.size<=b) (((Wd.setCell ⟨w.heap.size + 1 + 1,0,none⟩ (.int .i64 (t.pos:Int))).setCell ⟨w.heap.size + 1 + 1 + 1,0,none⟩ (.int .i64 3)).alloc o) x d B m:=IsP.keep (fun b hb hl => by
    have h1:w.heap.size + 5<=b:=hb
    exact ((b_new _ o).block b (by simp only [sz_set]; exact hl)).trans ((Below.heap_setCell _ ⟨w.heap.size + 1 + 1 + 1,0,none⟩ _ b (by dsimp only; omega)).trans (Below.heap_setCell _ ⟨w.heap.size + 1 + 1,0,none⟩ _ b (by dsimp only; omega)))) (fun b hb _ => by have h1:w.heap.size + 5<=b:=hb; show w.heap.size<=b; omega) _ _ _ _ HIx.out
   obtain ⟨W2,hW2⟩:∃ W2,((Wd.setCell ⟨w.heap.size + 1 + 1,0,none⟩ (.int .i64 (t.pos:Int))).setCell ⟨w.heap.size + 1 + 1 + 1,0,none⟩ (.int .i64 3)).alloc o=W2:=⟨_,rfl⟩
   rw [hW2] at k1 k2 k3 kb hix3 ⊢
   obtain ⟨y1,_⟩:=cells_of k1
   obtain ⟨y2,_⟩:=cell1 k2
   obtain ⟨y3,_⟩:=cell1 k3
   clear hW2 x2 x3 f2 f3
   simp [Leaves,settle,results,Tryz.results101,go_sem,y1,y2,y3]
   exact ⟨x,d,B,m,cp,_,_,rfl,hix3,.inr ⟨t :: r',⟨hd,by simp⟩,rfl,rfl⟩,kb⟩
  ·have HB:=Lib.hid (And.intro (set6_box c1 (.int .i64 d.op) (.int .i64 d.k) (.int .i64 d.n) (.string d.s) (.string d.nm) (.slice B m cp)) (And.intro ((s6_heap WS (w.heap.size + 1) _ (by omega) (.int .i64 d.op) (.int .i64 d.k) (.int .i64 d.n) (.string d.s) (.string d.nm) (.slice B m cp)).trans c2) ((s6_heap WS (w.heap.size + 1) _ (by omega) (.int .i64 d.op) (.int .i64 d.k) (.int .i64 d.n) (.string d.s) (.string d.nm) (.slice B m cp)).trans c3)))
   have HG:=Lib.hid (s6_grown WS (w.heap.size + 1) (.int .i64 d.op) (.int .i64 d.k) (.int .i64 d.n) (.string d.s) (.string d.nm) (.slice B m cp))
   have HH:=Lib.hid (fun b (hb:b ≠ w.heap.size + 1) => s6_heap WS (w.heap.size + 1) b hb (.int .i64 d.op) (.int .i64 d.k) (.int .i64 d.n) (.string d.s) (.string d.nm) (.slice B m cp))
   obtain ⟨WT,hWT⟩:∃ W,S6 WS (w.heap.size + 1) (.int .i64 d.op) (.int .i64 d.k) (.int .i64 d.n) (.string d.s) (.string d.nm) (.slice B m cp)=W:=⟨_,rfl⟩
   rw [hWT] at HB HG HH
   have HWT:=Lib.hid hWT
   clear hWT
   go_wp2_with fail
   unfold S6 at HWT
   rw [HWT.out]
   have hbT:Below w.heap.size w WT:=hbS.grown HG.out hbS.size (fun j e => by injection e with e; omega)
   have hixT:IsP (fun b => w.heap.size + 5<=b) WT x d B m:=IsP.keep (fun b hb _ => HH.out b (by have h1:w.heap.size + 5<=b:=hb; omega)) (fun b hb _ => hb) _ _ _ _ hixS
   refine leaves_cons (f:=125) (args:=#[.pointer (some ⟨w.heap.size + 1 + 1,0,none⟩),.pointer (some ⟨w.heap.size + 1 + 1 + 1,0,none⟩),.pointer (some ⟨w.heap.size,0,none⟩)]) (by simp) (by simp [go_sem]) ?_
   refine (catch_idle ⟨w.heap.size + 1 + 1,0,none⟩ ⟨w.heap.size + 1 + 1 + 1,0,none⟩ ⟨w.heap.size,0,none⟩ _).mono ?_
   rintro e u' w'' ⟨rfl,rfl,rfl⟩
   obtain ⟨k1,k2,k3,kb⟩:=after_idle hbT HB.out.1 HB.out.2.1 HB.out.2.2 (by omega) (by omega) (by omega) (by omega) (by omega) 0 0
   have hix3:IsP (fun b => w.heap.size<=b) ((WT.setCell ⟨w.heap.size + 1 + 1,0,none⟩ (.int .i64 0)).setCell ⟨w.heap.size + 1 + 1 + 1,0,none⟩ (.int .i64 0)) x d B m:=IsP.keep (fun b hb hl => by
    have h1:w.heap.size + 5<=b:=hb
    exact (Below.heap_setCell _ ⟨w.heap.size + 1 + 1 + 1,0,none⟩ _ b (by dsimp only; omega)).trans (Below.heap_setCell _ ⟨w.heap.size + 1 + 1,0,none⟩ _ b (by dsimp only; omega))) (fun b hb _ => by have h1:w.heap.size + 5<=b:=hb; show w.heap.size<=b; omega) _ _ _ _ hixT
   obtain ⟨W2,hW2⟩:∃ W2,(WT.setCell ⟨w.heap.size + 1 + 1,0,none⟩ (.int .i64 0)).setCell ⟨w.heap.size + 1 + 1 + 1,0,none⟩ (.int .i64 0)=W2:=⟨_,rfl⟩
   rw [hW2] at k1 k2 k3 kb hix3 ⊢
   obtain ⟨y1,_⟩:=cells_of k1
   obtain ⟨y2,_⟩:=cell1 k2
   obtain ⟨y3,_⟩:=cell1 k3
   clear hW2 x0 x1 x2 x3 f0 f1 f2 f3
   simp [Leaves,settle,results,Tryz.results101,go_sem,y1,y2,y3]
   exact ⟨x,d,B,m,cp,_,_,rfl,hix3,.inl (by simp <;> omega),kb⟩
end PsD
end Go.Proofs.YtjhhmdmmllblhaaGreatDoor
