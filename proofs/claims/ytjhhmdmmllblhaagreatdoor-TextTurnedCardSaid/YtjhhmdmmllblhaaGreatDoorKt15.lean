/- FrmMath: what these laws name of them. -/
import Derived.Test.YtjhhmdmmllblhaaGreatDoorKt14
namespace Go.Proofs.YtjhhmdmmllblhaaGreatDoor
set_option linter.unusedVariables false
namespace FrmM
open Go.RowKit
open ValM LexM NumM ExM Kit ExL ExP RawV Within RawL RawN GenL Gen GenE GenT GenV
set_option linter.unusedVariables false
def fnames:List ByteArray:=[⟨#[97]⟩,⟨#[98]⟩,⟨#[99]⟩,⟨#[100,97,121]⟩,⟨#[101,49]⟩,⟨#[102,101,101]⟩,⟨#[103,111,110,101]⟩,⟨#[104,111,109,101]⟩,⟨#[105,116,101,109]⟩,⟨#[106,111,98]⟩]
def nmK (k:Nat):ByteArray:=fnames.getD k ⟨#[]⟩
def fvs (l:List FV):List (ByteArray × Int):=l.map fun f => (f.nm,f.ty)
def srcV (rs:List Rw) (l:List FV) (a:Nat):Ex × Nat :=
 if 1 + pick (nextV rs a).k 3=2 then exprV rs (fvs l) 2 (1 + pick (nextV rs a).y 3) (nextA rs a)
 else if 1 + pick (nextV rs a).k 3=3 then exprV rs (fvs l) 1 (1 + pick (nextV rs a).x 3) (nextA rs a)
 else (zeroX,nextA rs a)
def fieldsV (rs:List Rw):Nat->List FV × Nat
 | 0 => ([],nextA rs 0)
 | k + 1 => ((fieldsV rs k).1 ++ [⟨nmK k,1 + pick (nextV rs (fieldsV rs k).2).k 3,1 + pick (nextV rs (fieldsV rs k).2).y 3,(srcV rs (fieldsV rs k).1 (fieldsV rs k).2).1⟩],(srcV rs (fieldsV rs k).1 (fieldsV rs k).2).2)
theorem fieldsV_len (rs:List Rw):∀ k,(fieldsV rs k).1.length=k
 | 0 => rfl
 | k + 1 => by show (_ ++ [_]).length=_; rw [List.length_append,fieldsV_len rs k]; rfl
theorem fieldsV_step {rs:List Rw} {l:List FV} {k a a2:Nat} {x:Ex} (h:(l,a)=fieldsV rs k) (hs:(x,a2)=srcV rs l a):(l ++ [⟨nmK k,1 + pick (nextV rs a).k 3,1 + pick (nextV rs a).y 3,x⟩],a2)=fieldsV rs (k + 1):=by
 show _=(_ ++ [_],_)
 rw [← h]; dsimp only; rw [← hs]
def countV (rs:List Rw):Nat:=(1 + pick (nextV rs 0).x 10).toNat
theorem countV_bd (rs:List Rw):1<=countV rs/\countV rs<=10:=by
 obtain ⟨h0,h1⟩:=pick_bd (nextV rs 0).x 10 (by decide)
 unfold countV; omega
def onV (l:List FV) (n i:Nat):Nat->List ByteArray
 | 0 => []
 | k + 1 => if k % (n + 1)=i then onV l n i k ++ [(l[k]?.map FV.nm).getD ⟨#[]⟩] else onV l n i k
def skipV (rs:List Rw) (l:List FV) (a:Nat):Ex × Nat :=
 if pick (nextV rs a).k 2=0 then exprV rs (fvs l) 1 2 (nextA rs a) else (zeroX,nextA rs a)
def pgName (i:Nat):ByteArray:=⟨#[112,UInt8.ofNat (49 + i)]⟩
def pagesV (rs:List Rw) (l:List FV) (n a:Nat):Nat->List PV × Nat
 | 0 => ([],a)
 | i + 1 => ((pagesV rs l n a i).1 ++ [⟨pgName i,onV l n i l.length,(skipV rs l (pagesV rs l n a i).2).1⟩],(skipV rs l (pagesV rs l n a i).2).2)
theorem pagesV_len (rs:List Rw) (l:List FV) (n a:Nat):∀ i,(pagesV rs l n a i).1.length=i
 | 0 => rfl
 | i + 1 => by show (_ ++ [_]).length=_; rw [List.length_append,pagesV_len rs l n a i]; rfl
theorem pagesV_step {rs:List Rw} {l:List FV} {n a0 i a a2:Nat} {ps:List PV} {x:Ex} (h:(ps,a)=pagesV rs l n a0 i) (hs:(x,a2)=skipV rs l a):(ps ++ [⟨pgName i,onV l n i l.length,x⟩],a2)=pagesV rs l n a0 (i + 1):=by
 show _=(_ ++ [_],_)
 rw [← h]; dsimp only; rw [← hs]
def pageN (rs:List Rw):Nat:=(1 + pick (nextV rs 0).y 4).toNat
theorem pageN_bd (rs:List Rw):1<=pageN rs/\pageN rs<=4:=by
 obtain ⟨h0,h1⟩:=pick_bd (nextV rs 0).y 4 (by decide)
 unfold pageN; omega
def baseV (rs:List Rw):List FV:=(fieldsV rs (countV rs)).1
def turnB (rs:List Rw):Bool:=decide (pick (nextV rs 0).k 2=0)
def formF (rs:List Rw):List FV:=if turnB rs=true then (baseV rs).reverse else baseV rs
def formP (rs:List Rw):List PV:=(pagesV rs (baseV rs) (pageN rs) (fieldsV rs (countV rs)).2 (pageN rs)).1
theorem nts_fe (es:List FE):nts (es.map FE.fd)=fvs (es.map FE.v):=by
 unfold nts fvs; rw [List.map_map,List.map_map]; rfl
theorem nmK_size (k:Nat):(nmK k).size<=4:=by
 have h:∀ s ∈ fnames,s.size<=4:=by decide
 unfold nmK
 by_cases hk:k < fnames.length
 ·rw [getD_lt hk]; exact h _ (List.getElem_mem _)
 ·rw [List.getD_eq_getElem?_getD,List.getElem?_eq_none (by omega)]; exact Nat.zero_le _
theorem fieldsV_nm (rs:List Rw):∀ k,∀ (i:Nat) (h:i < (fieldsV rs k).1.length),(fieldsV rs k).1[i].nm=nmK i
 | 0,i,h => absurd h (by simp [fieldsV])
 | k + 1,i,h => by
  have hl:=fieldsV_len rs k
  have hl':=fieldsV_len rs (k + 1)
  by_cases hi:i < (fieldsV rs k).1.length
  ·have:(fieldsV rs (k + 1)).1[i]=(fieldsV rs k).1[i]:=List.getElem_append_left hi
   rw [this]; exact fieldsV_nm rs k i hi
  ·have e:i=k:=by omega
   subst e
   have key:∀ (l:List FV) (z:FV) (h:l.length < (l ++ [z]).length),(l ++ [z])[l.length]=z:=fun l z h => by simp
   have e2:(fieldsV rs (i + 1)).1[(fieldsV rs i).1.length]'(by omega)=⟨nmK i,_,_,_⟩:=key (fieldsV rs i).1 _ (by simp)
   have e3:(fieldsV rs (i + 1)).1[i]=(fieldsV rs (i + 1)).1[(fieldsV rs i).1.length]'(by omega):=by congr 1; exact hl.symm
   rw [e3,e2]
structure FoI (w:World) (B1:Nat) (A:Option Addr) (rs:List Rw) (c:Nat) (R0:Rw) (k:Nat) (es:List FE) (v:Value) (a:Nat) (wr:World):Prop where
 own:wr.ownsRow (B1 + 1) 47 9 v k (feC es)
 len:es.length=k
 val:(es.map FE.v,a)=fieldsV rs k
 few:a<=1 + 27 * k
 is:∀ e ∈ es,IsP (fun b => B1 + 1<=b/\some b ≠ v.ownBlock) wr e.x e.x.d e.B e.m
 gen:RawL.Gen wr (w.heap.size + 1) A rs.length c a
 res:wr.heap[w.heap.size]?=some (.cells #[.slice none 0 0,.slice none 0 0] 29 (0,0))
 box:wr.heap[w.heap.size + 2]?=some (.cells #[v,.slice none 0 0] 29 (0,0))
 fst:wr.heap[B1]?=some (.cells #[.int .i64 R0.k,.int .i64 R0.x,.int .i64 R0.y,.string R0.t] 56 (0,0))
 lt:w.heap.size + 3<=B1
 below:Below w.heap.size w wr
theorem FoI.far {w:World} {B1:Nat} {A:Option Addr} {rs:List Rw} {c:Nat} {R0:Rw} {k:Nat} {es:List FE} {v:Value} {a:Nat} {wr:World} (h:FoI w B1 A rs c R0 k es v a wr):∀ b,b<=B1->some b ≠ v.ownBlock:=fun b hb e => by
 have:=(h.own.lt b e.symm).1; omega
theorem FoI.keep {w:World} {B1:Nat} {A:Option Addr} {rs:List Rw} {c:Nat} {R0:Rw} {k:Nat} {es:List FE} {v:Value} {a:Nat} {wr w':World} (h:FoI w B1 A rs c R0 k es v a wr) (hb:Below wr.heap.size wr w'):FoI w B1 A rs c R0 k es v a w' :=
 ⟨own_below h.own hb,h.len,h.val,h.few,fun e he => (h.is e he).below hb,h.gen.below hb,(hb.block _ (Array.getElem?_eq_some_iff.1 h.res).1).trans h.res,(hb.block _ (Array.getElem?_eq_some_iff.1 h.box).1).trans h.box,(hb.block _ (Array.getElem?_eq_some_iff.1 h.fst).1).trans h.fst,h.lt,h.below.trans (hb.mono h.below.size)⟩
theorem FoI.nmsz {w:World} {B1:Nat} {A:Option Addr} {rs:List Rw} {c:Nat} {R0:Rw} {k:Nat} {es:List FE} {v:Value} {a:Nat} {wr:World} (h:FoI w B1 A rs c R0 k es v a wr):∀ f ∈ es.map FE.fd,f.nm.size<=maxLen:=fun f hf => by
 obtain ⟨e,he,rfl⟩:=List.mem_map.1 hf
 obtain ⟨i,hi,rfl⟩:=List.mem_iff_getElem.1 he
 have h1:(es.map FE.v)=(fieldsV rs k).1:=congrArg Prod.fst h.val
 have h2:=fieldsV_nm rs k i (by rw [← h1]; simpa using hi)
 have h3:es[i].nm=nmK i:=by
  rw [← h2]
  have:(es.map FE.v)[i]'(by simpa using hi)=(fieldsV rs k).1[i]'(by rw [← h1]; simpa using hi):=by simp only [h1]
  rw [← this,List.getElem_map]; rfl
 show es[i].nm.size<=_
 rw [h3]; have:=nmK_size i; unfold maxLen; omega
theorem FoI.step {w:World} {B1:Nat} {A:Option Addr} {rs:List Rw} {c:Nat} {R0:Rw} {k:Nat} {es:List FE} {v:Value} {a:Nat} {wr V W6:World} {x:Ex} {d:Nd} {B:Option Addr} {m cp a2 gg cap:Nat} {tmp:Obj} {kd ty:Int} (h:FoI w B1 A rs c R0 k es v a wr)
  (hk1:kd=1 + pick (nextV rs a).k 3) (hk2:ty=1 + pick (nextV rs a).y 3) (hx:(x,a2)=srcV rs (es.map FE.v) a) (hisx:IsP (fun b => wr.heap.size<=b) V x d B m) (ha2:a2<=a + 27) (hg2:RawL.Gen V (w.heap.size + 1) A rs.length c a2) (hgr2:Gr (w.heap.size + 1) wr V)
  (hown6:W6.ownsRow (B1 + 1) 47 9 (.slice (some ⟨gg,0,none⟩) (k + 1) cap) (k + 1) (feC es ++ [.string (nmK k),.int .i64 kd,.int .i64 ty,.int .i64 d.op,.int .i64 d.k,.int .i64 d.n,.string d.s,.string d.nm,.slice B m cp]))
  (hgrow6:(V.alloc tmp).grownBy W6 v.ownBlock) (hat6:v.ownBlock=some gg ∨ gg=V.heap.size + 1) :
  FoI w B1 A rs c R0 (k + 1) (es ++ [⟨nmK k,kd,ty,x,B,m,cp⟩]) (.slice (some ⟨gg,0,none⟩) (k + 1) cap) a2 (W6.setCell ⟨w.heap.size + 2,0,none⟩ (.slice (some ⟨gg,0,none⟩) (k + 1) cap)):=by
 have hd:d=x.d:=ExS.is_d (IsP.is _ _ _ _ hisx)
 subst hd
 have hlt:=h.lt
 have hBl:=(Array.getElem?_eq_some_iff.1 h.fst).1
 have hs5:wr.heap.size<=V.heap.size:=hgr2.size
 have hgg:B1 + 1<=gg:=(hown6.lt gg rfl).1
 have hge:Value.ownBlock (.slice (some ⟨gg,0,none⟩) (k + 1) cap)=some gg:=rfl
 have hov:∀ g,v.ownBlock=some g->B1 + 1<=g/\g < wr.heap.size:=fun g hg => h.own.lt g hg
 have f5:∀ b,b < V.heap.size->some b ≠ v.ownBlock->b ≠ w.heap.size + 2->(W6.setCell ⟨w.heap.size + 2,0,none⟩ (.slice (some ⟨gg,0,none⟩) (k + 1) cap)).heap[b]?=V.heap[b]?:=fun b hl hne hx =>
  (Below.heap_setCell W6 ⟨w.heap.size + 2,0,none⟩ _ b hx).trans (app_keep hgrow6 hl hne)
 have f0:∀ b,b < wr.heap.size->b ≠ w.heap.size + 1->some b ≠ v.ownBlock->b ≠ w.heap.size + 2->(W6.setCell ⟨w.heap.size + 2,0,none⟩ (.slice (some ⟨gg,0,none⟩) (k + 1) cap)).heap[b]?=wr.heap[b]?:=fun b hl hg hne hx =>
  (f5 b (by omega) hne hx).trans (hgr2.block b hl (fun e => hg (by injection e)))
 have hnb:=h.far
 have hv:=fieldsV_step (rs:=rs) (k:=k) h.val hx
 refine ⟨?_,by simp [h.len],?_,by have:=h.few; omega,?_,?_,?_,?_,?_,h.lt,?_⟩
 ·rw [feC_snoc]
  refine World.ownsRow.kept (row:=some (w.heap.size + 2)) hown6 ⟨rfl,rfl,rfl,by simp [World.setCell],fun k _ hk => Below.heap_setCell _ _ _ k (fun e => hk (by rw [e]))⟩ (.inr ?_)
  rw [hge]; intro e; injection e with e; omega
 ·rw [← hv,List.map_append,hk1,hk2]; rfl
 ·intro e he
  rcases List.mem_append.1 he with he | he
  ·refine IsP.keep (fun b hb hl => f0 b hl (by omega) hb.2 (by omega)) (fun b hb hl => ⟨hb.1,?_⟩) _ _ _ _ (h.is e he)
   rw [hge]; intro e; injection e with e
   rcases hat6 with g | g
   ·exact hb.2 (by rw [g,e])
   ·omega
  ·simp at he; subst he
   refine IsP.keep (fun b hb hl => ?_) (fun b hb hl => ⟨?_,?_⟩) _ _ _ _ hisx
   ·have hb':wr.heap.size<=b:=hb
    exact f5 b hl (fun e => by have:=(hov b e.symm).2; omega) (by omega)
   ·have hb':wr.heap.size<=b:=hb
    omega
   ·have hb':wr.heap.size<=b:=hb
    rw [hge]; intro e; injection e with e
    rcases hat6 with g | g
    ·have:=(hov gg g).2; omega
    ·omega
 ·exact (f5 _ hg2.lt (hnb _ (by omega)) (by omega)).trans hg2
 ·exact (f0 _ (Array.getElem?_eq_some_iff.1 h.res).1 (by omega) (hnb _ (by omega)) (by omega)).trans h.res
 ·have h6:W6.heap[w.heap.size + 2]?=_:=((app_keep hgrow6 (by omega) (hnb _ (by omega))).trans (hgr2.block _ (by omega) (fun e => by injection e with e; omega))).trans h.box
  simp [World.setCell,Array.getElem?_modify,h6]
 ·exact (f0 _ hBl (by omega) (hnb _ (by omega)) (by omega)).trans h.fst
 ·refine ⟨?_,?_,?_,?_,fun b hb => ?_⟩
  ·exact hgrow6.os.trans (hgr2.os.trans h.below.os)
  ·exact hgrow6.tape.trans (hgr2.tape.trans h.below.tape)
  ·exact hgrow6.output.trans (hgr2.output.trans h.below.output)
  ·have h1:=h.below.size
   have h2:=hgrow6.size
   simp [World.setCell] at h2 ⊢; omega
  ·exact (f0 b (by have:=h.below.size; omega) (by omega) (hnb b (by omega)) (by omega)).trans (h.below.block b hb)
theorem onV_len (l:List FV) (n i:Nat):∀ k,(onV l n i k).length<=k
 | 0 => Nat.le_refl _
 | k + 1 => by
  unfold onV
  have:=onV_len l n i k
  split
  ·rw [List.length_append]; simp; exact this
  ·omega
structure Kp2 (G F:Nat) (Wp wr:World):Prop where
 os:wr.os=Wp.os
 tape:wr.tape=Wp.tape
 output:wr.output=Wp.output
 size:Wp.heap.size<=wr.heap.size
 block:∀ b,b < Wp.heap.size->b ≠ G->b ≠ F->wr.heap[b]?=Wp.heap[b]?
theorem Kp2.refl (G F:Nat) (w:World):Kp2 G F w w:=⟨rfl,rfl,rfl,Nat.le_refl _,fun _ _ _ _ => rfl⟩
structure PgI (G F:Nat) (Wp:World) (A:Option Addr) (rs:List Rw) (c:Nat) (l:List FV) (v:Value) (n a0 i:Nat) (ps:List PE) (u:Value) (a:Nat) (wr:World):Prop where
 own:wr.ownsRow Wp.heap.size 50 8 u i (peC ps)
 len:ps.length=i
 val:(ps.map PE.v,a)=pagesV rs l n a0 i
 few:a<=a0 + 9 * i
 is:∀ e ∈ ps,PIs (fun b => Wp.heap.size<=b/\some b ≠ u.ownBlock) wr e
 gen:RawL.Gen wr G A rs.length c a
 box:wr.heap[F]?=some (.cells #[v,u] 29 (0,0))
 kp:Kp2 G F Wp wr
 gF:G < Wp.heap.size/\F < Wp.heap.size/\G ≠ F
theorem PgI.far {G F:Nat} {Wp:World} {A:Option Addr} {rs:List Rw} {c:Nat} {l:List FV} {v:Value} {n a0 i:Nat} {ps:List PE} {u:Value} {a:Nat} {wr:World} (h:PgI G F Wp A rs c l v n a0 i ps u a wr):∀ b,b < Wp.heap.size->some b ≠ u.ownBlock:=fun b hb e => by
 have:=(h.own.lt b e.symm).1; omega
theorem PgI.step {G F:Nat} {Wp:World} {A:Option Addr} {rs:List Rw} {c:Nat} {l:List FV} {v:Value} {n a0 i:Nat} {ps:List PE} {u:Value} {a:Nat} {wr V W6:World} {e:PE} {a2 gg cap:Nat} {tmp:Obj} (h:PgI G F Wp A rs c l v n a0 i ps u a wr)
  (he1:e.nm=pgName i) (he2:e.fs=onV l n i l.length) (hx:(e.x,a2)=skipV rs l a) (hise:PIs (fun b => wr.heap.size<=b) V e) (ha2:a2<=a + 9) (hg2:RawL.Gen V G A rs.length c a2) (hgr2:Gr G wr V)
  (hown6:W6.ownsRow Wp.heap.size 50 8 (.slice (some ⟨gg,0,none⟩) (i + 1) cap) (i + 1) (peC ps ++ pgC e))
  (hgrow6:(V.alloc tmp).grownBy W6 u.ownBlock) (hat6:u.ownBlock=some gg ∨ gg=V.heap.size + 1) :
  PgI G F Wp A rs c l v n a0 (i + 1) (ps ++ [e]) (.slice (some ⟨gg,0,none⟩) (i + 1) cap) a2 (W6.setCell ⟨F,1,none⟩ (.slice (some ⟨gg,0,none⟩) (i + 1) cap)):=by
 obtain ⟨gl,fl,gf⟩:=h.gF
 have hs:=h.kp.size
 have hs5:wr.heap.size<=V.heap.size:=hgr2.size
 have hgg:Wp.heap.size<=gg:=(hown6.lt gg rfl).1
 have hge:Value.ownBlock (.slice (some ⟨gg,0,none⟩) (i + 1) cap)=some gg:=rfl
 have hov:∀ g,u.ownBlock=some g->Wp.heap.size<=g/\g < wr.heap.size:=fun g hg => h.own.lt g hg
 have f5:∀ b,b < V.heap.size->some b ≠ u.ownBlock->b ≠ F->(W6.setCell ⟨F,1,none⟩ (.slice (some ⟨gg,0,none⟩) (i + 1) cap)).heap[b]?=V.heap[b]?:=fun b hl hne hx =>
  (Below.heap_setCell W6 ⟨F,1,none⟩ _ b hx).trans (app_keep hgrow6 hl hne)
 have f0:∀ b,b < wr.heap.size->b ≠ G->some b ≠ u.ownBlock->b ≠ F->(W6.setCell ⟨F,1,none⟩ (.slice (some ⟨gg,0,none⟩) (i + 1) cap)).heap[b]?=wr.heap[b]?:=fun b hl hg hne hx =>
  (f5 b (by omega) hne hx).trans (hgr2.block b hl (fun e => hg (by injection e)))
 have hnb:=h.far
 have hv:=pagesV_step (rs:=rs) (l:=l) (n:=n) (i:=i) h.val hx
 refine ⟨?_,by simp [h.len],?_,by have:=h.few; omega,?_,?_,?_,?_,h.gF⟩
 ·rw [peC_snoc]
  refine World.ownsRow.kept (row:=some F) hown6 ⟨rfl,rfl,rfl,by simp [World.setCell],fun k _ hk => Below.heap_setCell _ _ _ k (fun e => hk (by rw [e]))⟩ (.inr ?_)
  rw [hge]; intro e; injection e with e; omega
 ·rw [← hv,List.map_append,← he1,← he2]; rfl
 ·intro q hq
  rcases List.mem_append.1 hq with hq | hq
  ·refine (h.is q hq).keep (fun b hb hl => f0 b hl (by have:=hb.1; omega) hb.2 (by have:=hb.1; omega)) (fun b hb hl => ⟨hb.1,?_⟩)
   rw [hge]; intro e; injection e with e
   rcases hat6 with g | g
   ·exact hb.2 (by rw [g,e])
   ·omega
  ·simp at hq; subst hq
   refine hise.keep (fun b hb hl => ?_) (fun b hb hl => ⟨?_,?_⟩)
   ·have hb':wr.heap.size<=b:=hb
    exact f5 b hl (fun e => by have:=(hov b e.symm).2; omega) (by omega)
   ·have hb':wr.heap.size<=b:=hb
    omega
   ·have hb':wr.heap.size<=b:=hb
    rw [hge]; intro e; injection e with e
    rcases hat6 with g | g
    ·have:=(hov gg g).2; omega
    ·omega
 ·exact (f5 _ hg2.lt (hnb _ gl) gf).trans hg2
 ·have h6:W6.heap[F]?=_:=((app_keep hgrow6 (by omega) (hnb _ fl)).trans (hgr2.block _ (by omega) (fun e => by injection e with e; exact gf e.symm))).trans h.box
  simp [World.setCell,Array.getElem?_modify,h6]
 ·have hk:=h.kp
  refine ⟨?_,?_,?_,?_,fun b hb h1 h2 => (f0 b (by omega) h1 (hnb b hb) h2).trans (hk.block b hb h1 h2)⟩
  ·exact hgrow6.os.trans (hgr2.os.trans hk.os)
  ·exact hgrow6.tape.trans (hgr2.tape.trans hk.tape)
  ·exact hgrow6.output.trans (hgr2.output.trans hk.output)
  ·have h2:=hgrow6.size
   simp [World.setCell] at h2 ⊢; omega
end FrmM
end Go.Proofs.YtjhhmdmmllblhaaGreatDoor
