/- TxOk RkMath: what these laws name of them. -/
import Derived.Test.YtjhhmdmmllblhaaGreatDoorKt08
namespace Go.Proofs.YtjhhmdmmllblhaaGreatDoor
set_option linter.unusedVariables false
namespace TxT
open Go.RowKit
open ValM LexM NumM ExM NmM ShowM PrM Ty Kit ExL ExP ExN ExC RawV Within RawL GenL FrmM FldP FldR FldC TyM PgM TxM TxR
set_option linter.unusedVariables false
theorem fits_check {fs:List (ByteArray × Int)} {x:Ex} {k:Int} (h:fitsT fs x k=0):x.checkE=0:=by
 unfold fitsT ofT at h
 by_cases h1:x.checkE=0
 ·exact h1
 ·rw [if_neg h1] at h
  simp only at h
  rw [if_neg h1] at h
  exact absurd h h1
structure FormOk (w:World) (es:List FE) (ps:List PE) (X:Nat->Ex):Prop where
 fi:FIs w es
 pi:PIs' w ps
 src:Srcs X es
 fields:checkF (es.map FE.fd) X=0
 pages:checkP (es.map FE.fd) ps=0
theorem FormOk.few {w:World} {es:List FE} {ps:List PE} {X:Nat->Ex} (h:FormOk w es ps X):es.length<=14/\1<=ps.length/\ps.length<=6:=by
 have h1:=h.fields
 unfold checkF at h1
 rw [List.length_map] at h1
 by_cases hl:14 < es.length
 ·rw [if_pos hl] at h1; exact absurd h1 (by decide)
 ·exact ⟨by omega,(page_zero h.pages).1⟩
theorem FormOk.fl {w:World} {es:List FE} {ps:List PE} {X:Nat->Ex} (h:FormOk w es ps X):(∀ f ∈ es.map flE,FlOk f)/\∀ f ∈ es.map flE,1 < f.k->f.x.checkE=0:=by
 have hall:=fields_ok (w:=w) (X:=X) (es:=es) (fun i hi => ⟨h.src i hi,h.fi i hi⟩) h.fields
 refine ⟨fun f hf => ?_,fun f hf => ?_⟩ <;> obtain ⟨e,he,rfl⟩:=List.mem_map.1 hf <;> obtain ⟨i,hi,rfl⟩:=List.getElem_of_mem he
 ·exact (hall i hi).1
 ·exact (hall i hi).2
theorem FormOk.nms {w:World} {es:List FE} {ps:List PE} {X:Nat->Ex} (h:FormOk w es ps X):∀ f ∈ es.map FE.fd,nmB f.nm.data.toList=true:=fun f hf => by
 obtain ⟨e,he,rfl⟩:=List.mem_map.1 hf
 exact (h.fl.1 (flE e) (List.mem_map.2 ⟨e,he,rfl⟩)).nm
theorem FormOk.pl {w:World} {es:List FE} {ps:List PE} {X:Nat->Ex} (h:FormOk w es ps X):(∀ p ∈ ps.map plE,PlOk p)/\∀ p ∈ ps.map plE,p.2=true->p.1.x.checkE=0:=by
 have hall:=pages_ok (w:=w) h.nms (fun e he => by obtain ⟨i,hi,rfl⟩:=List.getElem_of_mem he; exact h.pi i hi) h.pages
 refine ⟨fun f hf => ?_,fun f hf hk => ?_⟩ <;> obtain ⟨e,he,rfl⟩:=List.mem_map.1 hf <;> obtain ⟨i,hi,rfl⟩:=List.getElem_of_mem he
 ·exact (hall i hi).1
 ·exact fits_check ((hall i hi).2 hk)
theorem FormOk.nofeed {w:World} {es:List FE} {ps:List PE} {X:Nat->Ex} (h:FormOk w es ps X):∀ l ∈ linesF (es.map flE) (ps.map plE),(10:UInt8) ∉ l:=fun l hl => by
 unfold linesF at hl
 rcases List.mem_append.1 hl with hl | hl <;> obtain ⟨f,hf,rfl⟩:=List.mem_map.1 hl
 ·unfold flL
  by_cases hk:1 < f.k
  ·exact field_feed (h.fl.1 f hf).nm (txt_feed (checkE_zero (h.fl.2 f hf hk)).2.2)
  ·have e:fieldL f.nm f.k f.t (Ex.txt f.x)=fieldL f.nm f.k f.t []:=by unfold fieldL; rw [if_neg hk,if_neg hk]
   rw [e]
   exact field_feed (h.fl.1 f hf).nm (by simp)
 ·unfold plL
  refine page_feed (h.pl.1 f hf).nm (h.pl.1 f hf).fs fun s hs => ?_
  by_cases hk:f.2=true
  ·rw [if_pos hk] at hs
   injection hs with hs
   subst hs
   exact txt_feed (checkE_zero (h.pl.2 f hf hk)).2.2
  ·rw [if_neg hk] at hs; cases hs
theorem FormOk.split {w:World} {es:List FE} {ps:List PE} {X:Nat->Ex} (h:FormOk w es ps X):Lib.split (formL es ps) [10]=linesF (es.map flE) (ps.map plE):=by
 have hn:=h.nofeed
 unfold formL
 cases hl:linesF (es.map flE) (ps.map plE) with
 | nil =>
  exfalso
  have:=congrArg List.length hl
  unfold linesF at this
  simp at this
  have h2:=h.few.2.1
  rw [this.2] at h2
  exact absurd h2 (by decide)
 | cons a r =>
  rw [hl] at hn
  exact lines_back a r hn
theorem nodup_le:∀ (n:Nat) (l:List Nat),l.Nodup->(∀ x ∈ l,x < n)->l.length<=n
 | 0,l,_,h => by
  cases l with
  | nil => exact Nat.le_refl _
  | cons x l => exact absurd (h x (by simp)) (by omega)
 | n + 1,l,hd,h => by
  have h1:=nodup_le n (l.erase n) (hd.erase n) (fun x hx => by
   have h2:=(hd.mem_erase_iff).1 hx
   have h3:=h x h2.2
   omega)
  by_cases hm:n ∈ l
  ·rw [List.length_erase_of_mem hm] at h1
   omega
  ·rw [List.erase_of_not_mem hm] at h1
   omega
theorem names_few {fs:List GenL.Fd} {met L:List ByteArray} (h:scan (nameE fs met L) L.length=0):L.length<=fs.length:=by
 have hall:∀ (j:Nat) (hj:j < L.length),atF fs L[j] < fs.length/\L[j] ∉ L.take j:=fun j hj => by
  have h3:=scan_all _ h j hj
  unfold nameE at h3
  rw [dif_pos hj] at h3
  by_cases h4:atF fs L[j] < fs.length
  ·rw [if_pos h4] at h3
   refine ⟨h4,fun hm => ?_⟩
   rw [if_pos ((hasB_true _ _).2 (List.mem_append.2 (.inr hm)))] at h3
   exact absurd h3 (by decide)
  ·rw [if_neg h4] at h3; exact absurd h3 (by decide)
 have hnd:(L.map (atF fs)).Nodup:=by
  refine List.pairwise_iff_getElem.2 fun i j hi hj hij => ?_
  rw [List.length_map] at hi hj
  rw [List.getElem_map,List.getElem_map]
  intro e
  have a:=(atF_at (hall i hi).1).1
  have b:=(atF_at (hall j hj).1).1
  have:L[i]=L[j]:=by
   rw [← a,← b]
   simp only [e]
  apply (hall j hj).2
  rw [← this]
  exact List.mem_take_iff_getElem.2 ⟨i,by omega,rfl⟩
 have:=nodup_le fs.length (L.map (atF fs)) hnd fun x hx => by
  obtain ⟨s,hs,rfl⟩:=List.mem_map.1 hx
  obtain ⟨j,hj,rfl⟩:=List.getElem_of_mem hs
  exact (hall j hj).1
 rwa [List.length_map] at this
theorem commas_len:∀ (l:List (List UInt8)) (n:Nat),(∀ s ∈ l,s.length<=n)->(commas l).length<=l.length * (n + 2)
 | [],n,_ => by simp [commas]
 | [a],n,h => by
  have:=h a (by simp)
  simp [commas]
  omega
 | a :: b :: r,n,h => by
  have h1:=h a (by simp)
  have h2:=commas_len (b :: r) n fun s hs => h s (by simp at hs ⊢; exact .inr hs)
  show (a ++ ([44,32] ++ commas (b :: r))).length<=_
  rw [List.length_append,List.length_append]
  simp only [List.length_cons,List.length_nil] at h2 ⊢
  rw [Nat.add_mul (r.length + 1) 1 (n + 2)]
  omega
theorem kd_len (k:Int):(kdW k).length<=8:=by unfold kdW; split <;> (try split) <;> (try split) <;> simp
theorem ty_len (t:Int):(tyW t).length<=5:=by unfold tyW; split <;> (try split) <;> (try split) <;> simp
theorem joinN_len:∀ (l:List (List UInt8)) (n:Nat),(∀ s ∈ l,s.length<=n)->(joinN l).length<=l.length * (n + 1)
 | [],n,_ => by simp [joinN]
 | [a],n,h => by
  have:=h a (by simp)
  simp [joinN]
  omega
 | a :: b :: r,n,h => by
  have h1:=h a (by simp)
  have h2:=joinN_len (b :: r) n fun s hs => h s (by simp at hs ⊢; exact .inr hs)
  show (a ++ (10 :: joinN (b :: r))).length<=_
  rw [List.length_append,List.length_cons]
  simp only [List.length_cons] at h2 ⊢
  rw [Nat.add_mul (r.length + 1) 1 (n + 1)]
  omega
theorem txt_le {x:Ex} (h:x.checkE=0):(Ex.txt x).length<=6000:=by
 have h1:=txt_len x (checkE_zero h).2.2
 have h2:=(checkE_zero h).1
 omega
theorem FormOk.line {w:World} {es:List FE} {ps:List PE} {X:Nat->Ex} (h:FormOk w es ps X):∀ l ∈ linesF (es.map flE) (ps.map plE),l.length<=6300:=fun l hl => by
 unfold linesF at hl
 rcases List.mem_append.1 hl with hl | hl <;> obtain ⟨f,hf,rfl⟩:=List.mem_map.1 hl
 ·have h1:=(nmB_parts (h.fl.1 f hf).nm).2.1
  have h2:=kd_len f.k
  have h3:=ty_len f.t
  unfold flL fieldL
  simp only [List.length_append]
  by_cases hk:1 < f.k
  ·have h4:=txt_le (h.fl.2 f hf hk)
   rw [if_pos hk,List.length_append]
   have:eqW.length=3:=rfl
   omega
  ·rw [if_neg hk]
   simp only [List.length_nil]
   omega
 ·have h1:=(nmB_parts (h.pl.1 f hf).nm).2.1
  have hfs:f.1.fs.length<=14:=by
   obtain ⟨e,he,rfl⟩:=List.mem_map.1 hf
   obtain ⟨i,hi,rfl⟩:=List.getElem_of_mem he
   have h0:=((page_zero h.pages).2 i hi).1
   unfold pageE at h0
   rw [dif_pos hi,if_pos ((page_zero h.pages).2 i hi).2.1,if_neg ((page_zero h.pages).2 i hi).2.2] at h0
   show (ps[i].fs.map fun s => s.data.toList).length<=14
   rw [List.length_map]
   by_cases h6:scan (nameE (es.map FE.fd) (metP ps i) ps[i].fs) ps[i].fs.length=0
   ·have:=names_few h6
    rw [List.length_map] at this
    have:=h.few.1
    omega
   ·rw [if_neg h6] at h0; exact absurd h0 h6
  have h2:=commas_len f.1.fs 10 fun s hs => (nmB_parts ((h.pl.1 f hf).fs s hs)).2.1
  unfold plL pageL
  simp only [List.length_append]
  have h3:pgW.length=5:=rfl
  have h4:coW.length=2:=rfl
  by_cases hk:f.2=true
  ·rw [if_pos hk]
   unfold skL
   have h5:=txt_le (h.pl.2 f hf hk)
   rw [List.length_append]
   have:seW.length=2:=rfl
   omega
  ·rw [if_neg hk]
   unfold skL
   simp only [List.length_nil]
   omega
theorem FormOk.size {w:World} {es:List FE} {ps:List PE} {X:Nat->Ex} (h:FormOk w es ps X):(formL es ps).length<=130000:=by
 have h1:=joinN_len _ 6300 h.line
 have h2:(linesF (es.map flE) (ps.map plE)).length=es.length + ps.length:=by unfold linesF; simp
 rw [h2] at h1
 have h3:=h.few
 unfold formL
 omega
end TxT
namespace RkM
set_option linter.unusedVariables false
def rk (r:List Int) (i:Nat):Int:=r.getD i 0
def nd (ns:List (List Nat)) (i:Nat):List Nat:=ns.getD i []
def aboveI (r:List Int):List Nat->Int->Int
 | [],a => a
 | i :: l,a => if rk r i=-1 then -1 else aboveI r l (max a (rk r i + 1))
def sweepN (ns:List (List Nat)) (r:List Int):Nat->List Int
 | 0 => r
 | k + 1 => (sweepN ns r k).set k (aboveI (sweepN ns r k) (nd ns k) 0)
def passN (ns:List (List Nat)):Nat->List Int
 | 0 => List.replicate ns.length (-1)
 | p + 1 => sweepN ns (passN ns p) ns.length
def rankF (ns:List (List Nat)):List Int:=passN ns ns.length
theorem above_un {r:List Int}:∀ (l:List Nat) (a:Int),(∃ i ∈ l,rk r i=-1)->aboveI r l a=-1
 | [],a,⟨i,h,_⟩ => by simp at h
 | j :: l,a,⟨i,h,e⟩ => by
  unfold aboveI
  by_cases hj:rk r j=-1
  ·rw [if_pos hj]
  ·rw [if_neg hj]
   rcases List.mem_cons.1 h with rfl | h
   ·exact absurd e hj
   ·exact above_un l _ ⟨i,h,e⟩
theorem above_ok {r:List Int}:∀ (l:List Nat) (a:Int),(∀ i ∈ l,0<=rk r i)->0<=a->a<=aboveI r l a/\(∀ i ∈ l,rk r i + 1<=aboveI r l a)/\(aboveI r l a=a ∨ ∃ i ∈ l,aboveI r l a=rk r i + 1)
 | [],a,_,_ => ⟨Int.le_refl _,fun i h => by simp at h,.inl rfl⟩
 | j :: l,a,h,ha => by
  have hj:=h j (by simp)
  unfold aboveI
  rw [if_neg (by omega)]
  obtain ⟨h1,h2,h3⟩:=above_ok l (max a (rk r j + 1)) (fun i hi => h i (by simp [hi])) (by omega)
  refine ⟨by omega,fun i hi => ?_,?_⟩
  ·rcases List.mem_cons.1 hi with rfl | hi
   ·omega
   ·exact h2 i hi
  ·rcases h3 with h3 | ⟨i,hi,e⟩
   ·by_cases hm:a<=rk r j + 1
    ·exact .inr ⟨j,by simp,by omega⟩
    ·exact .inl (by omega)
   ·exact .inr ⟨i,by simp [hi],e⟩
theorem above_congr {r s:List Int}:∀ (l:List Nat) (a:Int),(∀ i ∈ l,rk r i=rk s i)->aboveI r l a=aboveI s l a
 | [],_,_ => rfl
 | j :: l,a,h => by
  unfold aboveI
  rw [h j (by simp),above_congr l _ fun i hi => h i (by simp [hi])]
theorem above_le {r:List Int} {b:Int} (hb:0<=b) (h:∀ i,rk r i<=b):∀ (l:List Nat) (a:Int),a<=b + 1->aboveI r l a<=b + 1
 | [],a,ha => ha
 | j :: l,a,ha => by
  unfold aboveI
  have:=h j
  split
  ·omega
  ·exact above_le hb h l _ (by omega)
theorem above_ge {r:List Int} (h:∀ i,-1<=rk r i):∀ (l:List Nat) (a:Int),-1<=a->-1<=aboveI r l a
 | [],a,ha => ha
 | j :: l,a,ha => by
  unfold aboveI
  split
  ·omega
  ·exact above_ge h l _ (by omega)
theorem rk_set (r:List Int) (k:Nat) (v:Int) (i:Nat) (hk:k < r.length):rk (r.set k v) i=if i=k then v else rk r i:=by
 unfold rk
 rw [List.getD_eq_getElem?_getD,List.getD_eq_getElem?_getD,List.getElem?_set]
 by_cases h:i=k
 ·subst h; rw [if_pos rfl,if_pos hk,if_pos rfl]; rfl
 ·rw [if_neg (fun e => h e.symm),if_neg h]
theorem sweep_len (ns:List (List Nat)) (r:List Int):∀ k,(sweepN ns r k).length=r.length
 | 0 => rfl
 | k + 1 => by unfold sweepN; rw [List.length_set,sweep_len ns r k]
theorem pass_len (ns:List (List Nat)):∀ p,(passN ns p).length=ns.length
 | 0 => by unfold passN; rw [List.length_replicate]
 | p + 1 => by unfold passN; rw [sweep_len,pass_len ns p]
theorem rankF_len (ns:List (List Nat)):(rankF ns).length=ns.length:=pass_len ns _
def Bd (r:List Int) (b:Int):Prop:=∀ i,-1<=rk r i/\rk r i<=b
theorem bd_above {r:List Int} {b:Int} (h:Bd r b) (hb:0<=b) (l:List Nat):-1<=aboveI r l 0/\aboveI r l 0<=b + 1:=⟨above_ge (fun i => (h i).1) l 0 (by omega),above_le hb (fun i => (h i).2) l 0 (by omega)⟩
theorem bd_sweep {ns:List (List Nat)} {r:List Int} {b:Int} (h:Bd r b) (hb:0<=b) (hl:r.length=ns.length):∀ k:Nat,k<=ns.length->Bd (sweepN ns r k) (b + (k:Int))
 | 0,_ => fun i => by have:=h i; show -1<=rk r i/\rk r i<=b + 0; omega
 | k + 1,hk => fun i => by
  have ih:=bd_sweep h hb hl k (by omega)
  have hv:=bd_above ih (by omega) (nd ns k)
  unfold sweepN
  rw [rk_set _ _ _ _ (by rw [sweep_len]; omega)]
  have:=ih i
  split <;> omega
theorem bd_pass (ns:List (List Nat)):∀ p:Nat,Bd (passN ns p) ((p:Int) * (ns.length:Int))
 | 0 => fun i => by
  unfold passN rk
  rw [List.getD_eq_getElem?_getD,List.getElem?_replicate]
  split <;> simp
 | p + 1 => by
  have:=bd_sweep (bd_pass ns p) (Int.mul_nonneg (by omega) (by omega)) (pass_len ns p) ns.length (Nat.le_refl _)
  intro i
  have h:=this i
  unfold passN
  rw [show ((p + 1:Nat):Int) * (ns.length:Int)=(p:Int) * (ns.length:Int) + (ns.length:Int) by rw [Int.natCast_add,Int.add_mul]; simp]
  exact h
structure Con (ns:List (List Nat)) (r:List Int):Prop where
 len:r.length=ns.length
 lo:∀ i,-1<=rk r i
 eq:∀ i,i < ns.length->rk r i ≠ -1->aboveI r (nd ns i) 0=rk r i
def Mono (r s:List Int):Prop:=∀ i,rk r i ≠ -1->rk s i=rk r i
theorem Mono.refl (r:List Int):Mono r r:=fun _ _ => rfl
theorem Mono.trans {a b c:List Int} (h:Mono a b) (g:Mono b c):Mono a c:=fun i hi => by
 have h1:=h i hi
 rw [g i (by rw [h1]; exact hi),h1]
theorem above_all {r:List Int} {l:List Nat} {a:Int} (h:aboveI r l a ≠ -1):∀ i ∈ l,rk r i ≠ -1:=fun i hi e => h (above_un l a ⟨i,hi,e⟩)
theorem con_step {ns:List (List Nat)} {r:List Int} (h:Con ns r) {k:Nat} (hk:k < ns.length):Con ns (r.set k (aboveI r (nd ns k) 0))/\Mono r (r.set k (aboveI r (nd ns k) 0)):=by
 have hkl:k < r.length:=by rw [h.len]; exact hk
 have hm:Mono r (r.set k (aboveI r (nd ns k) 0)):=fun i hi => by
  rw [rk_set _ _ _ _ hkl]
  by_cases e:i=k
  ·subst e; rw [if_pos rfl,h.eq i hk hi]
  ·rw [if_neg e]
 refine ⟨⟨by rw [List.length_set,h.len],fun i => ?_,fun i hi hne => ?_⟩,hm⟩
 ·rw [rk_set _ _ _ _ hkl]
  split
  ·exact above_ge h.lo _ _ (by omega)
  ·exact h.lo i
 ·have key:rk (r.set k (aboveI r (nd ns k) 0)) i=aboveI r (nd ns i) 0:=by
   rw [rk_set _ _ _ _ hkl] at hne ⊢
   by_cases e:i=k
   ·subst e; rw [if_pos rfl]
   ·rw [if_neg e] at hne ⊢; exact (h.eq i hi hne).symm
  rw [key] at hne ⊢
  exact above_congr _ _ fun j hj => hm j (above_all hne j hj)
theorem con_sweep {ns:List (List Nat)} {r:List Int} (h:Con ns r):∀ k:Nat,k<=ns.length->Con ns (sweepN ns r k)/\Mono r (sweepN ns r k)
 | 0,_ => ⟨h,Mono.refl _⟩
 | k + 1,hk => by
  obtain ⟨h1,h2⟩:=con_sweep h k (by omega)
  obtain ⟨h3,h4⟩:=con_step h1 (k:=k) (by omega)
  exact ⟨h3,h2.trans h4⟩
theorem mono_sweep {ns:List (List Nat)} {r:List Int} (h:Con ns r) (k:Nat):∀ m:Nat,k + m<=ns.length->Mono (sweepN ns r k) (sweepN ns r (k + m))
 | 0,_ => Mono.refl _
 | m + 1,hm => by
  have h1:k + m < ns.length:=by omega
  exact (mono_sweep h k m (by omega)).trans (con_step (con_sweep h (k + m) (by omega)).1 h1).2
theorem con_pass (ns:List (List Nat)):∀ p,Con ns (passN ns p)
 | 0 => ⟨pass_len ns 0,fun i => (bd_pass ns 0 i).1,fun i hi hne => by
   exfalso; apply hne
   unfold passN rk
   rw [List.getD_eq_getElem?_getD,List.getElem?_replicate,if_pos hi]; rfl⟩
 | p + 1 => (con_sweep (con_pass ns p) _ (Nat.le_refl _)).1
def cnt (p:Nat->Bool):Nat->Nat
 | 0 => 0
 | n + 1 => cnt p n + (if p n=true then 1 else 0)
theorem cnt_le (p q:Nat->Bool):∀ n,(∀ i,i < n->p i=true->q i=true)->cnt p n<=cnt q n
 | 0,_ => Nat.le_refl _
 | n + 1,h => by
  have:=cnt_le p q n fun i hi => h i (by omega)
  have h2:=h n (by omega)
  unfold cnt
  by_cases hp:p n=true
  ·rw [if_pos hp,if_pos (h2 hp)]; omega
  ·rw [if_neg hp]; omega
theorem cnt_lt (p q:Nat->Bool):∀ n,(∀ i,i < n->p i=true->q i=true)->(∃ i,i < n/\q i=true/\p i=false)->cnt p n < cnt q n
 | 0,_,⟨i,h,_⟩ => absurd h (by omega)
 | n + 1,h,⟨i,hi,hq,hp⟩ => by
  unfold cnt
  by_cases e:i=n
  ·subst e
   have:=cnt_le p q i fun j hj => h j (by omega)
   rw [if_pos hq,if_neg (by rw [hp]; decide)]; omega
  ·have:=cnt_lt p q n (fun j hj => h j (by omega)) ⟨i,by omega,hq,hp⟩
   have h2:=h n (by omega)
   by_cases hp:p n=true
   ·rw [if_pos hp,if_pos (h2 hp)]; omega
   ·rw [if_neg hp]; omega
theorem cnt_bd (p:Nat->Bool):∀ n,cnt p n<=n
 | 0 => Nat.le_refl _
 | n + 1 => by unfold cnt; have:=cnt_bd p n; split <;> omega
theorem cnt_all (p:Nat->Bool) (n:Nat) (h:n<=cnt p n):∀ i,i < n->p i=true:=fun i hi => by
 by_cases hp:p i=true
 ·exact hp
 ·have h1:=cnt_lt p (fun _ => true) n (fun _ _ _ => rfl) ⟨i,hi,rfl,by simpa using hp⟩
  have h2:=cnt_bd (fun _ => true) n
  omega
def Fix (ns:List (List Nat)) (r:List Int):Prop:=∀ i,i < ns.length->aboveI r (nd ns i) 0=rk r i
def isR (r:List Int) (i:Nat):Bool:=decide (rk r i ≠ -1)
theorem fix_sweep {ns:List (List Nat)} {r:List Int} (hl:r.length=ns.length) (h:Fix ns r):∀ k:Nat,k<=ns.length->∀ i,rk (sweepN ns r k) i=rk r i
 | 0,_ => fun _ => rfl
 | k + 1,hk => fun i => by
  have ih:=fix_sweep hl h k (by omega)
  unfold sweepN
  rw [rk_set _ _ _ _ (by rw [sweep_len]; omega),ih]
  by_cases e:i=k
  ·subst e
   rw [if_pos rfl,above_congr _ _ (fun j _ => ih j),h i (by omega)]
  ·rw [if_neg e]
theorem fix_of_eq {ns:List (List Nat)} {r s:List Int} (h:Fix ns r) (e:∀ i,rk s i=rk r i):Fix ns s:=fun i hi => by
 rw [above_congr _ _ (fun j _ => e j),h i hi,e]
theorem still_fix {ns:List (List Nat)} {r:List Int} (hc:Con ns r) (h:∀ i,i < ns.length->rk (sweepN ns r ns.length) i ≠ -1->rk r i ≠ -1):Fix ns r:=fun i hi => by
 have hk:∀ k,k<=ns.length->∀ j,rk (sweepN ns r k) j=rk r j:=fun k hk j => by
  obtain ⟨h1,h2⟩:=con_sweep hc k hk
  by_cases hr:rk r j=-1
  ·by_cases hs:rk (sweepN ns r k) j=-1
   ·rw [hs,hr]
   ·exfalso
    have h3:=mono_sweep hc k (ns.length - k) (by omega) j hs
    rw [show k + (ns.length - k)=ns.length by omega] at h3
    by_cases hj:j < ns.length
    ·exact h j hj (by rw [h3]; exact hs) hr
    ·have:rk r j=0:=by unfold rk; rw [List.getD_eq_getElem?_getD,List.getElem?_eq_none (by rw [hc.len]; omega)]; rfl
     omega
  ·exact h2 j hr
 have h1:=hk (i + 1) (by omega) i
 unfold sweepN at h1
 rw [rk_set _ _ _ _ (by rw [sweep_len,hc.len]; exact hi),if_pos rfl,above_congr _ _ (fun j _ => hk i (by omega) j)] at h1
 exact h1
theorem pass_fix (ns:List (List Nat)):∀ p,Fix ns (passN ns p) ∨ p<=cnt (isR (passN ns p)) ns.length
 | 0 => .inr (Nat.zero_le _)
 | p + 1 => by
  have hc:=con_pass ns p
  obtain ⟨_,hm⟩:=con_sweep hc ns.length (Nat.le_refl _)
  rcases pass_fix ns p with h | h
  ·exact .inl (fix_of_eq h (fix_sweep (pass_len ns p) h ns.length (Nat.le_refl _)))
  ·by_cases hx:∃ i,i < ns.length/\isR (passN ns (p + 1)) i=true/\isR (passN ns p) i=false
   ·right
    have:=cnt_lt (isR (passN ns p)) (isR (passN ns (p + 1))) ns.length (fun i hi hp => by
     unfold isR at hp ⊢
     have hp:=of_decide_eq_true hp
     refine decide_eq_true ?_
     show rk (sweepN ns (passN ns p) ns.length) i ≠ -1
     rw [hm i hp]; exact hp) hx
    omega
   ·left
    have hf:Fix ns (passN ns p):=still_fix hc fun i hi hs hr => hx ⟨i,hi,decide_eq_true hs,by unfold isR; rw [hr]; rfl⟩
    exact fix_of_eq hf (fix_sweep (pass_len ns p) hf ns.length (Nat.le_refl _))
theorem rankF_fix (ns:List (List Nat)):Fix ns (rankF ns):=by
 rcases pass_fix ns ns.length with h | h
 ·exact h
 ·intro i hi
  have:=cnt_all _ _ h i hi
  exact (con_pass ns ns.length).eq i hi (of_decide_eq_true this)
theorem rankF_ok {ns:List (List Nat)} {m:Nat->Nat} (h:∀ i,i < ns.length->∀ j ∈ nd ns i,j < ns.length/\m j < m i):∀ (b i:Nat),m i<=b->i < ns.length->0<=rk (rankF ns) i/\rk (rankF ns) i<=(m i:Int)
 | b,i,hb,hi => by
  have hn:∀ j ∈ nd ns i,0<=rk (rankF ns) j/\rk (rankF ns) j<=(m j:Int):=fun j hj => by
   obtain ⟨h1,h2⟩:=h i hi j hj
   exact rankF_ok h (b - 1) j (by omega) h1
  obtain ⟨h1,h2,h3⟩:=above_ok (nd ns i) 0 (fun j hj => (hn j hj).1) (by omega)
  rw [rankF_fix ns i hi] at h1 h2 h3
  refine ⟨h1,?_⟩
  rcases h3 with h3 | ⟨j,hj,e⟩
  ·omega
  ·have:=(hn j hj).2
   have:=(h i hi j hj).2
   omega
termination_by b i => m i
decreasing_by exact h2
end RkM
end Go.Proofs.YtjhhmdmmllblhaaGreatDoor
