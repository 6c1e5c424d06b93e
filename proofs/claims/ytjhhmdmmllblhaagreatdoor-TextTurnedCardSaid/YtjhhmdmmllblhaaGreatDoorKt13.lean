/- Cyc RkLaw ShE RawN GenTop: what these laws name of them. -/
import Derived.Test.YtjhhmdmmllblhaaGreatDoorKt12
namespace Go.Proofs.YtjhhmdmmllblhaaGreatDoor
set_option linter.unusedVariables false
namespace RkL
end RkL
namespace CycO
open Go.RowKit
open ValM LexM NumM ExM NmM Kit ExL ExP ExN ExC RawV Within RawL GenL FldP FldR FldC TyM Ty NmO NmA NmI NmT NmR RkM RkA RkB RkC RkD RkO RegI
set_option linter.unusedVariables false
def itN (f:Nat->Nat) (a:Nat):Nat->Nat
 | 0 => a
 | k + 1 => f (itN f a k)
def unB (r:List Int) (j:Nat):Bool:=decide (rk r j=-1)
def nxtF (ns:List (List Nat)) (r:List Int) (i:Nat):Nat:=(nd ns i).getD ((nd ns i).findIdx (unB r)) 0
theorem nxt_at {ns:List (List Nat)} {r:List Int} {i:Nat} (h:∃ j ∈ nd ns i,rk r j=-1):∃ hk:(nd ns i).findIdx (unB r) < (nd ns i).length,(nd ns i)[(nd ns i).findIdx (unB r)]=nxtF ns r i/\rk r (nxtF ns r i)=-1:=by
 obtain ⟨j,hj,e⟩:=h
 have hk:(nd ns i).findIdx (unB r) < (nd ns i).length:=List.findIdx_lt_length_of_exists ⟨j,hj,decide_eq_true e⟩
 have e2:(nd ns i)[(nd ns i).findIdx (unB r)]=nxtF ns r i:=by
  unfold nxtF
  rw [List.getD_eq_getElem?_getD,List.getElem?_eq_getElem hk]; rfl
 refine ⟨hk,e2,?_⟩
 have:=List.findIdx_getElem (xs:=nd ns i) (p:=unB r) (w:=hk)
 rw [e2] at this
 exact of_decide_eq_true this
theorem un_needs {ns:List (List Nat)} {r:List Int} (hf:Fix ns r) (hb:∀ i,-1<=rk r i) (i:Nat) (hi:i < ns.length) (hu:rk r i=-1):∃ j ∈ nd ns i,rk r j=-1:=by
 rcases Classical.em (∃ j ∈ nd ns i,rk r j=-1) with h | h
 ·exact h
 ·have h0:∀ j ∈ nd ns i,0<=rk r j:=fun j hj => by
   have h1:rk r j ≠ -1:=fun e => h ⟨j,hj,e⟩
   have h2:=hb j
   omega
  have:=(above_ok (nd ns i) 0 h0 (Int.le_refl _)).1
  rw [hf i hi,hu] at this
  omega
theorem cclosure_any (r:List Int) (n B g c:Nat) (x:Nat) (W:World) (hx:x < n) (hl:n<=1000) (hbox:W.cell? ⟨B,0,none⟩=some (.slice (some ⟨g,0,none⟩) n c)) (hrow:∀ j,j < n->W.cell? ⟨g,j,none⟩=some (.int .i64 (rk r j))) :
  Calls Tryz.prog 76 #[.int .i64 x,.pointer (some ⟨B,0,none⟩)] W fun e w' => e=.returned (.bool (unB r x))/\∃ q,w'=W.drewN q:=by
 have h1:=hrow x hx
 unfold unB
 generalize rk r x=b at h1
 have hxi:(x:Int) < (n:Int):=by omega
 have hx0:(0:Int)<=(x:Int):=by omega
 clear hrow
 go_enter Tryz.func76,Tryz.ntmps76
 go_wp2_with fail
 go_ret
 exact ⟨rfl,0,rfl⟩
def encF3 {n:Nat} (x:Fin n):Value:=.int .i64 (x.val:Int)
theorem firstUn_any (r:List Int) (n B g c:Nat) (L:List Nat) (A:Option Addr) (ci:Nat) (W:World) (hn:1<=n) (hl:n<=1000) (hL:∀ j ∈ L,j < n) (hLl:L.length<=1048576) (hr:NtRow W A L) (hBl:B < W.heap.size) (hgl:g < W.heap.size)
  (hbox:W.cell? ⟨B,0,none⟩=some (.slice (some ⟨g,0,none⟩) n c)) (hrow:∀ j,j < n->W.cell? ⟨g,j,none⟩=some (.int .i64 (rk r j))) (hk:L.findIdx (unB r) < L.length) :
  Calls Tryz.prog 75 #[.slice A L.length ci,.func (.func 76) #[] #[.pointer (some ⟨B,0,none⟩)]] W fun e w' => e=.returned (.int .i64 (L.findIdx (unB r):Nat))/\∃ q,w'=W.drewN q:=by
 haveI:Inhabited (Fin n):=⟨⟨0,by omega⟩⟩
 obtain ⟨g2,rfl,_⟩:=hr 0 (by omega)
 have eg:∀ args w,(callFunc 76 args).run Tryz.prog w=.ok (.enter 76 args) w:=enters_of Tryz.func76 (by kernel_rfl) rfl
 obtain ⟨zs,hzs⟩:∃ zs:List (Fin n),zs.map Fin.val=L:=⟨L.pmap (fun j h => ⟨j,h⟩) hL,by rw [List.map_pmap]; simp⟩
 have hzl:zs.length=L.length:=by rw [← hzs,List.length_map]
 have hp:PredAt Tryz.prog 76 #[.pointer (some ⟨B,0,none⟩)] encF3 (fun x:Fin n => unB r x.val) W:=fun V x hV =>
  cclosure_any r n B g c x.val V x.isLt hl ((hV.cell (p:=⟨B,0,none⟩) hBl).trans hbox) (fun j hj => (hV.cell (p:=⟨g,j,none⟩) hgl).trans (hrow j hj))
 have:=Tryz.slices_IndexFunc encF3 (fun x:Fin n => unB r x.val) 76 #[.pointer (some ⟨B,0,none⟩)] eg g2 0 L.length ci zs W hp (by omega) (by omega) (fun j hj => by
  have hj2:j < L.length:=by omega
  obtain ⟨g3,e,hc⟩:=hr j hj2
  injection e with e; injection e with e _ _
  subst e
  rw [Nat.zero_add,hc,getElem!_pos zs j hj]
  unfold encF3
  have:L[j]=(zs[j]).val:=by simp only [← hzs,List.getElem_map]
  rw [this])
 refine this.mono fun e w' h => ⟨?_,h.2⟩
 have hat:∀ j (hj:j < zs.length),(zs[j]!).val=L[j]'(by omega):=fun j hj => by
  rw [getElem!_pos zs j hj]
  simp only [← hzs,List.getElem_map]
 rw [h.1,Lib.idxBy_hit (fun _ y => unB r y.val) zs L.length (L.findIdx (unB r)) default hk (by omega) (by show unB r (zs[L.findIdx (unB r)]!).val=true; rw [hat _ (by omega)]; exact List.findIdx_getElem) (fun j hj => by
  show unB r (zs[j]!).val=false
  rw [hat j (by omega)]
  exact by simpa using List.not_of_lt_findIdx hj)]
theorem containsS_hasB2 (L:List ByteArray) (s:ByteArray):Lib.containsS L s=hasB L s:=by
 rw [Bool.eq_iff_iff,Lib.containsS_iff,hasB_true]
theorem containsN_any (L:List ByteArray) (s:ByteArray) (v:Value) (base:Nat) (w:World) (hl:L.length<=1048576) (h:w.ownsRow base 9 1 v L.length (strV L)) :
  Calls Tryz.prog 74 #[v,.string s] w fun e w' => e=.returned (.bool (hasB L s))/\w=w':=by
 rcases Nat.eq_zero_or_pos L.length with h0 | h0
 ·obtain ⟨A,c,rfl,_⟩:=SRow.of_own h
  obtain rfl:L=[]:=List.eq_nil_of_length_eq_zero h0
  exact (Tryz.slices_Contains_string_empty A c s w).mono fun e w' h => ⟨h.1,h.2.symm⟩
 ·obtain ⟨A,c,rfl,hr⟩:=SRow.of_own h
  obtain ⟨g,rfl,_⟩:=hr 0 h0
  have:=Tryz.slices_Contains_string g 0 L.length c L s w (Nat.le_refl _) (by omega) (fun j hj => by
   obtain ⟨g',e,hc⟩:=hr j hj
   injection e with e; injection e with e _ _
   subst e
   rw [Nat.zero_add,List.getD_eq_getElem?_getD,List.getElem?_eq_getElem hj]; exact hc)
  rw [List.take_length,containsS_hasB2] at this
  exact this.mono fun e w' h => ⟨h.1,h.2.symm⟩
theorem indexS_any (L:List ByteArray) (j:Nat) (s:ByteArray) (g c:Nat) (w:World) (hl:L.length<=1048576) (hr:SRow w (some ⟨g,0,none⟩) L) (hj:j < L.length) (e:L[j]=s) (hne:∀ i (hi:i < j),L[i] ≠ s) :
  Calls Tryz.prog 77 #[.slice (some ⟨g,0,none⟩) L.length c,.string s] w fun e w' => e=.returned (.int .i64 (j:Nat))/\w=w':=by
 have:=Tryz.slices_Index_string g 0 L.length c L s w (Nat.le_refl _) (by omega) (fun j hj => by
  obtain ⟨g',e,hc⟩:=hr j hj
  injection e with e; injection e with e _ _
  subst e
  rw [Nat.zero_add,List.getD_eq_getElem?_getD,List.getElem?_eq_getElem hj]; exact hc)
 rw [Lib.idxOfS_hit L L.length j s hj (Nat.le_refl _) (by rw [List.getD_eq_getElem?_getD,List.getElem?_eq_getElem hj]; exact e) (fun i hi => by rw [List.getD_eq_getElem?_getD,List.getElem?_eq_getElem (by omega)]; exact hne i hi)] at this
 exact this.mono fun e w' h => ⟨h.1,h.2.symm⟩
def pathF (nm:Nat->ByteArray) (f:Nat->Nat) (a k:Nat):List ByteArray:=(List.range k).map fun i => nm (itN f a i)
theorem path_len (nm:Nat->ByteArray) (f:Nat->Nat) (a k:Nat):(pathF nm f a k).length=k:=by unfold pathF; simp
theorem path_succ (nm:Nat->ByteArray) (f:Nat->Nat) (a k:Nat):pathF nm f a (k + 1)=pathF nm f a k ++ [nm (itN f a k)]:=by unfold pathF; rw [List.range_succ,List.map_append]; rfl
theorem path_at (nm:Nat->ByteArray) (f:Nat->Nat) (a k i:Nat) (h:i < (pathF nm f a k).length):(pathF nm f a k)[i]=nm (itN f a i):=by simp [pathF]
def CycAt (nm:Nat->ByteArray) (f:Nat->Nat) (a n:Nat) (v:Value) (w:World):Prop :=
 ∃ k j g c,v=.slice (some ⟨g,j,none⟩) (k - j) c/\j < k/\k<=n/\itN f a k=itN f a j/\(∀ i i',i < k->i' < k->itN f a i=itN f a i'->i=i')/\∀ i,i < k - j->w.cell? ⟨g,j + i,none⟩=some (.string (nm (itN f a (j + i))))
def InjK (f:Nat->Nat) (a k:Nat):Prop:=∀ i i',i < k->i' < k->itN f a i=itN f a i'->i=i'
theorem nodup_it {f:Nat->Nat} {a:Nat}:∀ k,InjK f a k->((List.range k).map (itN f a)).Nodup
 | 0,_ => by simp
 | k + 1,h => by
  rw [List.range_succ,List.map_append,List.nodup_append]
  refine ⟨nodup_it k fun i i' hi hi' e => h i i' (by omega) (by omega) e,by simp,fun x hx y hy e => ?_⟩
  obtain ⟨i,hi,rfl⟩:=List.mem_map.1 hx
  rw [List.mem_range] at hi
  simp at hy
  subst hy
  have:=h i k (by omega) (by omega) e
  omega
theorem inj_le {f:Nat->Nat} {a k n:Nat} (h:InjK f a k) (hn:∀ i,itN f a i < n):k<=n:=by
 have:=nodup_bd n ((List.range k).map (itN f a)) (nodup_it k h) (fun x hx => by
  obtain ⟨i,_,rfl⟩:=List.mem_map.1 hx
  exact hn i)
 rwa [List.length_map,List.length_range] at this
theorem inj_step {f:Nat->Nat} {a k:Nat} (h:InjK f a k) (hk:∀ i,i < k->itN f a i ≠ itN f a k):InjK f a (k + 1):=fun i i' hi hi' e => by
 by_cases h1:i=k
 ·by_cases h2:i'=k
  ·omega
  ·subst h1; exact absurd e.symm (hk i' (by omega))
 ·by_cases h2:i'=k
  ·subst h2; exact absurd e (hk i (by omega))
  ·exact h i i' (by omega) (by omega) e
theorem path_has {nm:Nat->ByteArray} {f:Nat->Nat} {a k n:Nat} (hn:∀ i,itN f a i < n) (hinj:∀ i j,i < n->j < n->nm i=nm j->i=j):hasB (pathF nm f a k) (nm (itN f a k))=true ↔ ∃ i,i < k/\itN f a i=itN f a k:=by
 rw [hasB_true]
 unfold pathF
 rw [List.mem_map]
 constructor
 ·rintro ⟨i,hi,e⟩
  exact ⟨i,List.mem_range.1 hi,hinj _ _ (hn i) (hn k) e⟩
 ·rintro ⟨i,hi,e⟩
  exact ⟨i,List.mem_range.2 hi,by rw [e]⟩
def CInv (W1 w:World) (nm:Nat->ByteArray) (f:Nat->Nat) (a k:Nat) (v:Value) (wr:World):Prop :=
 InjK f a k/\wr.ownsRow (w.heap.size + 1) 9 1 v k (strV (pathF nm f a k))/\Below W1.heap.size W1 wr
set_option maxRecDepth 100000 in
set_option maxHeartbeats 4000000 in
theorem cycle_any (FA NA:Option Addr) (fc nc gR rc:Nat) (ns:List (List Nat)) (r:List Int) (nm:Nat->ByteArray) (n at0:Nat) (w:World) (hf:∀ V,Below w.heap.size w V->∀ i,i < n->∃ ad:Addr,FA=some ad/\V.cell? (ad.add (i * 9))=some (.string (nm i)))
  (hns:∀ V,Below w.heap.size w V->∀ i,i < n->∃ g Ai ci,NA=some ⟨g,0,none⟩/\V.cell? ⟨g,i,none⟩=some (.slice Ai (nd ns i).length ci)/\NtRow V Ai (nd ns i)) (hr:∀ j,j < n->w.cell? ⟨gR,j,none⟩=some (.int .i64 (rk r j))) (hgR:gR < w.heap.size)
  (hn:1<=n) (h14:n<=14) (hok:∀ i,i < n->(nd ns i).length<=1048576/\∀ j ∈ nd ns i,j < n) (hinj:∀ i j,i < n->j < n->nm i=nm j->i=j) (hun:∀ i,i < n->rk r i=-1->∃ j ∈ nd ns i,rk r j=-1) (hat:at0 < n) (hau:rk r at0=-1) :
  Calls Tryz.prog 47 #[.slice FA n fc,.slice NA n nc,.slice (some ⟨gR,0,none⟩) n rc,.int .i64 at0] w fun e w' => ∃ v,e=.returned v/\CycAt nm (nxtF ns r) at0 n v w'/\Below w.heap.size w w':=by
 have hit:∀ i,itN (nxtF ns r) at0 i < n/\rk r (itN (nxtF ns r) at0 i)=-1:=fun i => by
  induction i with
  | zero => exact ⟨hat,hau⟩
  | succ i ih =>
   obtain ⟨hk,e,hu⟩:=nxt_at (hun _ ih.1 ih.2)
   exact ⟨(hok _ ih.1).2 _ (by show nxtF ns r _ ∈ _; rw [← e]; exact List.getElem_mem hk),hu⟩
 have hhas:=fun k => path_has (nm:=nm) (f:=nxtF ns r) (a:=at0) (k:=k) (fun i => (hit i).1) hinj
 obtain ⟨i0,hi,hz0,hz1,hz2⟩:=info_parts1 NmA.infoStr
 obtain ⟨W1,hW1⟩:∃ V,w.alloc (.cells #[.slice (some ⟨gR,0,none⟩) n rc] 77)=V:=⟨_,rfl⟩
 have hb1:=b_new w (.cells #[.slice (some ⟨gR,0,none⟩) n rc] 77)
 rw [hW1] at hb1
 have hsz1:W1.heap.size=w.heap.size + 1:=by rw [← hW1]; simp
 have hbox:W1.cell? ⟨w.heap.size,0,none⟩=some (.slice (some ⟨gR,0,none⟩) n rc):=by
  rw [← hW1]; unfold World.cell?; rw [World.alloc_heap_new]; rfl
 have hr1:∀ V,Below W1.heap.size W1 V->∀ j,j < n->V.cell? ⟨gR,j,none⟩=some (.int .i64 (rk r j)):=fun V hV j hj => ((b_trans hb1 hV).cell (p:=⟨gR,j,none⟩) hgR).trans (hr j hj)
 have hbx:∀ V,Below W1.heap.size W1 V->V.cell? ⟨w.heap.size,0,none⟩=some (.slice (some ⟨gR,0,none⟩) n rc):=fun V hV => (hV.cell (p:=⟨w.heap.size,0,none⟩) (by dsimp only; omega)).trans hbox
 have HF:=Lib.hid hf
 have HNs:=Lib.hid hns
 have HR1:=Lib.hid hr1
 have HBx:=Lib.hid hbx
 have HOk:=Lib.hid hok
 have HUn:=Lib.hid hun
 have HIt:=Lib.hid hit
 have HHas:=Lib.hid hhas
 have HW1:=Lib.hid hW1
 have HB1:=Lib.hid hb1
 have HS1:=Lib.hid hsz1
 have HInj:=Lib.hid hinj
 have HgR:=Lib.hid hgR
 clear hf hns hr hgR hok hinj hun hat hau hit hhas hW1 hb1 hsz1 hbox hr1 hbx
 go_enter Tryz.func47,Tryz.ntmps47
 go_wp2_with fail
 rw [HW1.out]
 go_loopw [3,9,10] (fun a p _ wr => ∃ (k:Nat) (A:Option Addr) (c:Nat),a=.int .i64 (itN (nxtF ns r) at0 k:Nat)/\p=.slice A k c/\CInv W1 w nm (nxtF ns r) at0 k (.slice A k c) wr) (fun _ p _ _ => n - (match p with | .slice _ m _ => m | _ => 0))
 case atStart => exact ⟨0,none,0,rfl,rfl,fun i i' hi => absurd hi (by omega),World.ownsRow_nil _ _ _ _,Below.refl _ _⟩
 case round =>
  obtain ⟨k,A,c,rfl,rfl,hik,hown,hb⟩:=hrel
  have hkn:k<=n:=inj_le hik (fun i => (HIt.out i).1)
  have hown':wr.ownsRow (w.heap.size + 1) 9 1 (.slice A k c) (pathF nm (nxtF ns r) at0 k).length (strV (pathF nm (nxtF ns r) at0 k)):=by rw [path_len]; exact hown
  obtain ⟨A',c',hp,hsr⟩:=SRow.of_own hown'
  rw [path_len] at hp
  injection hp with hp1 hp2 hp3
  subst hp1 hp3
  clear hp2
  have hcon:=containsN_any (pathF nm (nxtF ns r) at0 k) (nm (itN (nxtF ns r) at0 k)) (.slice A k c) _ wr (by rw [path_len]; omega) hown'
  have hh:=HHas.out k
  have hnx:itN (nxtF ns r) at0 (k + 1)=nxtF ns r (itN (nxtF ns r) at0 k):=rfl
  obtain ⟨han,hau⟩:=HIt.out k
  have hstep:(∀ i,i < k->itN (nxtF ns r) at0 i ≠ itN (nxtF ns r) at0 k)->InjK (nxtF ns r) at0 (k + 1):=fun h => inj_step hik h
  have hps:=path_succ nm (nxtF ns r) at0 k
  have hpa:=path_at nm (nxtF ns r) at0 k
  have hpl:=path_len nm (nxtF ns r) at0 k
  have hend:∀ j g c,j < k->itN (nxtF ns r) at0 j=itN (nxtF ns r) at0 k->A=some ⟨g,0,none⟩->CycAt nm (nxtF ns r) at0 n (.slice (some ⟨g,j,none⟩) (k - j) c) wr:=fun j g c hj e eA => by
   refine ⟨k,j,g,c,rfl,hj,hkn,e.symm,hik,fun i hi => ?_⟩
   obtain ⟨g',e',hc⟩:=hsr (j + i) (by rw [path_len]; omega)
   rw [eA] at e'
   injection e' with e'; injection e' with e' _ _
   subst e'
   rw [hc,path_at]
  have hne:∀ j,j < k->itN (nxtF ns r) at0 j=itN (nxtF ns r) at0 k->∀ i (hi:i < j) (h:i < (pathF nm (nxtF ns r) at0 k).length),(pathF nm (nxtF ns r) at0 k)[i] ≠ nm (itN (nxtF ns r) at0 k):=fun j hj e i hi h e2 => by
   rw [path_at] at e2
   have h3:=HInj.out _ _ (HIt.out i).1 (HIt.out k).1 e2
   have:=hik i j (by omega) hj (h3.trans e.symm)
   omega
  generalize pathF nm (nxtF ns r) at0 k=pth at *
  generalize itN (nxtF ns r) at0 k=a at *
  obtain ⟨ad,rfl,hca⟩:=HF.out wr (b_trans HB1.out hb) a han
  have hai:(a:Int) < (n:Int):=by omega
  have ha0:(0:Int)<=(a:Int):=by omega
  have Hb:=Lib.hid hb
  cases hB:hasB pth (nm a) with
  | false =>
   rw [hB] at hcon
   have hij:=hstep (fun i hi e => by have:=hh.2 ⟨i,hi,e⟩; rw [hB] at this; cases this)
   have hkn1:k + 1<=n:=inj_le hij (fun i => (HIt.out i).1)
   obtain ⟨him,hie,hiu⟩:=nxt_at (HUn.out a han hau)
   have hnsa:=fun V hV => HNs.out V hV a han
   have hfu:∀ V Ai ci,Below W1.heap.size W1 V->NtRow V Ai (nd ns a)->Calls Tryz.prog 75 #[.slice Ai (nd ns a).length ci,.func (.func 76) #[] #[.pointer (some ⟨w.heap.size,0,none⟩)]] V fun e w' => e=.returned (.int .i64 ((nd ns a).findIdx (unB r):Nat))/\∃ q,w'=V.drewN q:=fun V Ai ci hV hnt =>
    firstUn_any r n w.heap.size gR rc (nd ns a) Ai ci V hn (by omega) (HOk.out a han).2 (HOk.out a han).1 hnt (by have:=hV.size; have:=HS1.out; omega) (by have:=hV.size; have:=HS1.out; have:=HgR.out; omega) (HBx.out V hV) (HR1.out V hV) him
   generalize (nd ns a).findIdx (unB r)=m at him hie hfu
   generalize nxtF ns r a=a2 at hie hnx
   have hown1:∀ o:Obj,(wr.alloc o).ownsRow (w.heap.size + 1) 9 1 (.slice A k c) k (strV pth):=fun o => hown.alloc o
   have hown9:∀ gg cap w6,w6.ownsRow (w.heap.size + 1) 9 1 (.slice (some ⟨gg,0,none⟩) (k + 1) cap) (k + 1) (strV pth ++ [.string (nm a)])->∀ w7,Below w6.heap.size w6 w7->w7.ownsRow (w.heap.size + 1) 9 1 (.slice (some ⟨gg,0,none⟩) (k + 1) cap) (k + 1) (strV (pathF nm (nxtF ns r) at0 (k + 1))):=fun gg cap w6 h w7 hV => by
    rw [hps,strV_append]
    exact GenL.own_below h hV
   have hgrw:∀ (o:Obj) (w6:World),(wr.alloc o).grownBy w6 (Value.slice A k c).ownBlock->Below W1.heap.size W1 w6:=fun o w6 hg =>
    (b_trans hb (b_new wr o)).grown hg (b_trans hb (b_new wr o)).size (fun g e => by have:=(hown.lt g e).1; have:=HS1.out; omega)
   have hsz:=hb.size
   have hs1:=HS1.out
   have hszw:w.heap.size + 1<=wr.heap.size:=by omega
   have HOwn1:=Lib.hid hown1
   have HOwn9:=Lib.hid hown9
   have HGrw:=Lib.hid hgrw
   have HCon:=Lib.hid hcon
   have HIj:=Lib.hid hij
   have HNx:=Lib.hid hnx
   have HNsa:=Lib.hid hnsa
   have HFu:=Lib.hid hfu
   have HIe:=Lib.hid hie
   clear hown1 hown9 hgrw hcon hij hnx hnsa hfu hne hend hpa hps hstep hh hsr hown' hown hik hb hB hsz hs1 hiu hau HBx HR1 HOk HUn HIt HHas HW1 HS1 HInj HgR HF HNs
   go_wp2_with (first
    | (go_at_call 74; refine HCon.out.mono ?_; rintro e w5 ⟨rfl,rfl⟩)
    | (at_builtin; refine wpList_append_lies _ rfl _ _ 31 rfl (w.heap.size + 1) 9 i0 (.string ⟨#[]⟩) 1 16 Tryz.underlying31 hi hz0 hz1 hz2 rfl (by decide) (.slice A k c) k (strV pth) rfl (HOwn1.out _) ⟨wr.heap.size,0,none⟩ 1 1 [.string (nm a)] rfl rfl (World.news_of_block (cs:=#[.string (nm a)]) (t:=9) (fr:=(0,0)) (World.alloc_heap_new wr _)) (by simp [Value.oneCell']) (by decide) (by unfold maxLen; omega) (by omega) (by simp; omega) (wr.heap.size + 1) (by simp) ?_))
   intro gg cap w6 hown6 hgrow6 _ _
   have hb6:=HGrw.out _ _ hgrow6
   obtain ⟨gN,Ai,ci,rfl,hcN,hntr⟩:=HNsa.out w6 (b_trans HB1.out hb6)
   have hfu:=HFu.out w6 Ai ci hb6 hntr
   have HFu2:=Lib.hid hfu
   have HOwn6:=Lib.hid hown6
   have HB6:=Lib.hid hb6
   have HNt:=Lib.hid hntr
   clear hfu hown6 hgrow6 hb6 hntr
   go_wp2_with fail
   refine HFu2.out.mono ?_; rintro e w7 ⟨rfl,hq⟩
   have hb67:Below w6.heap.size w6 w7:=by obtain ⟨q,rfl⟩:=hq; exact b_drewN (Below.refl _ _) q
   have hcN7:=(hb67.cell (p:=⟨gN,a,none⟩) (World.block_lt_of_cell? w6 _ hcN)).trans hcN
   obtain ⟨gA,rfl,hcA⟩:=(HNt.out.below hb67) m him
   rw [HIe.out] at hcA
   have hown7:=HOwn9.out _ _ _ HOwn6.out w7 hb67
   have HI7:=Lib.hid (show CInv W1 w nm (nxtF ns r) at0 (k + 1) (.slice (some ⟨gg,0,none⟩) (k + 1) cap) w7 from ⟨HIj.out,hown7,b_trans HB6.out hb67⟩)
   have hmi:(m:Int) < ((nd ns a).length:Int):=by omega
   have hm0:(0:Int)<=(m:Int):=by omega
   clear hie HIe hq hb67 hown7 hcN HFu2 HOwn6 HNt HOwn9 HFu HNsa HGrw HOwn1 HCon
   generalize (nd ns a).length=L at him hcN7 hmi
   go_wp2_with fail
   go_roundw
   case rel => exact ⟨k + 1,_,_,by rw [HNx.out],by go_num,HI7.out⟩
   case measure => simp; omega
  | true =>
   rw [hB] at hcon
   obtain ⟨j,hjk,hje⟩:=hh.1 hB
   obtain ⟨g,cap,hv,_,_,hkc,_,_⟩:=GenL.own_form hown (by omega)
   injection hv with hv1 hv2 hv3
   subst hv1 hv3
   have hix:=indexS_any pth j (nm a) g c wr (by omega) hsr (by omega) (by rw [hpa,hje]) (fun i hi => hne j hjk hje i hi _)
   rw [hpl] at hix
   have hfin:=hend j g (c - j) hjk hje rfl
   have hcj:¬ c=j:=by omega
   have hjk2:j<=k:=by omega
   have hji:(j:Int)<=(k:Int):=by omega
   have HIx:=Lib.hid hix
   have HCon:=Lib.hid hcon
   have HFin:=Lib.hid hfin
   clear hix hcon hfin hne hend hpa hpl hps hstep hnx hh hsr hown' hown hik hb hB hje hv2 hau han hkn hjk
   go_wp2_with (first
    | (go_at_call 74; refine HCon.out.mono ?_; rintro e w5 ⟨rfl,rfl⟩)
    | (go_at_call 77; refine HIx.out.mono ?_; rintro e w5 ⟨rfl,rfl⟩))
   go_ret
   exact ⟨_,rfl,HFin.out,b_trans HB1.out Hb.out⟩
def nmF (fs:List GenL.Fd) (i:Nat):ByteArray:=((fs[i]?).map GenL.Fd.nm).getD ⟨#[]⟩
theorem nmF_at (fs:List GenL.Fd) (i:Nat) (h:i < fs.length):nmF fs i=fs[i].nm:=by unfold nmF; rw [List.getElem?_eq_getElem h]; rfl
set_option maxRecDepth 100000 in
set_option maxHeartbeats 4000000 in
theorem of_cyc (fs:List GenL.Fd) (X:Nat->Ex) (FA:Option Addr) (fc at0:Nat) (w:World) (hm:fs.length<=14) (hf:Flds w FA fs) (hX:Forms w fs X) (hT:Tab w) (hcap:fs.length<=fc/\fc<=maxLen) (h0:checkF fs X=0)
  (hat:at0 < fs.length) (hau:rk (rankF (needsF fs X)) at0=-1) (hfst:∀ j,j < at0->rk (rankF (needsF fs X)) j ≠ -1) (hinj:∀ i j,i < fs.length->j < fs.length->nmF fs i=nmF fs j->i=j) :
  Calls Tryz.prog 27 #[.slice FA fs.length fc] w fun e w' => ∃ v,e=.returned (.tuple #[.slice none 0 0,v,.int .i64 10])/\CycAt (nmF fs) (nxtF (needsF fs X) (rankF (needsF fs X))) at0 fs.length v w'/\Below w.heap.size w w':=by
 have hc:=FldC.check_any fs X FA fc w (Nat.le_trans hm (by decide)) hf hX hT hcap
 rw [h0] at hc
 clear h0
 have hd:∀ V:World,Below w.heap.size w V->Calls Tryz.prog 44 #[.slice FA fs.length fc] V (DirOut (needsF fs X) V):=fun V hV => direct_any fs X FA fc V hm (hf.below hV) (hX.below hV) (hT.below hV)
 have hok:=needsF_ok fs X hm
 have hnl:=needsF_len fs X
 obtain ⟨ns,hns⟩:∃ ns,needsF fs X=ns:=⟨_,rfl⟩
 rw [hns] at hd hok hnl hau hfst ⊢
 have hix:Lib.idxOf (rankF ns) (-1)=at0:=by
  have:=Lib.idxOf_hit (rankF ns) (rankF ns).length at0 (-1) (by rw [rankF_len,hnl]; exact hat) (Nat.le_refl _) hau hfst
  rwa [List.take_length] at this
 have hun:=un_needs (rankF_fix ns) (fun i => (bd_pass ns ns.length i).1)
 have hnm:∀ V,Below w.heap.size w V->∀ i,i < fs.length->∃ ad:Addr,FA=some ad/\V.cell? (ad.add (i * 9))=some (.string (nmF fs i)):=fun V hV i hi => by
  obtain ⟨ad,e,h⟩:=hf.below hV i hi
  exact ⟨ad,e,by rw [nmF_at fs i hi]; exact h.1⟩
 rw [hnl] at hun
 have hok2:=hok
 unfold Okn at hok2
 rw [hnl] at hok2
 have HC:=Lib.hid hc
 have HD:=Lib.hid hd
 have HI:=Lib.hid hix
 have HNl:=Lib.hid hnl
 have HUn:=Lib.hid hun
 have HOk2:=Lib.hid hok2
 have HNm:=Lib.hid hnm
 have HInj:=Lib.hid hinj
 have HAu:=Lib.hid hau
 have hn1:1<=fs.length:=by omega
 clear hnl hc hns hf hX hT hd hix hfst hun hok2 hnm hinj hau
 generalize nmF fs=nm at HNm HInj ⊢
 generalize fs.length=n at *
 go_enter Tryz.func27,Tryz.ntmps27
 go_wp2_with fail
 refine HC.out.mono ?_; rintro e w1 ⟨rfl,hb⟩
 have HB:=Lib.hid hb
 clear hb
 go_wp2_with fail
 refine (HD.out w1 HB.out).mono ?_; rintro e w2 ⟨A2,c2,rfl,hns2,hb2,-⟩
 have hrk:=ranked_any ns A2 c2 w2 hok hns2
 rw [HNl.out] at hrk ⊢
 have HR:=Lib.hid hrk
 have HB2:=Lib.hid (b_trans HB.out hb2)
 have HNs2:=Lib.hid hns2
 clear hrk hns2 hb2
 go_wp2_with fail
 refine HR.out.mono ?_; rintro e w3 ⟨v3,rfl,hown3,hb3⟩
 have hin:=index_any (rankF ns) (-1) v3 w2.heap.size w3 (by rw [rankF_len,HNl.out]; omega) (by rw [rankF_len]; exact hown3)
 rw [HI.out] at hin
 obtain ⟨gR,rc,rfl,_,hgl,_,_,hcl⟩:=GenL.own_form hown3 (by rw [HNl.out]; omega)
 rw [HNl.out] at hin
 have HIn:=Lib.hid hin
 have hcyc:=cycle_any FA A2 fc c2 gR rc ns (rankF ns) nm n at0 w3 (fun V hV => HNm.out V (b_trans HB2.out (b_trans hb3 hV))) (fun V hV i hi => by
  obtain ⟨g,e,Ai,ci,h1,h2⟩:=(HNs2.out.below (b_trans hb3 hV)) i (by rw [HNl.out]; exact hi)
  exact ⟨g,Ai,ci,e,h1,h2⟩) (fun j hj => by
  rw [hcl j (by rw [HNl.out]; omega),iV_at _ _ (by rw [rankF_len,HNl.out]; exact hj)]) hgl hn1 hm HOk2.out.2 HInj.out HUn.out hat HAu.out
 have HCyc:=Lib.hid hcyc
 have HB3:=Lib.hid (b_trans HB2.out hb3)
 rw [HNl.out]
 clear hb3 hown3 hin hcl hcyc hgl
 go_wp2_with fail
 refine HIn.out.mono ?_; rintro e w4 ⟨rfl,rfl⟩
 have hge:(0:Int)<=(at0:Int):=by omega
 go_wp2_with fail
 refine HCyc.out.mono ?_; rintro e w5 ⟨v,rfl,hv,hb5⟩
 have HV:=Lib.hid hv
 have HB5:=Lib.hid (b_trans HB3.out hb5)
 clear hv hb5
 go_wp2_with fail
 exact bodyPost_ret (v:=.tuple #[.slice none 0 0,v,.int .i64 10]) (by simp [results,Tryz.results27,go_sem]) rfl ⟨v,rfl,HV.out,HB5.out⟩
end CycO
namespace RkV
open Go.RowKit
open ExM NmM Kit RkM RkA RkB RkC RkD RkO RkL CycO SMp
set_option linter.unusedVariables false
end RkV
namespace RkW
open Go.RowKit Go.Maps
open ValM LexM NumM ExM NmM Kit ExL ExP ExN ExC RawV Within RawL GenL FldP FldR FldC TyM Ty NmO NmA NmI NmT NmR RkM RkA RkB RkC RkD RkO RkL CycO SMp RkV
set_option linter.unusedVariables false
end RkW
namespace RkX
open Go.RowKit
open ValM LexM NumM ExM NmM Kit ExL ExP ExN ExC RawV Within RawL GenL FldP FldR FldC TyM Ty NmO NmA NmI NmT NmR RkM RkA RkB RkC RkD RkO RkL CycO SMp RkV RkW
set_option linter.unusedVariables false
end RkX
namespace RkY
open Go.RowKit
open ValM LexM NumM ExM NmM Kit ExL ExP ExN ExC RawV Within RawL GenL FldP FldR FldC TyM Ty NmO NmA NmI NmT NmR RkM RkA RkB RkC RkD RkO RkL CycO SMp RkV RkW RkX EvP
set_option linter.unusedVariables false
theorem valid_own {fs:List GenL.Fd} {X:Nat->Ex} (h0:checkF fs X=0):fs.length<=14/\(∀ k (hk:k < fs.length),rightE fs[k] (X k)=0/\atF fs fs[k].nm=k)/\∀ k (hk:k < fs.length),srcE fs fs[k] (X k)=0:=by
 unfold checkF at h0
 by_cases hl:14 < fs.length
 ·rw [if_pos hl] at h0; exact absurd h0 (by decide)
 ·rw [if_neg hl] at h0
  have hz:∀ (P:Nat->Int) (n:Nat),scan P n=0->∀ j,j < n->P j=0:=fun P n => by
   induction n with
   | zero => intro _ j hj; omega
   | succ n ih =>
    intro h j hj
    unfold scan at h
    by_cases e:scan P n=0
    ·rw [if_pos e] at h
     by_cases h2:j=n
     ·subst h2; exact h
     ·exact ih e j (by omega)
    ·rw [if_neg e] at h; exact absurd h e
  by_cases h1:scan (ownE fs X) fs.length=0
  ·rw [if_pos h1] at h0
   refine ⟨by omega,fun k hk => ?_,fun k hk => ?_⟩
   ·have h2:=hz _ _ h1 k hk
    unfold ownE at h2
    rw [dif_pos hk] at h2
    by_cases h3:rightE fs[k] (X k)=0
    ·rw [if_pos h3] at h2
     by_cases h4:atF fs fs[k].nm < k
     ·rw [if_pos h4] at h2; exact absurd h2 (by decide)
     ·refine ⟨h3,?_⟩
      rcases Nat.lt_or_ge k (atF fs fs[k].nm) with h5 | h5
      ·exfalso
       by_cases h6:atF fs fs[k].nm < fs.length
       ·exact (atF_at h6).2 k hk h5 rfl
       ·by_cases h7:∃ j,∃ hj:j < fs.length,fs[j].nm=fs[k].nm/\∀ i (hi:i < fs.length),i < j->fs[i].nm ≠ fs[k].nm
        ·obtain ⟨j,hj,e,hm⟩:=h7
         have:=atF_eq fs fs[k].nm j hj hm e
         omega
        ·have h8:∀ j (hj:j < fs.length),fs[j].nm ≠ fs[k].nm:=fun j => by
          refine Nat.strongRecOn j fun j ih hj e => h7 ⟨j,hj,e,fun i hi hij => ih i hij hi⟩
         exact h8 k hk rfl
      ·omega
    ·rw [if_neg h3] at h2; exact absurd h2 h3
   ·have h2:=hz _ _ h0 k hk
    unfold typE at h2
    rwa [dif_pos hk] at h2
  ·rw [if_neg h1] at h0; exact absurd h0 h1
theorem valid_inj {fs:List GenL.Fd} {X:Nat->Ex} (h0:checkF fs X=0) (i j:Nat) (hi:i < fs.length) (hj:j < fs.length) (e:nmF fs i=nmF fs j):i=j:=by
 obtain ⟨_,h,_⟩:=valid_own h0
 rw [nmF_at fs i hi,nmF_at fs j hj] at e
 rw [← (h i hi).2,e,(h j hj).2]
end RkY
namespace ShE
open Go.RowKit
open ValM LexM NumM ExM NmM Kit ExL ExP ExN ExC RawV Within RawL GenL FldP FldR FldC FrmM PgM PgA RkM RkA RkO RkD CycO RkV RkW RkX RkY ShT ShL
set_option linter.unusedVariables false
open Classical in
noncomputable def rankE (fs:List GenL.Fd) (X:Nat->Ex):Int :=
 if checkF fs X=0 then (if ∀ i,i < fs.length->rk (rankF (needsF fs X)) i ≠ -1 then 0 else 10) else checkF fs X
theorem first_un {fs:List GenL.Fd} {X:Nat->Ex} (hall:¬ ∀ i,i < fs.length->rk (rankF (needsF fs X)) i ≠ -1):∃ i,i < fs.length/\rk (rankF (needsF fs X)) i=-1/\∀ j,j < i->rk (rankF (needsF fs X)) j ≠ -1:=by
 have hex:∃ i,i < fs.length/\rk (rankF (needsF fs X)) i=-1:=by
  refine Classical.byContradiction fun h => hall fun i hi e => h ⟨i,hi,e⟩
 obtain ⟨i,hi,he⟩:=hex
 refine Nat.strongRecOn (motive:=fun i => i < fs.length->rk (rankF (needsF fs X)) i=-1->_) i (fun m ih hm9 he9 => ?_) hi he
 by_cases h:∃ j,j < m/\rk (rankF (needsF fs X)) j=-1
 ·obtain ⟨j,hj,e⟩:=h
  exact ih j hj (by omega) e
 ·exact ⟨m,hm9,he9,fun j hj e => h ⟨j,hj,e⟩⟩
theorem rankOf_any (fs:List GenL.Fd) (X:Nat->Ex) (FA:Option Addr) (fc:Nat) (w:World) (hl:fs.length<=1048576) (hf:Flds w FA fs) (hX:Forms w fs X) (hT:Tab w) (hcap:fs.length<=fc/\fc<=maxLen) :
  ∀ V,Below w.heap.size w V->Calls Tryz.prog 27 #[.slice FA fs.length fc] V fun e w' => ∃ v p,e=.returned (.tuple #[v,p,.int .i64 (rankE fs X)])/\Below V.heap.size V w':=fun V hV => by
 unfold rankE
 by_cases h0:checkF fs X=0
 ·obtain ⟨hm,hv,_⟩:=valid_own h0
  rw [if_pos h0]
  by_cases hall:∀ i,i < fs.length->rk (rankF (needsF fs X)) i ≠ -1
  ·rw [if_pos hall]
   refine (of_ok fs X FA fc V hm (hf.below hV) (hX.below hV) (hT.below hV) hcap h0 (fun i hi => by
    have h1:=hall i hi
    have h2:-1<=rk (rankF (needsF fs X)) i:=(bd_pass (needsF fs X) (needsF fs X).length i).1
    omega)).mono fun e w' h => ?_
   obtain ⟨v,rfl,hown,hb⟩:=h
   exact ⟨v,_,rfl,hb⟩
  ·rw [if_neg hall]
   obtain ⟨at0,hat,hau,hfst⟩:=first_un hall
   refine (of_cyc fs X FA fc at0 V hm (hf.below hV) (hX.below hV) (hT.below hV) hcap h0 hat hau hfst (valid_inj h0)).mono fun e w' h => ?_
   obtain ⟨v,rfl,hc,hb⟩:=h
   exact ⟨_,v,rfl,hb⟩
 ·rw [if_neg h0]
  refine (of_bad fs X FA fc V (by omega) (hf.below hV) (hX.below hV) (hT.below hV) hcap h0).mono fun e w' h => ?_
  obtain ⟨rfl,hb⟩:=h
  exact ⟨_,_,rfl,hb⟩
noncomputable def formE (F:List GenL.Fd) (X:Nat->Ex) (P:List PE):Int:=if rankE F X=0 then checkP F P else rankE F X
structure FormIn (F:List GenL.Fd) (X:Nat->Ex) (FA:Option Addr) (fc:Nat) (P:List PE) (PA:Option Addr) (pc:Nat) (w:World):Prop where
 fn:F.length<=1048576
 fl:Flds w FA F
 fx:Forms w F X
 fN:∀ k,k < F.length->(X k).nodes<=1048576
 fcap:F.length<=fc/\fc<=maxLen
 pg:Pgs w PA P
 ok:PgsOk w P
 pcap:P.length<=pc/\pc<=maxLen
 pn:P.length<=1048576
 pN:∀ e ∈ P,e.fs.length<=1048576/\e.x.nodes<=1048576
theorem check_any {F:List GenL.Fd} {X:Nat->Ex} {FA:Option Addr} {fc:Nat} {P:List PE} {PA:Option Addr} {pc:Nat} {w:World} (h:FormIn F X FA fc P PA pc w) (ht:Tab w) :
  ∀ V,Below w.heap.size w V->Calls Tryz.prog 12 #[.agg #[.slice FA F.length fc,.slice PA P.length pc]] V fun e w' => e=.returned (.int .i64 (formE F X P))/\Below V.heap.size V w':=fun V hV => by
 refine ShT.check_any F.length FA fc P.length PA pc (rankE F X) (checkP F P) V (fun V' hV' => rankOf_any F X FA fc w h.fn h.fl h.fx ht h.fcap V' (hV.trans (hV'.mono hV.size))) (fun _ V' hV' => ?_)
 have hb:=hV.trans (hV'.mono hV.size)
 exact PgB.check_any P PA pc F FA fc V' h.fn (h.fl.below hb) (fun k hk => (h.fx k hk).1) (h.pg.below hb) (h.ok.below hb) (by have:=h.pn; unfold maxLen; omega) (fun e he => (h.pN e he).1) (ht.below hb) h.pcap
end ShE
namespace RawN
open Go.RowKit
open ValM LexM NumM ExM Kit ExL RawV Within RawL
set_option linter.unusedVariables false
structure Rw where
 k:Int
 x:Int
 y:Int
 t:ByteArray
def Rw.ok (r:Rw):Prop:=(Lit.int .i64 r.k).wf=true/\(Lit.int .i64 r.x).wf=true/\(Lit.int .i64 r.y).wf=true/\r.t.size<=maxLen
def RAt (w:World) (p:Addr) (r:Rw):Prop:=w.cell? p=some (.int .i64 r.k)/\w.cell? ⟨p.block,p.off + 1,none⟩=some (.int .i64 r.x)/\w.cell? ⟨p.block,p.off + 2,none⟩=some (.int .i64 r.y)/\w.cell? ⟨p.block,p.off + 3,none⟩=some (.string r.t)
def RawsV (w:World) (A:Option Addr) (rs:List Rw) (c:Nat):Prop :=
 rs.length<=c/\c<=maxLen/\∀ (i:Nat) (h:i < rs.length),∃ a:Addr,A=some a/\RAt w (a.add (i * 4)) rs[i]/\rs[i].ok
theorem Raws.val:∀ (n:Nat) {w:World} {A:Option Addr} {c:Nat},Raws w A n c->∃ rs:List Rw,rs.length=n/\RawsV w A rs c
 | n,w,A,c,h => by
  have key:∀ m,m<=n->∃ rs:List Rw,rs.length=m/\∀ (i:Nat) (h:i < rs.length),∃ a:Addr,A=some a/\RAt w (a.add (i * 4)) rs[i]/\rs[i].ok:=by
   intro m
   induction m with
   | zero => exact fun _ => ⟨[],rfl,fun i h => absurd h (by simp)⟩
   | succ m ih =>
    intro hm
    obtain ⟨rs,hl,hrs⟩:=ih (by omega)
    obtain ⟨a,k,x,y,t,e,c0,c1,c2,c3,r⟩:=h.2.2 m (by omega)
    refine ⟨rs ++ [⟨k,x,y,t⟩],by simp [hl],fun i hi => ?_⟩
    by_cases hi':i < rs.length
    ·rw [List.getElem_append_left hi']; exact hrs i hi'
    ·have:i=rs.length:=by simp at hi; omega
     subst this
     simp only [List.getElem_concat_length]
     rw [hl]
     exact ⟨a,e,⟨c0,c1,c2,c3⟩,r⟩
  obtain ⟨rs,hl,hrs⟩:=key n (Nat.le_refl _)
  exact ⟨rs,hl,by rw [hl]; exact h.1,h.2.1,hrs⟩
theorem RawsV.keep {w w':World} {A:Option Addr} {rs:List Rw} {c:Nat} (h:RawsV w A rs c) (hk:∀ (p:Addr) (v0 v1 v2:Value),w.cell? p=some v0->w.cell? ⟨p.block,p.off + 2,none⟩=some v2->w'.heap[p.block]?=w.heap[p.block]?):RawsV w' A rs c :=
 ⟨h.1,h.2.1,fun i hi => by
  obtain ⟨a,e,⟨c0,c1,c2,c3⟩,r⟩:=h.2.2 i hi
  have hb:=hk _ _ (.bool true) _ c0 c2
  exact ⟨a,e,⟨(World.cell?_of_block hb).trans c0,(World.cell?_of_block (a:=⟨(a.add (i * 4)).block,(a.add (i * 4)).off + 1,none⟩) hb).trans c1,(World.cell?_of_block (a:=⟨(a.add (i * 4)).block,(a.add (i * 4)).off + 2,none⟩) hb).trans c2,(World.cell?_of_block (a:=⟨(a.add (i * 4)).block,(a.add (i * 4)).off + 3,none⟩) hb).trans c3⟩,r⟩⟩
theorem RawsV.below {w w':World} {A:Option Addr} {rs:List Rw} {c:Nat} (h:RawsV w A rs c) (hb:Below w.heap.size w w'):RawsV w' A rs c:=h.keep fun p v0 v1 v2 h0 h2 => hb.block _ (cell_lt' h0)
theorem Gr.rawsV {G:Nat} {w w':World} {A A':Option Addr} {rs:List Rw} {c n' c' a:Nat} (h:Gr G w w') (hg:Gen w G A' n' c' a) (r:RawsV w A rs c):RawsV w' A rs c :=
 r.keep fun p v0 v1 v2 h0 h2 => h.block _ (cell_lt' h0) (fun e => by
  cases e
  rw [hg.none2 p.off] at h2; cases h2)
def nextV (rs:List Rw) (a:Nat):Rw :=
 match rs[a % rs.length]? with
 | none => ⟨0,0,0,⟨#[]⟩⟩
 | some r => { r with x:=wrap64 (r.x + (a:Int) / (rs.length:Int)) }
def nextA (rs:List Rw) (a:Nat):Nat:=if rs.length=0 then a else a + 1
def NextV (G:Nat) (A:Option Addr) (rs:List Rw) (c a:Nat) (w:World) (e:Ending) (w':World):Prop :=
 e=.returned (.agg #[.int .i64 (nextV rs a).k,.int .i64 (nextV rs a).x,.int .i64 (nextV rs a).y,.string (nextV rs a).t])/\(nextV rs a).ok/\Gen w' G A rs.length c (nextA rs a)/\Gr G w w'
set_option maxHeartbeats 1000000 in
theorem nextV_none (G c a:Nat) (A:Option Addr) (w:World) (hg:Gen w G A 0 c a) :
  Calls Tryz.prog 15 #[.pointer (some ⟨G,0,none⟩)] w (NextV G A [] c a w):=by
 obtain ⟨g0,g1,g2⟩:=hg.cells
 have gl:=hg.lt
 have HG:=Lib.hid hg
 clear hg
 go_enter Tryz.func15,Tryz.ntmps15
 go_wp2_with fail
 refine bodyPost_ret (v:=.agg #[.int .i64 0,.int .i64 0,.int .i64 0,.string ⟨#[]⟩]) (by simp [results,Tryz.results15,go_sem]) rfl ?_
 exact ⟨rfl,⟨rfl,rfl,rfl,Nat.zero_le _⟩,HG.out.below (b_new _ _),Gr.of_below (b_new _ _)⟩
set_option maxHeartbeats 1000000 in
theorem nextV_some (G n c a:Nat) (A:Option Addr) (rs:List Rw) (w:World) (hrl:rs.length=n) (hg:Gen w G A n c a) (hr:RawsV w A rs c) (hn:0 < n) (ha:a<=1000000000) :
  Calls Tryz.prog 15 #[.pointer (some ⟨G,0,none⟩)] w (NextV G A rs c a w):=by
 obtain ⟨g0,g1,g2⟩:=hg.cells
 have gl:=hg.lt
 obtain ⟨j,hj⟩:∃ j,a % n=j:=⟨_,rfl⟩
 have hjn:j < n:=by rw [← hj]; exact Nat.mod_lt _ hn
 obtain ⟨ad,rfl,⟨r0,r1,r2,r3⟩,k0,k1,k2,k3⟩:=hr.2.2 j (by rw [hrl]; exact hjn)
 have hnv:∀ R:Rw,rs[j]?=some R->nextV rs a=⟨R.k,wrap64 (R.x + (a:Int) / (n:Int)),R.y,R.t⟩:=fun R h => by
  unfold nextV
  rw [hrl,hj,h]
 have hnv:=hnv _ (List.getElem?_eq_getElem (by rw [hrl]; exact hjn))
 have hna:nextA rs a=a + 1:=by unfold nextA; rw [if_neg (by omega)]
 generalize hR:rs[j]'(by rw [hrl]; exact hjn)=R at r0 r1 r2 r3 k0 k1 k2 k3 hnv
 obtain ⟨K,X,Y,T⟩:=R
 simp only at r0 r1 r2 r3 k0 k1 k2 k3 hnv
 have hn2:n<=maxLen:=Nat.le_trans (by have:=hr.1; omega) hr.2.1
 unfold maxLen at hn2
 have i0:(0:Int)<=(a:Int):=by omega
 have i1:(0:Int) < (n:Int):=by omega
 have i2:((n:Int) == 0)=false:=beq_eq_false_iff_ne.2 (by omega)
 have i3:((a:Int) % (n:Int)).toNat=j:=by rw [← hj,← Int.natCast_emod,Int.toNat_natCast]
 have i4:(0:Int)<=(a:Int) % (n:Int):=Int.emod_nonneg _ (by omega)
 have i5:(a:Int) % (n:Int) < (n:Int):=Int.emod_lt_of_pos _ i1
 have i6:¬ (n:Int)=0:=by omega
 have HG:=Lib.hid hg
 have HNV:=Lib.hid hnv
 have HNA:=Lib.hid hna
 have HRL:=Lib.hid hrl
 clear hg hr hj hnv hna hrl hR
 go_enter Tryz.func15,Tryz.ntmps15
 go_wp2_with fail
 have v0:∀ o o',((w.alloc o).alloc o').cell? (ad.add (j * 4))=some (.int .i64 K):=fun o o' => by rw [World.cell?_alloc_lt _ _ _ (by have:=cell_lt' r0; simp; omega),World.cell?_alloc_lt _ _ _ (cell_lt' r0)]; exact r0
 have v1:∀ o o',((w.alloc o).alloc o').cell? ⟨(ad.add (j * 4)).block,(ad.add (j * 4)).off + 1,none⟩=some (.int .i64 X):=fun o o' => by rw [World.cell?_alloc_lt _ _ _ (by have:=cell_lt' r1; simp; simp at this; omega),World.cell?_alloc_lt _ _ _ (cell_lt' r1)]; exact r1
 have v2:∀ o o',((w.alloc o).alloc o').cell? ⟨(ad.add (j * 4)).block,(ad.add (j * 4)).off + 2,none⟩=some (.int .i64 Y):=fun o o' => by rw [World.cell?_alloc_lt _ _ _ (by have:=cell_lt' r2; simp; simp at this; omega),World.cell?_alloc_lt _ _ _ (cell_lt' r2)]; exact r2
 have v3:∀ o o',((w.alloc o).alloc o').cell? ⟨(ad.add (j * 4)).block,(ad.add (j * 4)).off + 3,none⟩=some (.string T):=fun o o' => by rw [World.cell?_alloc_lt _ _ _ (by have:=cell_lt' r3; simp; simp at this; omega),World.cell?_alloc_lt _ _ _ (cell_lt' r3)]; exact r3
 have u0:∀ o,(w.alloc o).cell? (ad.add (j * 4))=some (.int .i64 K):=fun o => by rw [World.cell?_alloc_lt _ _ _ (cell_lt' r0)]; exact r0
 have u1:∀ o,(w.alloc o).cell? ⟨(ad.add (j * 4)).block,(ad.add (j * 4)).off + 1,none⟩=some (.int .i64 X):=fun o => by rw [World.cell?_alloc_lt _ _ _ (cell_lt' r1)]; exact r1
 have u2:∀ o,(w.alloc o).cell? ⟨(ad.add (j * 4)).block,(ad.add (j * 4)).off + 2,none⟩=some (.int .i64 Y):=fun o => by rw [World.cell?_alloc_lt _ _ _ (cell_lt' r2)]; exact r2
 have u3:∀ o,(w.alloc o).cell? ⟨(ad.add (j * 4)).block,(ad.add (j * 4)).off + 3,none⟩=some (.string T):=fun o => by rw [World.cell?_alloc_lt _ _ _ (cell_lt' r3)]; exact r3
 clear r0 r1 r2 r3
 go_region
 clear v0 v1 v2 v3 u0 u1 u2 u3
 have d0:(0:Int)<=(a:Int) / (n:Int):=Int.ediv_nonneg i0 (by omega)
 have d1:(a:Int) / (n:Int)<=1000000000:=Int.le_trans (Int.ediv_le_self _ i0) (by omega)
 go_wp2_with fail
 go_region
 go_wp2_with fail
 refine bodyPost_ret (v:=.agg #[.int .i64 K,.int .i64 (wrap64 (X + (a:Int) / (n:Int))),.int .i64 Y,.string T]) (by simp [results,Tryz.results15,go_sem]) rfl ?_
 have hs:=Gen.step HG.out
 unfold NextV
 rw [HNV.out,HNA.out,HRL.out]
 refine ⟨rfl,⟨k0,wrap64_wf _,k2,k3⟩,?_,?_⟩
 ·exact ((hs.1.alloc _).alloc _).below (b_drew (b_drew (Below.refl _ _)))
 ·exact hs.2.trans (Gr.of_below (b_drew (b_drew (b_more (b_new _ _) _))))
theorem nextV_any (G c a:Nat) (A:Option Addr) (rs:List Rw) (w:World) (hg:Gen w G A rs.length c a) (hr:RawsV w A rs c) (ha:a<=1000000000) :
  Calls Tryz.prog 15 #[.pointer (some ⟨G,0,none⟩)] w (NextV G A rs c a w):=by
 rcases Nat.eq_zero_or_pos rs.length with h | h
 ·obtain rfl:rs=[]:=List.length_eq_zero_iff.1 h
  exact nextV_none G c a A w hg
 ·exact nextV_some G _ c a A rs w rfl hg hr h ha
end RawN
namespace Gen
open Go.RowKit
open ValM LexM NumM ExM Kit ExL ExP RawV Within RawL GenL
set_option linter.unusedVariables false
def OpT (op:Int) (ks:List Int) (kind:Int):Prop :=
 (op=17/\ks=[2,kind,kind]) ∨
 (kind=1/\((op=3/\ks=[1]) ∨ (op=18/\ks=[3]) ∨ (5<=op/\op<=9/\ks=[1,1]))) ∨
 (kind=2/\((op=4/\ks=[2]) ∨ (15<=op/\op<=16/\ks=[2,2]) ∨ ∃ j,1<=j/\j<=3/\11<=op/\op<=14/\ks=[j,j])) ∨
 (kind ≠ 1/\kind ≠ 2/\op=10/\ks=[3,3])
def Gn (fs:List GenL.Fd):Nat->Int->Ex->Prop
 | 0,kind,x => ∃ d,x=.mk d []/\LeafD fs kind d
 | k + 1,kind,x => (∃ d,x=.mk d []/\LeafD fs kind d) ∨
   ∃ op ks l,x=.mk ⟨op,0,0,⟨#[]⟩,⟨#[]⟩⟩ l/\OpT op ks kind/\l.length=ks.length/\∀ (i:Nat) (h1:i < l.length) (h2:i < ks.length),Gn fs k ks[i] l[i]
def cost:Nat->Nat
 | 0 => 2
 | k + 1 => 2 + 3 * cost k
theorem app_keep {V W':World} {o:Obj} {b:Nat} {row:Option Nat} (hg:(V.alloc o).grownBy W' row) (hl:b < V.heap.size) (hne:some b ≠ row):W'.heap[b]?=V.heap[b]? :=
 (hg.block b (by simp; omega) hne).trans ((b_new V o).block b hl)
theorem own_far {w:World} {base:Nat} {e:TypeId} {size:Nat} {v:Value} {n:Nat} {xs:List Value} (h:w.ownsRow base e size v n xs) {b:Nat} (hb:b < base):some b ≠ v.ownBlock:=fun e => by
 have:=(h.lt b e.symm).1; omega
theorem set6_heap {w:World} {B b:Nat} (h:b ≠ B) (v0 v1 v2 v3 v4 v5:Value):((((((w.setCell ⟨B,0,none⟩ v0).setCell ⟨B,1,none⟩ v1).setCell ⟨B,2,none⟩ v2).setCell ⟨B,3,none⟩ v3).setCell ⟨B,4,none⟩ v4).setCell ⟨B,5,none⟩ v5).heap[b]?=w.heap[b]?:=by
 rw [Below.heap_setCell _ ⟨B,5,none⟩ _ b h,Below.heap_setCell _ ⟨B,4,none⟩ _ b h,Below.heap_setCell _ ⟨B,3,none⟩ _ b h,Below.heap_setCell _ ⟨B,2,none⟩ _ b h,Below.heap_setCell _ ⟨B,1,none⟩ _ b h,Below.heap_setCell _ ⟨B,0,none⟩ _ b h]
theorem infoEx:(Tryz.prog.info? 45).map (fun i => (i.zero,i.size,i.bytes))=some (some (.agg #[.int .i64 0,.int .i64 0,.int .i64 0,.string ⟨#[]⟩,.string ⟨#[]⟩,.slice none 0 0]),6,80):=by kernel_rfl
end Gen
namespace GenE
open Go.RowKit
open ValM LexM NumM ExM Kit ExL ExP RawV Within RawL GenL Gen
set_option linter.unusedVariables false
theorem leaf_sizes {fs:List GenL.Fd} {kind:Int} {d:Nd} (hfs:∀ f ∈ fs,f.nm.size<=maxLen) (h:LeafD fs kind d):d.s.size<=maxLen/\d.nm.size<=maxLen:=by
 rcases h with ⟨_,h2,h3,h4,_⟩ | ⟨_,_,_,h4,f,hf,h5,_⟩
 ·refine ⟨?_,by rw [h2]; exact Nat.zero_le _⟩
  unfold knownB at h4
  simp only [Bool.and_eq_true,decide_eq_true_eq] at h4
  have hz:=h4.2
  unfold valE at hz
  by_cases hn:numE d.k d.n=0
  ·rw [if_pos hn] at hz
   unfold strE at hz
   by_cases h3:d.k=3
   ·rw [if_pos h3] at hz
    by_cases h40:40 < d.s.data.toList.length
    ·rw [if_pos h40] at hz; exact absurd hz (by decide)
    ·have:d.s.data.toList.length=d.s.size:=rfl
     unfold maxLen; omega
   ·rw [if_neg h3] at hz
    by_cases he:d.s.data.toList=[]
    ·have:d.s.data.toList.length=d.s.size:=rfl
     rw [he] at this; simp at this; unfold maxLen; omega
    ·rw [if_neg he] at hz; exact absurd hz (by decide)
  ·rw [if_neg hn] at hz; exact absurd hz hn
 ·exact ⟨by rw [h4]; exact Nat.zero_le _,by rw [← h5]; exact hfs f hf⟩
theorem five (q:Nat) (h:q < 5):([.int .i64 5,.int .i64 6,.int .i64 7,.int .i64 8,.int .i64 9]:List Value)[q]'(by simpa using h)=.int .i64 ((q:Int) + 5):=by
 obtain rfl | rfl | rfl | rfl | rfl:q=0 ∨ q=1 ∨ q=2 ∨ q=3 ∨ q=4:=by omega
 all_goals rfl
theorem cost_pos (k:Nat):2<=cost k:=by cases k <;> simp [cost]
end GenE
namespace GenT
open Go.RowKit
open ValM LexM NumM ExM Kit ExL ExP RawV Within RawL GenL Gen GenE
set_option linter.unusedVariables false
theorem leafD_ok {fs:List GenL.Fd} {kind:Int} {d:Nd} (hfs:∀ f ∈ fs,nmB f.nm.data.toList=true) (h:LeafD fs kind d):nodeE d 0=0:=by
 unfold nodeE
 rcases h with ⟨h1,h2,h3,h4,h5⟩ | ⟨h1,h2,h3,h4,f,hf,h6,h7⟩
 ·rw [if_neg (by omega),if_pos]
  refine ⟨by rw [h1]; rfl,?_,?_⟩
  ·unfold vOk
   rw [if_pos h1,h4]
   by_cases hk:d.k=1
   ·have:=h5 hk
    rw [decide_eq_false (show ¬ d.n < 0 by omega)]; simp
   ·rw [decide_eq_false hk]; simp
  ·unfold nmOk
   rw [if_neg (by omega),h2]; rfl
 ·rw [if_neg (by omega),if_pos]
  refine ⟨by rw [h1]; rfl,?_,?_⟩
  ·unfold vOk
   rw [if_neg (by omega),h2,h3,h4]; rfl
  ·unfold nmOk
   rw [if_pos h1,← h6]; exact hfs f hf
theorem opT_ok {op:Int} {ks:List Int} {kind:Int} (h:OpT op ks kind):nodeE ⟨op,0,0,⟨#[]⟩,⟨#[]⟩⟩ ks.length=0/\ks.length<=3:=by
 have hv:∀ o:Int,o ≠ 1->vOk ⟨o,0,0,⟨#[]⟩,⟨#[]⟩⟩=true:=fun o ho => by unfold vOk; rw [if_neg ho]; rfl
 have hn:∀ o:Int,o ≠ 2->nmOk ⟨o,0,0,⟨#[]⟩,⟨#[]⟩⟩=true:=fun o ho => by unfold nmOk; rw [if_neg ho]; rfl
 have key:∀ o:Int,3<=o->o<=18->∀ m,m=arity o->nodeE ⟨o,0,0,⟨#[]⟩,⟨#[]⟩⟩ m=0:=fun o h1 h2 m hm => by
  unfold nodeE
  rw [if_neg (show ¬ (o < 1 ∨ 18 < o) by omega),if_pos ⟨hm,hv o (by omega),hn o (by omega)⟩]
 have ar2:∀ o:Int,5<=o->o<=16->arity o=2:=fun o h1 h2 => by unfold arity; rw [if_neg (by omega),if_neg (by omega),if_neg (by omega)]
 rcases h with ⟨rfl,rfl⟩ | ⟨_,⟨rfl,rfl⟩ | ⟨rfl,rfl⟩ | ⟨h1,h2,rfl⟩⟩ | ⟨_,⟨rfl,rfl⟩ | ⟨h1,h2,rfl⟩ | ⟨j,_,_,h1,h2,rfl⟩⟩ | ⟨_,_,rfl,rfl⟩
 ·exact ⟨key 17 (by decide) (by decide) 3 rfl,by simp⟩
 ·exact ⟨key 3 (by decide) (by decide) 1 rfl,by simp⟩
 ·exact ⟨key 18 (by decide) (by decide) 1 rfl,by simp⟩
 ·exact ⟨key op (by omega) (by omega) 2 (ar2 op (by omega) (by omega)).symm,by simp⟩
 ·exact ⟨key 4 (by decide) (by decide) 1 rfl,by simp⟩
 ·exact ⟨key op (by omega) (by omega) 2 (ar2 op (by omega) (by omega)).symm,by simp⟩
 ·exact ⟨key op (by omega) (by omega) 2 (ar2 op (by omega) (by omega)).symm,by simp⟩
 ·exact ⟨key 10 (by decide) (by decide) 2 rfl,by simp⟩
def nb:Nat->Nat
 | 0 => 1
 | k + 1 => 1 + 3 * nb k
theorem nb_pos (k:Nat):1<=nb k:=by cases k <;> simp [nb]
theorem depthL_le {l:List Ex} {m:Nat} (h:∀ x ∈ l,x.depth<=m):depthL l<=m:=by
 induction l with
 | nil => simp [depthL_nil]
 | cons x l ih =>
  rw [depthL_cons]
  have h1:=h x (by simp)
  have h2:=ih fun y hy => h y (by simp [hy])
  omega
theorem nodesL_le {l:List Ex} {m:Nat} (h:∀ x ∈ l,x.nodes<=m):nodesL l<=l.length * m:=by
 induction l with
 | nil => simp [nodesL_nil]
 | cons x l ih =>
  rw [nodesL_cons,List.length_cons,Nat.add_mul,Nat.one_mul]
  have h1:=h x (by simp)
  have h2:=ih fun y hy => h y (by simp [hy])
  omega
theorem gn_ok {fs:List GenL.Fd} (hfs:∀ f ∈ fs,nmB f.nm.data.toList=true):∀ (k:Nat) (kind:Int) (x:Ex),Gn fs k kind x->x.okN/\x.depth<=k + 1/\x.nodes<=nb k:=by
 have leaf:∀ (k:Nat) (kind:Int) (x:Ex),(∃ d,x=.mk d []/\LeafD fs kind d)->x.okN/\x.depth<=k + 1/\x.nodes<=nb k:=fun k kind x ⟨d,hx,hl⟩ => by
  subst hx
  refine ⟨(okN_mk _ _).2 ⟨leafD_ok hfs hl,fun x hx => by simp at hx⟩,?_,?_⟩
  ·rw [depth_mk,depthL_nil]; omega
  ·rw [nodes_mk,nodesL_nil]; have:=nb_pos k; omega
 intro k
 induction k with
 | zero => intro kind x h; exact leaf 0 kind x h
 | succ k ih =>
  intro kind x h
  rcases h with h | ⟨op,ks,l,rfl,ho,hl,hg⟩
  ·exact leaf (k + 1) kind x h
  ·obtain ⟨o1,o2⟩:=opT_ok ho
   have hall:∀ y ∈ l,y.okN/\y.depth<=k + 1/\y.nodes<=nb k:=fun y hy => by
    obtain ⟨i,hi,rfl⟩:=List.mem_iff_getElem.1 hy
    exact ih _ _ (hg i hi (by omega))
   refine ⟨(okN_mk _ _).2 ⟨by rw [hl]; exact o1,fun y hy => (hall y hy).1⟩,?_,?_⟩
   ·rw [depth_mk]; have:=depthL_le fun y hy => (hall y hy).2.1; omega
   ·rw [nodes_mk]
    have h1:=nodesL_le fun y hy => (hall y hy).2.2
    have h2:l.length * nb k<=3 * nb k:=Nat.mul_le_mul_right _ (by omega)
    show _<=1 + 3 * nb k
    omega
end GenT
end Go.Proofs.YtjhhmdmmllblhaaGreatDoor
