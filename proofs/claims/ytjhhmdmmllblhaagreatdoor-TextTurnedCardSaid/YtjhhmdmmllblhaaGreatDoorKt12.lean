/- RkDir ShLists RkOf: what these laws name of them. -/
import Derived.Laws.CopyOwn
import Derived.RangeFuncRecord
import Derived.Test.YtjhhmdmmllblhaaGreatDoorKt09
import Derived.Test.YtjhhmdmmllblhaaGreatDoorKt10
import Derived.Test.YtjhhmdmmllblhaaGreatDoorKt11
namespace Go.Proofs.YtjhhmdmmllblhaaGreatDoor
set_option linter.unusedVariables false
namespace RkA
open Go.RowKit
open Kit RkM
set_option linter.unusedVariables false
def iV (r:List Int):List Value:=r.map (Value.int .i64)
theorem iV_len (r:List Int):(iV r).length=r.length:=List.length_map _
def IRow (w:World) (A:Option Addr) (r:List Int):Prop:=∀ (j:Nat) (h:j < r.length),∃ g,A=some ⟨g,0,none⟩/\w.cell? ⟨g,j,none⟩=some (.int .i64 (rk r j))
def NtRow (w:World) (A:Option Addr) (L:List Nat):Prop:=∀ (j:Nat) (h:j < L.length),∃ g,A=some ⟨g,0,none⟩/\w.cell? ⟨g,j,none⟩=some (.int .i64 (L[j]:Int))
theorem rk_at (r:List Int) (j:Nat) (h:j < r.length):rk r j=r[j]:=by unfold rk; rw [List.getD_eq_getElem?_getD,List.getElem?_eq_getElem h]; rfl
theorem IRow.of_own {w:World} {base:Nat} {v:Value} {r:List Int} (h:w.ownsRow base 3 1 v r.length (iV r)):∃ A c,v=.slice A r.length c/\IRow w A r:=by
 rcases h.2 with ⟨h1,h2⟩ | ⟨g,cap,cur,h1,_⟩
 ·exact ⟨none,0,by rw [h1,h2],fun j hj => by omega⟩
 ·subst h1
  refine ⟨some ⟨g,0,none⟩,cap,rfl,fun j hj => ⟨g,rfl,?_⟩⟩
  rw [h.cellAt j (by omega),List.getElem?_eq_getElem (by rw [iV_len]; exact hj),rk_at r j hj]
  unfold iV; rw [List.getElem_map]
theorem NtRow.below {w w':World} {A:Option Addr} {L:List Nat} (h:NtRow w A L) (hb:Below w.heap.size w w'):NtRow w' A L:=fun j hj => by
 obtain ⟨g,e,hc⟩:=h j hj
 exact ⟨g,e,(hb.cell (p:=⟨g,j,none⟩) (World.block_lt_of_cell? w _ hc)).trans hc⟩
theorem above_at {r:List Int} {L:List Nat} {k:Nat} (h:k < L.length) (a:Int):aboveI r (L.drop k) a=if rk r L[k]=-1 then -1 else aboveI r (L.drop (k + 1)) (max a (rk r L[k] + 1)):=by
 rw [List.drop_eq_getElem_cons h,aboveI]
set_option maxHeartbeats 2000000 in
theorem above_any (L:List Nat) (r:List Int) (A B:Option Addr) (c d:Nat) (w:World) (hn:L.length<=1048576) (hA:NtRow w A L) (hB:IRow w B r) (hin:∀ i ∈ L,i < r.length) (hr:r.length<=1048576) (hbd:Bd r 1000000) :
  Calls Tryz.prog 73 #[.slice A L.length c,.slice B r.length d] w fun e w' => e=.returned (.int .i64 (aboveI r L 0))/\w=w':=by
 obtain ⟨R,hR⟩:∃ R,aboveI r L 0=R:=⟨_,rfl⟩
 rw [hR]
 have HR:=Lib.hid hR
 have HA:=Lib.hid hA
 have HB:=Lib.hid hB
 have HI:=Lib.hid hin
 have HD:=Lib.hid hbd
 clear hR hA hB hin hbd
 go_enter Tryz.func73,Tryz.ntmps73
 go_wp2_with fail
 go_loopw [5,7,10] (fun a _ i wr => ∃ (k:Nat) (x:Int),k<=L.length/\i=.int .i64 k/\a=.int .i64 x/\0<=x/\x<=1000001/\wr=w/\aboveI r (L.drop k) x=R) (fun _ _ i _ => L.length - (intOf i).toNat)
 case atStart => exact ⟨0,0,by omega,rfl,rfl,by omega,by omega,rfl,HR.out⟩
 case round =>
  obtain ⟨k,x,hk,rfl,rfl,hx0,hx1,rfl,hf⟩:=hrel
  by_cases hlt:k < L.length
  ·obtain ⟨g,rfl,hc⟩:=HA.out k hlt
   have hpl:=HI.out L[k] (List.getElem_mem hlt)
   obtain ⟨g2,rfl,hc2⟩:=HB.out L[k] hpl
   rw [above_at hlt] at hf
   obtain ⟨h1,h2⟩:=HD.out L[k]
   generalize L[k]=p at hc hc2 hf hpl h1 h2
   generalize rk r p=v at hc2 hf h1 h2
   by_cases he:v=-1
   ·rw [if_pos he] at hf
    subst he
    obtain rfl:R=-1:=hf.symm
    clear hf HR
    go_wp2_with fail
    go_ret
    exact ⟨rfl,rfl⟩
   ·rw [if_neg he] at hf
    have t1:(v == -1)=false:=beq_eq_false_iff_ne.2 he
    have HF:=Lib.hid hf
    clear hf he
    go_wp2_with fail
    go_roundw
    case rel => exact ⟨k + 1,max x (v + 1),by omega,by go_num,by go_num,by omega,by omega,by first | trivial | rfl,HF.out⟩
    case measure => simp [intOf]; omega
  ·have hkl:k=L.length:=by omega
   rw [hkl,List.drop_length] at hf
   obtain rfl:x=R:=hf
   clear hkl
   go_wp2_with fail
   go_ret
   exact ⟨rfl,rfl⟩
end RkA
namespace RkB
open Go.RowKit
open Kit RkM RkA RegI
set_option linter.unusedVariables false
theorem infoInt:(Tryz.prog.info? 3).map (fun i => (i.zero,i.size,i.bytes))=some (some (.int .i64 0),1,8):=by kernel_rfl
theorem infoI1:(Tryz.prog.info? 3).map (·.size)=some 1:=by kernel_rfl
theorem info_parts1 {t:TypeId} {z:Value} {s b:Nat} (h:(Tryz.prog.info? t).map (fun i => (i.zero,i.size,i.bytes))=some (some z,s,b)):∃ i0,Tryz.prog.info? t=some i0/\i0.zero=some z/\i0.size=s/\i0.bytes=b:=by
 cases hi:Tryz.prog.info? t with
 | none => rw [hi] at h; cases h
 | some i0 =>
  rw [hi] at h
  simp only [Option.map_some,Option.some.injEq,Prod.mk.injEq] at h
  exact ⟨i0,rfl,h.1,h.2.1,h.2.2⟩
theorem own_blk {w:World} {base g n:Nat} {xs:List Value} {e:TypeId} (h:w.ownsRow base e 1 (.slice (some ⟨g,0,none⟩) n n) n xs):w.heap[g]?=some (.cells xs.toArray e (0,0)):=by
 rcases h.2 with ⟨h',_⟩ | ⟨g',cap',cur,h',hb,hg,hnc,hcm,hcs,htake⟩
 ·simp at h'
 ·simp only [Value.slice.injEq,Option.some.injEq,Addr.mk.injEq,and_true,true_and] at h'
  obtain ⟨rfl,rfl⟩:=h'
  rw [hg,← htake,List.take_of_length_le (by simp [hcs])]
theorem blk_own {w:World} {base g n:Nat} {xs:List Value} {e:TypeId} (h:w.heap[g]?=some (.cells xs.toArray e (0,0))) (hl:xs.length=n) (hb:base<=g) (hm:n<=maxLen):w.ownsRow base e 1 (.slice (some ⟨g,0,none⟩) n n) n xs :=
 ⟨by omega,.inr ⟨g,n,xs.toArray,rfl,hb,h,Nat.le_refl _,hm,by simp [hl],by simp [List.take_of_length_le (Nat.le_of_eq hl)]⟩⟩
theorem cell_of_blk {w:World} {g j:Nat} {X:List Value} {e:TypeId} (h:w.heap[g]?=some (.cells X.toArray e (0,0))):w.cell? ((⟨g,0,none⟩:Addr).add j)=X[j]?:=by
 have e1:((⟨g,0,none⟩:Addr).add j)=⟨g,j,none⟩:=by unfold Addr.add; split; rename_i h; subst h; rfl; exact congrArg (fun o => (⟨g,o,none⟩:Addr)) (Nat.zero_add j)
 rw [e1]; unfold World.cell?; rw [h]; simp
def RepOut (n:Nat) (w:World) (e:Ending) (w':World):Prop :=
 e=.returned (.slice (some ⟨w.heap.size,0,none⟩) n n)/\w'.ownsRow w.heap.size 3 1 (.slice (some ⟨w.heap.size,0,none⟩) n n) n (iV (List.replicate n (-1)))/\Below w.heap.size w w'
def FilledTo (X:List Value) (k:Nat):Prop:=∀ j,j < k->X[j]?=some (.int .i64 (-1))
theorem filled_all {X:List Value} (h:FilledTo X X.length):X=iV (List.replicate X.length (-1)):=by
 refine List.ext_getElem? fun j => ?_
 by_cases hj:j < X.length
 ·rw [h j hj]; unfold iV; rw [List.map_replicate,List.getElem?_replicate,if_pos hj]
 ·rw [List.getElem?_eq_none (by omega),List.getElem?_eq_none (by unfold iV; simp; omega)]
theorem filled_splice {X:List Value} {k m:Nat} (h:FilledTo X k) (hm:k + m<=X.length):FilledTo (splice X k (List.replicate m (.int .i64 (-1)))) (k + m):=fun j hj => by
 unfold splice
 by_cases h1:j < k
 ·rw [List.getElem?_append_left (by simp; omega),List.getElem?_take,if_pos h1,h j h1]
 ·rw [List.getElem?_append_right (by simp; omega),List.getElem?_append_left (by simp; omega),List.getElem?_replicate,if_pos (by simp; omega)]
set_option maxRecDepth 100000 in
set_option maxHeartbeats 4000000 in
theorem repeat_any (n B c:Nat) (w:World) (hn:n<=1000) (hB:B < w.heap.size) (hx:w.cell? ⟨B,0,none⟩=some (.int .i64 (-1))) :
  Calls Tryz.prog 72 #[.slice (some ⟨B,0,none⟩) 1 c,.int .i64 n] w (RepOut n w):=by
 obtain ⟨i0,hi,hz0,hz1,hz2⟩:=info_parts1 infoInt
 have hmul:∀ V:World,Calls Tryz.prog 108 #[.int .u64 1,.int .u64 n] V fun e w' => e=.returned (.tuple #[.int .u64 0,.int .u64 n])/\V=w':=fun V => by
  refine (Tryz.bits_Mul 1 n (by omega) (by omega) V).mono fun e w' hh => ?_
  rw [Nat.one_mul,Nat.div_eq_of_lt (by omega),Nat.mod_eq_of_lt (by omega)] at hh
  exact ⟨hh.1,hh.2.symm⟩
 have hwr:IntKind.u64.wrap (n:Int)=n:=IntWalk.u64_in _ (by omega)
 have hwr2:IntKind.i64.wrap (n:Int)=n:=IntWalk.i64_in _ (by omega)
 have hfin:∀ (X:List Value) (W:World),X.length=n->FilledTo X n->W.heap[w.heap.size]?=some (.cells X.toArray 3 (0,0))->Below w.heap.size w W->RepOut n w (.returned (.slice (some ⟨w.heap.size,0,none⟩) n n)) W:=fun X W hl hf hg hb => by
  refine ⟨rfl,?_,hb⟩
  subst hl
  rw [← filled_all hf]
  exact blk_own hg rfl (Nat.le_refl _) (by unfold maxLen; omega)
 have hst:∀ W:World,W.ownsRow w.heap.size 3 1 (.slice (some ⟨w.heap.size,0,none⟩) n n) n (madeCells (Value.int .i64 0).cells (n * 1)).toList->w.grownBy W none->(W.heap[w.heap.size]?=some (.cells (madeCells (Value.int .i64 0).cells (n * 1)).toList.toArray 3 (0,0))/\(madeCells (Value.int .i64 0).cells (n * 1)).toList.length=n/\Below w.heap.size w W)/\(∀ (j:Nat) (v:Value),(List.replicate (min 1 n) (Value.int .i64 (-1)))[j]?=some v->W.cell? ((⟨B,0,none⟩:Addr).add j)=some v):=fun W h1 h2 => by
  have hb:Below w.heap.size w W:=(Below.refl _ _).grown h2 (Nat.le_refl _) (fun k e => by cases e)
  refine ⟨⟨own_blk h1,by have:=h1.1; omega,hb⟩,fun j v hj => ?_⟩
  rw [List.getElem?_replicate] at hj
  by_cases h:j < min 1 n
  ·rw [if_pos h] at hj
   injection hj with hj
   obtain rfl:j=0:=by omega
   rw [← hj]
   exact (hb.cell (p:=⟨B,0,none⟩) hB).trans hx
  ·rw [if_neg h] at hj; cases hj
 have hrep1:∀ (X:List Value) (k m:Nat),FilledTo X k->k + m<=X.length->FilledTo (splice X k (List.replicate m (Value.int .i64 (-1)))) (k + m)/\(splice X k (List.replicate m (Value.int .i64 (-1)))).length=X.length:=fun X k m h hm => ⟨filled_splice h hm,length_splice _ _ _ (by simpa using hm)⟩
 have hone:∀ (m:Nat),∀ v ∈ List.replicate m (Value.int .i64 (-1)),v.oneCell'=true:=fun m v hv => by rw [List.eq_of_mem_replicate hv]; rfl
 have HSt:=Lib.hid hst
 have HRe:=Lib.hid hrep1
 have HOne:=Lib.hid hone
 clear hst hrep1 hone
 have HM:=Lib.hid hmul
 have HFin:=Lib.hid hfin
 have HX:=Lib.hid hx
 have n0:(0:Int)<=(n:Int):=by omega
 have n1:(n:Int)<=1000:=by omega
 clear hmul hfin hx
 go_enter Tryz.func72,Tryz.ntmps72
 go_wp2_with (first
  | (go_at_call 108; refine (HM.out _).mono ?_; rintro e w1 ⟨rfl,rfl⟩)
  | (at_make; refine wpList_make_full _ rfl _ _ 77 rfl w.heap.size 3 i0 _ 1 Tryz.underlying77 hi hz0 hz1 .i64 .i64 _ _ n rfl rfl (by first | rfl | simp [hwr,hwr2]) (by first | rfl | simp [hwr,hwr2]) (by rw [hz2]; omega) (by unfold maxLen; omega) (Nat.le_refl _) ?_; intro w1 hown hgrow; have H1:=Lib.hid (And.intro hown hgrow); clear hown hgrow)
  | (refine wpList_copy_splice (o:=⟨some 33,_,_,_,_,_⟩) rfl (.tmp 31) (.tmp 32) 77 77 rfl 3 Tryz.underlying77 infoI1 (some ⟨w.heap.size,0,none⟩) (some ⟨B,0,none⟩) n n 1 c rfl rfl w.heap.size 0 (madeCells (Value.int .i64 0).cells (n * 1)).toList 3 (HSt.out _ H1.out.1 H1.out.2).1.1 (List.replicate (min 1 n) (.int .i64 (-1))) (by rw [List.length_replicate]) (fun _ => ⟨rfl,_,rfl,(HSt.out _ H1.out.1 H1.out.2).2⟩) (by rw [List.length_replicate,(HSt.out _ H1.out.1 H1.out.2).1.2.1]; omega) (HOne.out _) w.heap.size w (HSt.out _ H1.out.1 H1.out.2).1.2.2 (Nat.le_refl _) ?_; intro w2 HG2 hb2; have HB2:=Lib.hid hb2; clear hb2))
 go_loopw [8] (fun s8 wr => ∃ (k:Nat) (X:List Value),s8=.int .i64 k/\k<=n/\(1<=k ∨ n=0)/\X.length=n/\FilledTo X k/\wr.heap[w.heap.size]?=some (.cells X.toArray 3 (0,0))/\Below w.heap.size w wr) (fun s8 _ => n - (intOf s8).toNat)
 case atStart =>
  have h1:=HRe.out (madeCells (Value.int .i64 0).cells (n * 1)).toList 0 (min 1 n) (fun j hj => absurd hj (by omega)) (by rw [(HSt.out _ H1.out.1 H1.out.2).1.2.1]; omega)
  rw [(HSt.out _ H1.out.1 H1.out.2).1.2.1,Nat.zero_add] at h1
  exact ⟨min 1 n,_,by simp,by omega,by omega,h1.2,h1.1,HG2.out,HB2.out⟩
 case round =>
  obtain ⟨k,X,rfl,hk,hk1,hl,hf,hg,hb⟩:=hrel
  by_cases hlt:k < n
  ·have hk1':1<=k:=by omega
   have hsrc:∀ (j:Nat) (v:Value),(List.replicate (min k (n - k)) (Value.int .i64 (-1)))[j]?=some v->wr.cell? ((⟨w.heap.size,0,none⟩:Addr).add j)=some v:=fun j v hj => by
    rw [List.getElem?_replicate] at hj
    by_cases h:j < min k (n - k)
    ·rw [if_pos h] at hj
     rw [cell_of_blk hg,hf j (by omega)]; exact hj
    ·rw [if_neg h] at hj; cases hj
   have hr1:=HRe.out X k (min k (n - k)) hf (by omega)
   have HR1:=Lib.hid hr1
   have HG:=Lib.hid hg
   have HS:=Lib.hid hsrc
   have HB:=Lib.hid hb
   have HL:=Lib.hid hl
   have ki:(k:Int) < (n:Int):=by omega
   have k1i:(1:Int)<=(k:Int):=by omega
   have hnk:¬ n=k:=by omega
   have hsl1:∀ V:World,(Instr.sliceAt 77 (.slice (some ⟨w.heap.size,0,none⟩) n n) (some (.int .i64 k)) none none).run Tryz.prog V=.ok (.slice (some ⟨w.heap.size,k,none⟩) (n - k) (n - k)) V:=fun V => by simp [go_sem,Tryz.underlying77,hnk,Nat.le_of_lt hlt]
   have hsl2:∀ V:World,(Instr.sliceAt 77 (.slice (some ⟨w.heap.size,0,none⟩) n n) none (some (.int .i64 k)) none).run Tryz.prog V=.ok (.slice (some ⟨w.heap.size,0,none⟩) k n) V:=fun V => by simp [go_sem,Tryz.underlying77,Nat.le_of_lt hlt]
   have hadd:∀ V:World,(do eqGuard .add 3 (.tmp 38) (.tmp 45) (.int .i64 k) (.int .i64 ((min k (n - k):Nat):Int)); binOp .add 3 (.int .i64 k) (.int .i64 ((min k (n - k):Nat):Int)):Sem Value).run Tryz.prog V=.ok (.int .i64 ((k + min k (n - k):Nat):Int)) V:=fun V => by
    rw [Int.natCast_add]; simp [go_sem,eqGuard,IntWalk.i64_in ((k:Int) + ((min k (n - k):Nat):Int)) (by omega)]
   clear hr1 hg hsrc hb hf hl hk1
   go_upto_region 9 with fail
   refine region_fill0 [(0,38),(1,39),(2,40),(3,41),(4,42),(5,43),(6,44),(7,45),(8,46),(9,8)] (JPW (fun i => match i with | 0 => .int .i64 k | 1 => .slice (some ⟨w.heap.size,0,none⟩) n n | 2 => .int .i64 k | 3 => .slice (some ⟨w.heap.size,k,none⟩) (n - k) (n - k) | 4 => .slice (some ⟨w.heap.size,0,none⟩) n n | 5 => .int .i64 k | 6 => .slice (some ⟨w.heap.size,0,none⟩) k n | 7 => .int .i64 ((min k (n - k):Nat):Int) | 8 => .int .i64 ((k + min k (n - k):Nat):Int) | 9 => .int .i64 ((k + min k (n - k):Nat):Int) | _ => undef) 7 9 (.int .i64 k) (fun V => V.heap[w.heap.size]?=some (.cells X.toArray 3 (0,0))/\(∀ (j:Nat) (v:Value),(List.replicate (min k (n - k)) (Value.int .i64 (-1)))[j]?=some v->V.cell? ((⟨w.heap.size,0,none⟩:Addr).add j)=some v)/\Below w.heap.size w V) (fun V => V.heap[w.heap.size]?=some (.cells (splice X k (List.replicate (min k (n - k)) (Value.int .i64 (-1)))).toArray 3 (0,0))/\Below w.heap.size w V)) (fun f => by simp only [fill,Act.put,List.setIfInBounds_toArray,List.set_cons_zero,List.set_cons_succ]; rfl) (by kernel_rfl) (by kernel_rfl) (by kernel_rfl) (jpw_start (⟨HG.out,HS.out,b_drew HB.out⟩) (by kernel_rfl)) ?_ ?_
   ·intro F hFr
    refine ⟨?_,?_,?_,?_,?_,?_,?_,?_,?_,?_,trivial⟩
    ·as_aux_lemma =>
     intro D f wx hJ hD hdep K9 hK
     have ew:f 9=_:=jpw_v0 hJ (by decide) hD
     exact stepF_val rfl (op_move rfl (v:=.int .i64 k) ((show _=f 9 from by rw [hFr]; kernel_rfl).trans ew)) (by rw [hFr,hFr]; kernel_rfl) (hK (updf f 0 (.int .i64 k)) _ (jpw_pure hJ (by decide) (by decide) rfl))
    ·as_aux_lemma =>
     intro D f wx hJ hD hdep K9 hK
     exact stepF_val rfl (op_move rfl (v:=.slice (some ⟨w.heap.size,0,none⟩) n n) (by rw [hFr]; kernel_rfl)) (by rw [hFr,hFr]; kernel_rfl) (hK (updf f 1 (.slice (some ⟨w.heap.size,0,none⟩) n n)) _ (jpw_pure hJ (by decide) (by decide) rfl))
    ·as_aux_lemma =>
     intro D f wx hJ hD hdep K9 hK
     have ew:f 9=_:=jpw_v0 hJ (by decide) hD
     exact stepF_val rfl (op_move rfl (v:=.int .i64 k) ((show _=f 9 from by rw [hFr]; kernel_rfl).trans ew)) (by rw [hFr,hFr]; kernel_rfl) (hK (updf f 2 (.int .i64 k)) _ (jpw_pure hJ (by decide) (by decide) rfl))
    ·as_aux_lemma =>
     intro D f wx hJ hD hdep K9 hK
     have e1:f 1=_:=hJ.1.1 1 (done hdep 1 (by kernel_rfl))
     have e2:f 2=_:=hJ.1.1 2 (done hdep 2 (by kernel_rfl))
     have hl:(Instr.sliceAt 77 (.slice (some ⟨w.heap.size,0,none⟩) n n) (some (.int .i64 k)) none none).run Tryz.prog wx=.ok (.slice (some ⟨w.heap.size,k,none⟩) (n - k) (n - k)) wx:=hsl1 wx
     exact stepF_val rfl (op_slice rfl (p:=.slice (some ⟨w.heap.size,0,none⟩) n n) ((show _=f 1 from by rw [hFr]; kernel_rfl).trans e1) (congrArg some ((show _=f 2 from by rw [hFr]; kernel_rfl).trans e2)) rfl rfl hl) (by rw [hFr,hFr]; kernel_rfl) (hK (updf f 3 (.slice (some ⟨w.heap.size,k,none⟩) (n - k) (n - k))) _ (jpw_pure hJ (by decide) (by decide) rfl))
    ·as_aux_lemma =>
     intro D f wx hJ hD hdep K9 hK
     exact stepF_val rfl (op_move rfl (v:=.slice (some ⟨w.heap.size,0,none⟩) n n) (by rw [hFr]; kernel_rfl)) (by rw [hFr,hFr]; kernel_rfl) (hK (updf f 4 (.slice (some ⟨w.heap.size,0,none⟩) n n)) _ (jpw_pure hJ (by decide) (by decide) rfl))
    ·as_aux_lemma =>
     intro D f wx hJ hD hdep K9 hK
     have ew:f 9=_:=jpw_v0 hJ (by decide) hD
     exact stepF_val rfl (op_move rfl (v:=.int .i64 k) ((show _=f 9 from by rw [hFr]; kernel_rfl).trans ew)) (by rw [hFr,hFr]; kernel_rfl) (hK (updf f 5 (.int .i64 k)) _ (jpw_pure hJ (by decide) (by decide) rfl))
    ·as_aux_lemma =>
     intro D f wx hJ hD hdep K9 hK
     have e4:f 4=_:=hJ.1.1 4 (done hdep 4 (by kernel_rfl))
     have e5:f 5=_:=hJ.1.1 5 (done hdep 5 (by kernel_rfl))
     have hl:(Instr.sliceAt 77 (.slice (some ⟨w.heap.size,0,none⟩) n n) none (some (.int .i64 k)) none).run Tryz.prog wx=.ok (.slice (some ⟨w.heap.size,0,none⟩) k n) wx:=hsl2 wx
     exact stepF_val rfl (op_slice rfl (p:=.slice (some ⟨w.heap.size,0,none⟩) n n) ((show _=f 4 from by rw [hFr]; kernel_rfl).trans e4) rfl (congrArg some ((show _=f 5 from by rw [hFr]; kernel_rfl).trans e5)) rfl hl) (by rw [hFr,hFr]; kernel_rfl) (hK (updf f 6 (.slice (some ⟨w.heap.size,0,none⟩) k n)) _ (jpw_pure hJ (by decide) (by decide) rfl))
    ·as_aux_lemma =>
     intro D f wx hJ hD hdep K9 hK
     have e3:f 3=_:=hJ.1.1 3 (done hdep 3 (by kernel_rfl))
     have e6:f 6=_:=hJ.1.1 6 (done hdep 6 (by kernel_rfl))
     obtain ⟨hA1,hA2,hA3⟩:=hJ.1.2.1 hD
     refine step_copy_splice rfl (.tmp 41) (.tmp 44) 77 77 rfl 3 Tryz.underlying77 infoI1 (some ⟨w.heap.size,k,none⟩) (some ⟨w.heap.size,0,none⟩) (n - k) (n - k) k n ((show _=f 3 from by rw [hFr]; kernel_rfl).trans e3) ((show _=f 6 from by rw [hFr]; kernel_rfl).trans e6) w.heap.size k X 3 hA1 (List.replicate (min k (n - k)) (.int .i64 (-1))) (by rw [List.length_replicate]) (fun _ => ⟨rfl,_,rfl,hA2⟩) (by rw [List.length_replicate,HL.out]; omega) (HOne.out _) w.heap.size w hA3 (Nat.le_refl _) ?_
     intro w4 HG4 hb4
     rw [List.length_replicate]
     have hk:=hK (updf f 7 (.int .i64 ((min k (n - k):Nat):Int))) w4 (jpw_eff hJ (by decide) rfl ⟨HG4.out,hb4⟩)
     rw [hFr] at hk ⊢
     exact hk
    ·as_aux_lemma =>
     intro D f wx hJ hD hdep K9 hK
     have e0:f 0=_:=hJ.1.1 0 (done hdep 0 (by kernel_rfl))
     have e7:f 7=_:=hJ.1.1 7 (done hdep 7 (by kernel_rfl))
     have hl:(do eqGuard .add 3 (.tmp 38) (.tmp 45) (.int .i64 k) (.int .i64 ((min k (n - k):Nat):Int)); binOp .add 3 (.int .i64 k) (.int .i64 ((min k (n - k):Nat):Int)):Sem Value).run Tryz.prog wx=.ok (.int .i64 ((k + min k (n - k):Nat):Int)) wx:=hadd wx
     exact stepF_val rfl (op_bin rfl (p:=.int .i64 k) (q:=.int .i64 ((min k (n - k):Nat):Int)) ((show _=f 0 from by rw [hFr]; kernel_rfl).trans e0) ((show _=f 7 from by rw [hFr]; kernel_rfl).trans e7) hl) (by rw [hFr,hFr]; kernel_rfl) (hK (updf f 8 (.int .i64 ((k + min k (n - k):Nat):Int))) _ (jpw_pure hJ (by decide) (by decide) rfl))
    ·as_aux_lemma =>
     intro D f wx hJ hD hdep K9 hK
     have hal:∀ j,j < 9->D j=true:=fun j hj => by match j,hj with | 0,_ => exact done hdep 0 (by kernel_rfl) | 1,_ => exact done hdep 1 (by kernel_rfl) | 2,_ => exact done hdep 2 (by kernel_rfl) | 3,_ => exact done hdep 3 (by kernel_rfl) | 4,_ => exact done hdep 4 (by kernel_rfl) | 5,_ => exact done hdep 5 (by kernel_rfl) | 6,_ => exact done hdep 6 (by kernel_rfl) | 7,_ => exact done hdep 7 (by kernel_rfl) | 8,_ => exact done hdep 8 (by kernel_rfl)
     have e8:f 8=_:=hJ.1.1 8 (done hdep 8 (by kernel_rfl))
     exact stepF_val rfl (op_assign rfl (v:=.int .i64 ((k + min k (n - k):Nat):Int)) ((show _=f 8 from by rw [hFr]; kernel_rfl).trans e8)) (by rw [hFr,hFr]; kernel_rfl) (hK (updf f 9 (.int .i64 ((k + min k (n - k):Nat):Int))) _ (jpw_last hJ (by decide) rfl hal))
   ·intro D f wx hJ hall
    obtain ⟨hG4,hB4⟩:=hJ.1.2.2 (hall 7 (by decide))
    have e9:f 9=.int .i64 ((k + min k (n - k):Nat):Int):=hJ.1.1 9 (hall 9 (by decide))
    have hk2:k + min k (n - k)<=n:=by omega
    have hk3:1<=min k (n - k):=by omega
    have HG4:=Lib.hid hG4
    have HB4:=Lib.hid hB4
    rw [e9]
    clear e9 hG4 hB4 hJ hall hsl1 hsl2 hadd
    go_roundw
    case rel => exact ⟨.int .i64 ((k + min k (n - k):Nat):Int),_,_,_,_,_,_,_,_,_,_,_,_,_,⟨k + min k (n - k),_,rfl,by omega,by omega,HR1.out.2.trans HL.out,HR1.out.1,HG4.out,HB4.out⟩,rfl⟩
    case measure => simp [intOf]; omega
  ·obtain rfl:k=n:=by omega
   have hO:=HFin.out X wr hl hf hg hb
   have HO:=Lib.hid hO
   clear hO hl hf hg hb hk1
   go_wp2_with fail
   go_ret
   exact HO.out
end RkB
namespace RkC
open Go.RowKit
open Kit RkM RkA RkB
set_option linter.unusedVariables false
def NsRow (w:World) (A:Option Addr) (ns:List (List Nat)):Prop:=∀ (i:Nat) (h:i < ns.length),∃ g,A=some ⟨g,0,none⟩/\∃ Ai ci,w.cell? ⟨g,i,none⟩=some (.slice Ai (nd ns i).length ci)/\NtRow w Ai (nd ns i)
theorem NsRow.below {w w':World} {A:Option Addr} {ns:List (List Nat)} (h:NsRow w A ns) (hb:Below w.heap.size w w'):NsRow w' A ns:=fun i hi => by
 obtain ⟨g,e,Ai,ci,hc,hr⟩:=h i hi
 exact ⟨g,e,Ai,ci,(hb.cell (p:=⟨g,i,none⟩) (World.block_lt_of_cell? w _ hc)).trans hc,hr.below hb⟩
def Okn (ns:List (List Nat)):Prop:=ns.length<=14/\∀ i,i < ns.length->(nd ns i).length<=1048576/\∀ j ∈ nd ns i,j < ns.length
def RanksOut (ns:List (List Nat)) (w:World) (e:Ending) (w':World):Prop :=
 ∃ v,e=.returned v/\w'.ownsRow w.heap.size 3 1 v ns.length (iV (rankF ns))/\Below w.heap.size w w'
theorem iV_set (r:List Int) (k:Nat) (u:Int):(iV r).set k (.int .i64 u)=iV (r.set k u):=by unfold iV; rw [List.map_set]
theorem iV_at (r:List Int) (k:Nat) (h:k < r.length):(iV r)[k]?=some (.int .i64 (rk r k)):=by
 rw [List.getElem?_eq_getElem (by rw [iV_len]; exact h),rk_at r k h]; unfold iV; rw [List.getElem_map]
theorem own_row {w:World} {base g n c:Nat} {r:List Int} (h:w.ownsRow base 3 1 (.slice (some ⟨g,0,none⟩) n c) n (iV r)) (hl:r.length=n):IRow w (some ⟨g,0,none⟩) r:=fun j hj => ⟨g,rfl,by
 rw [h.cellAt j (by omega),iV_at r j hj]⟩
structure RI (w:World) (g:Nat) (ns:List (List Nat)) (r:List Int) (wr:World):Prop where
 own:wr.ownsRow w.heap.size 3 1 (.slice (some ⟨g,0,none⟩) ns.length ns.length) ns.length (iV r)
 len:r.length=ns.length
 below:Below w.heap.size w wr
theorem RI.set {w:World} {g:Nat} {ns:List (List Nat)} {r:List Int} {wr:World} (h:RI w g ns r wr) (k:Nat) (u:Int):RI w g ns (r.set k u) (wr.setCell ⟨g,k,none⟩ (.int .i64 u)):=by
 refine ⟨by rw [← iV_set]; exact (h.own.stored k _).1,by rw [List.length_set,h.len],h.below.setCell (p:=⟨g,k,none⟩) (h.own.lt g rfl).1 _⟩
set_option maxRecDepth 100000 in
set_option maxHeartbeats 4000000 in
theorem ranked_any (ns:List (List Nat)) (A:Option Addr) (c:Nat) (w:World) (hk:Okn ns) (hA:NsRow w A ns) :
  Calls Tryz.prog 45 #[.slice A ns.length c] w (RanksOut ns w):=by
 obtain ⟨hn,hin⟩:=hk
 obtain ⟨W,hW⟩:∃ V,w.alloc (.cells #[.int .i64 (-1)] 3)=V:=⟨_,rfl⟩
 have hb0:=b_new w (.cells #[.int .i64 (-1)] 3)
 have hx0:W.cell? ⟨w.heap.size,0,none⟩=some (.int .i64 (-1)):=by
  rw [← hW]
  unfold World.cell?
  rw [World.alloc_heap_new w _]; rfl
 have hs0:w.heap.size < W.heap.size:=by rw [← hW]; simp
 rw [hW] at hb0
 have hrep:=repeat_any ns.length w.heap.size 1 W (by omega) hs0 hx0
 have hstart:∀ V:World,V.ownsRow W.heap.size 3 1 (.slice (some ⟨W.heap.size,0,none⟩) ns.length ns.length) ns.length (iV (List.replicate ns.length (-1)))->Below W.heap.size W V->RI w W.heap.size ns (passN ns 0) V:=fun V h1 h2 =>
  ⟨⟨h1.1,h1.2.imp id fun ⟨g,cap,cur,a,b,c⟩ => ⟨g,cap,cur,a,Nat.le_trans hb0.size b,c⟩⟩,pass_len ns 0,hb0.trans (h2.mono hb0.size)⟩
 have hbd:∀ p k:Nat,p < ns.length->k<=ns.length->Bd (sweepN ns (passN ns p) k) 1000000:=fun p k hp hk i => by
  have:=bd_sweep (ns:=ns) (bd_pass ns p) (Int.mul_nonneg (by omega) (by omega)) (pass_len ns p) k hk i
  have h2:(p:Int) * (ns.length:Int)<=14 * 14:=Int.mul_le_mul (by omega) (by omega) (by omega) (by omega)
  omega
 have habove:∀ (p k g:Nat) (wr:World) (Ai:Option Addr) (ci:Nat),p < ns.length->k < ns.length->RI w g ns (sweepN ns (passN ns p) k) wr->NtRow wr Ai (nd ns k)->Calls Tryz.prog 73 #[.slice Ai (nd ns k).length ci,.slice (some ⟨g,0,none⟩) ns.length ns.length] wr fun e w' => e=.returned (.int .i64 (aboveI (sweepN ns (passN ns p) k) (nd ns k) 0))/\wr=w':=fun p k g wr Ai ci hp hk hR hr => by
  have:=above_any (nd ns k) (sweepN ns (passN ns p) k) Ai (some ⟨g,0,none⟩) ci ns.length wr (hin k hk).1 hr (own_row hR.own hR.len) (fun i hi => by rw [hR.len]; exact (hin k hk).2 i hi) (by rw [hR.len]; omega) (hbd p k hp (by omega))
  rw [hR.len] at this
  exact this
 have HA:=Lib.hid hA
 have HR:=Lib.hid hrep
 have HS:=Lib.hid hstart
 have HAb:=Lib.hid habove
 have HW:=Lib.hid hW
 have HB0:=Lib.hid hb0
 clear hA hrep hstart hbd habove hW hb0 hx0
 go_enter Tryz.func45,Tryz.ntmps45
 go_wp2_with (go_at_call 72; rw [HW.out]; refine HR.out.mono ?_; rintro e w1 ⟨rfl,hown,hb1⟩; have hS:=HS.out w1 hown hb1; have HS1:=Lib.hid hS; clear hS hown hb1)
 generalize W.heap.size=g at HS1 ⊢
 go_loopw [4,5,12] (fun _ _ ii wr => ∃ p:Nat,ii=.int .i64 p/\p<=ns.length/\RI w g ns (passN ns p) wr) (fun _ _ ii _ => ns.length - (intOf ii).toNat)
 case atStart => exact ⟨0,rfl,by omega,HS1.out⟩
 case round =>
  obtain ⟨p,rfl,hp,hI⟩:=hrel
  have HI:=Lib.hid hI
  clear hI
  by_cases hlt:p < ns.length
  ·obtain ⟨Wp,rfl⟩:∃ V,V=wr:=⟨_,rfl⟩
   go_wp2_with fail
   go_loopw [4,5,16] (fun _ _ ii wr => ∃ k:Nat,ii=.int .i64 k/\k<=ns.length/\RI w g ns (sweepN ns (passN ns p) k) wr) (fun _ _ ii _ => ns.length - (intOf ii).toNat)
   case atStart => exact ⟨0,rfl,by omega,HI.out⟩
   case round =>
    obtain ⟨k,rfl,hk,hV⟩:=hrel
    by_cases hkl:k < ns.length
    ·obtain ⟨g2,rfl,Ai,ci,hc,hr⟩:=HA.out.below hV.below k hkl
     have hab:=HAb.out p k g wr Ai ci hlt hkl hV hr
     have hset:=hV.set k (aboveI (sweepN ns (passN ns p) k) (nd ns k) 0)
     have hcell:wr.cell? ⟨g,k,none⟩=some (.int .i64 (rk (sweepN ns (passN ns p) k) k)):=by rw [hV.own.cellAt k (by omega),iV_at _ _ (by rw [hV.len]; exact hkl)]
     have hfz:=hV.own.frozenAt k
     have hnext:RI w g ns (sweepN ns (passN ns p) (k + 1)) (wr.setCell ⟨g,k,none⟩ (.int .i64 (aboveI (sweepN ns (passN ns p) k) (nd ns k) 0))):=hset
     generalize aboveI (sweepN ns (passN ns p) k) (nd ns k) 0=u at hab hnext
     generalize rk (sweepN ns (passN ns p) k) k=u0 at hcell
     have HAB:=Lib.hid hab
     have HN:=Lib.hid hnext
     have hki:(k:Int) < (ns.length:Int):=by omega
     clear hab hset hnext hr hV
     go_wp2_with (go_at_call 73; refine HAB.out.mono ?_; rintro e w1 ⟨rfl,rfl⟩)
     go_roundw
     case rel => exact ⟨k + 1,by go_num,by omega,HN.out⟩
     case measure => simp [intOf]; omega
    ·obtain rfl:k=ns.length:=by omega
     have HV:=Lib.hid hV
     clear hV
     go_wp2_with fail
     go_roundw
     case rel => exact ⟨p + 1,by go_num,by omega,HV.out⟩
     case measure => simp [intOf]; omega
  ·obtain rfl:p=ns.length:=by omega
   go_wp2_with fail
   go_ret
   exact ⟨_,rfl,HI.out.own,HI.out.below⟩
end RkC
namespace RkD
open Go.RowKit
open ValM LexM NumM ExM NmM Kit ExL ExP ExN ExC RawV Within RawL GenL FldP FldR FldC NmO NmA NmI NmT NmR RkM RkA RkB RkC
set_option linter.unusedVariables false
def plN (fs:List GenL.Fd) (s:ByteArray):Nat:=if atF fs s < fs.length then atF fs s else 0
def needF (fs:List GenL.Fd) (X:Nat->Ex) (k:Nat):List Nat :=
 if h:k < fs.length then (if fs[k].kind=1 then [] else (mkL (ofL (X k))).map (plN fs)) else []
def needsF (fs:List GenL.Fd) (X:Nat->Ex):List (List Nat):=(List.range fs.length).map (needF fs X)
theorem needsF_len (fs:List GenL.Fd) (X:Nat->Ex):(needsF fs X).length=fs.length:=by unfold needsF; simp
theorem needsF_nd (fs:List GenL.Fd) (X:Nat->Ex) (k:Nat) (h:k < fs.length):nd (needsF fs X) k=needF fs X k:=by
 unfold nd needsF
 rw [List.getD_eq_getElem?_getD,List.getElem?_map,List.getElem?_range h]; rfl
theorem ofL_len (x:Ex):(ofL x).length<=60:=by
 unfold ofL
 by_cases h:x.checkE=0
 ·rw [if_pos h]
  have h1:=rise_len (bytesL (Ex.refs x))
  have h2:=refs_len x
  have h3:=(checkE_zero h).1
  have h4:(bytesL (Ex.refs x)).length=(Ex.refs x).length:=List.length_map _
  omega
 ·rw [if_neg h]; simp
theorem plN_lt (fs:List GenL.Fd) (s:ByteArray) (h:0 < fs.length):plN fs s < fs.length:=by unfold plN; split <;> omega
theorem needsF_ok (fs:List GenL.Fd) (X:Nat->Ex) (h:fs.length<=14):Okn (needsF fs X):=by
 refine ⟨by rw [needsF_len]; exact h,fun i hi => ?_⟩
 rw [needsF_len] at hi ⊢
 rw [needsF_nd _ _ _ hi]
 unfold needF
 rw [dif_pos hi]
 split
 ·exact ⟨by simp,fun j hj => by simp at hj⟩
 ·refine ⟨?_,fun j hj => ?_⟩
  ·rw [List.length_map,mkL_len]; have:=ofL_len (X i); omega
  ·obtain ⟨s,_,rfl⟩:=List.mem_map.1 hj
   exact plN_lt fs s (by omega)
def nV (L:List Nat):List Value:=L.map fun (j:Nat) => Value.int .i64 (j:Int)
theorem nV_len (L:List Nat):(nV L).length=L.length:=List.length_map _
theorem nV_snoc (L:List Nat) (j:Nat):nV (L ++ [j])=nV L ++ [.int .i64 (j:Int)]:=by unfold nV; rw [List.map_append]; rfl
def NtP (P:Nat->Prop) (w:World) (A:Option Addr) (L:List Nat):Prop:=∀ (j:Nat) (h:j < L.length),∃ g,A=some ⟨g,0,none⟩/\P g/\w.cell? ⟨g,j,none⟩=some (.int .i64 (L[j]:Int))
theorem NtP.row {P:Nat->Prop} {w:World} {A:Option Addr} {L:List Nat} (h:NtP P w A L):NtRow w A L:=fun j hj => by
 obtain ⟨g,e,_,hc⟩:=h j hj
 exact ⟨g,e,hc⟩
theorem NtP.keep {P Q:Nat->Prop} {w w':World} {A:Option Addr} {L:List Nat} (h:NtP P w A L) (hk:∀ b,P b->b < w.heap.size->w'.heap[b]?=w.heap[b]?) (hq:∀ b,P b->b < w.heap.size->Q b):NtP Q w' A L:=fun j hj => by
 obtain ⟨g,e,hp,hc⟩:=h j hj
 have hl:g < w.heap.size:=World.block_lt_of_cell? w _ hc
 exact ⟨g,e,hq _ hp hl,(World.cell?_of_block (a:=⟨g,j,none⟩) (hk _ hp hl)).trans hc⟩
theorem NtP.of_own {w:World} {base:Nat} {v:Value} {L:List Nat} (h:w.ownsRow base 3 1 v L.length (nV L)):∃ A c,v=.slice A L.length c/\NtP (fun b => base<=b) w A L:=by
 rcases h.2 with ⟨h1,h2⟩ | ⟨g,cap,cur,h1,hb,_⟩
 ·exact ⟨none,0,by rw [h1,h2],fun j hj => by omega⟩
 ·subst h1
  refine ⟨some ⟨g,0,none⟩,cap,rfl,fun j hj => ⟨g,rfl,hb,?_⟩⟩
  rw [h.cellAt j (by omega),List.getElem?_eq_getElem (by rw [nV_len]; exact hj)]
  unfold nV; rw [List.getElem_map]
def nilS:Value:=.slice none 0 0
structure DI (w:World) (ns:List (List Nat)) (k:Nat) (dn:List Nat) (v:Value) (C:List Value) (wr:World):Prop where
 row:wr.ownsRow w.heap.size 77 1 (.slice (some ⟨w.heap.size,0,none⟩) ns.length ns.length) ns.length C
 cur:k < ns.length->C[k]?=some v
 own:wr.ownsRow (w.heap.size + 1) 3 1 v dn.length (nV dn)
 fin:∀ i,i < k->∃ A c,C[i]?=some (.slice A (nd ns i).length c)/\NtP (fun b => w.heap.size < b/\some b ≠ v.ownBlock) wr A (nd ns i)
 rest:∀ i,k < i->i < ns.length->C[i]?=some nilS
 below:Below w.heap.size w wr
theorem DI.keep {w:World} {ns:List (List Nat)} {k:Nat} {dn:List Nat} {v:Value} {C:List Value} {wr w':World} (h:DI w ns k dn v C wr) (hb:Below wr.heap.size wr w'):DI w ns k dn v C w' :=
 ⟨GenL.own_below h.row hb,h.cur,GenL.own_below h.own hb,fun i hi => by
  obtain ⟨A,c,e,hn⟩:=h.fin i hi
  exact ⟨A,c,e,hn.keep (fun b _ hl => hb.block b hl) (fun b hp _ => hp)⟩,h.rest,h.below.trans (hb.mono h.below.size)⟩
theorem DI.next {w:World} {ns:List (List Nat)} {k:Nat} {v:Value} {C:List Value} {wr:World} (h:DI w ns k (nd ns k) v C wr) (hk:k < ns.length):DI w ns (k + 1) [] nilS C wr:=by
 refine ⟨h.row,fun hk1 => h.rest (k + 1) (by omega) hk1,World.ownsRow_nil _ _ _ _,fun i hi => ?_,fun i hi1 hi2 => h.rest i (by omega) hi2,h.below⟩
 by_cases e:i=k
 ·subst e
  obtain ⟨A,c,e1,hn⟩:=NtP.of_own h.own
  exact ⟨A,c,by rw [h.cur hk,e1],hn.keep (fun _ _ _ => rfl) (fun b hb _ => ⟨by omega,by simp [nilS,Value.ownBlock]⟩)⟩
 ·obtain ⟨A,c,e1,hn⟩:=h.fin i (by omega)
  exact ⟨A,c,e1,hn.keep (fun _ _ _ => rfl) (fun b hb _ => ⟨hb.1,by simp [nilS,Value.ownBlock]⟩)⟩
theorem DI.done {w:World} {ns:List (List Nat)} {C:List Value} {wr:World} (h:DI w ns ns.length [] nilS C wr):NsRow wr (some ⟨w.heap.size,0,none⟩) ns:=fun i hi => by
 obtain ⟨A,c,e,hn⟩:=h.fin i hi
 exact ⟨w.heap.size,rfl,A,c,by rw [h.row.cellAt i (by omega),e],hn.row⟩
theorem DI.step {w:World} {ns:List (List Nat)} {k:Nat} {dn:List Nat} {v:Value} {C:List Value} {wr w6:World} {j gg cap:Nat} {tmp:Obj} (h:DI w ns k dn v C wr) (hk:k < ns.length)
  (hown6:w6.ownsRow (w.heap.size + 1) 3 1 (.slice (some ⟨gg,0,none⟩) (dn.length + 1) cap) (dn.length + 1) (nV dn ++ [.int .i64 (j:Int)])) (hgrow6:(wr.alloc tmp).grownBy w6 v.ownBlock) (hat6:v.ownBlock=some gg ∨ gg=wr.heap.size + 1) :
  DI w ns k (dn ++ [j]) (.slice (some ⟨gg,0,none⟩) (dn.length + 1) cap) (C.set k (.slice (some ⟨gg,0,none⟩) (dn.length + 1) cap)) (w6.setCell ⟨w.heap.size,k,none⟩ (.slice (some ⟨gg,0,none⟩) (dn.length + 1) cap)):=by
 have hgg:w.heap.size + 1<=gg:=(hown6.lt gg rfl).1
 have hge:Value.ownBlock (.slice (some ⟨gg,0,none⟩) (dn.length + 1) cap)=some gg:=rfl
 have hwl:w.heap.size < wr.heap.size:=(h.row.lt _ rfl).2
 have hne0:some w.heap.size ≠ v.ownBlock:=fun e => by have:=(h.own.lt _ e.symm).1; omega
 have hrow6:w6.ownsRow w.heap.size 77 1 (.slice (some ⟨w.heap.size,0,none⟩) ns.length ns.length) ns.length C:=(h.row.alloc tmp).kept hgrow6 (.inr hne0)
 have f0:∀ b,b < wr.heap.size->b ≠ w.heap.size->some b ≠ v.ownBlock->(w6.setCell ⟨w.heap.size,k,none⟩ (.slice (some ⟨gg,0,none⟩) (dn.length + 1) cap)).heap[b]?=wr.heap[b]?:=fun b hl h1 h2 =>
  (Below.heap_setCell w6 ⟨w.heap.size,k,none⟩ _ b h1).trans (NmR.app_keep hgrow6 hl h2)
 have hCl:C.length=ns.length:=by have:=h.row.1; omega
 refine ⟨(hrow6.stored k _).1,fun _ => by rw [List.getElem?_set_self (by omega)],?_,fun i hi => ?_,fun i hi1 hi2 => ?_,?_⟩
 ·rw [List.length_append,nV_snoc]
  refine World.ownsRow.kept (row:=some w.heap.size) hown6 (hrow6.stored k _).2 (.inr ?_)
  rw [hge]; intro e; injection e with e; omega
 ·obtain ⟨A,c,e,hn⟩:=h.fin i hi
  refine ⟨A,c,by rw [List.getElem?_set_ne (by omega)]; exact e,hn.keep (fun b hb hl => f0 b hl (by omega) hb.2) (fun b hb hl => ⟨hb.1,?_⟩)⟩
  rw [hge]; intro e; injection e with e
  rcases hat6 with g | g
  ·exact hb.2 (by rw [g,e])
  ·omega
 ·rw [List.getElem?_set_ne (by omega)]; exact h.rest i hi1 hi2
 ·have h1:=h.below.size
  have h2:=hgrow6.size
  refine ⟨hgrow6.os.trans h.below.os,hgrow6.tape.trans h.below.tape,hgrow6.output.trans h.below.output,by simp [World.setCell] at h2 ⊢; omega,fun b hb => ?_⟩
  exact (f0 b (by omega) (by omega) (fun e => by have:=(h.own.lt _ e.symm).1; omega)).trans (h.below.block b hb)
theorem DI.cells {w:World} {ns:List (List Nat)} {k:Nat} {dn:List Nat} {v:Value} {C:List Value} {wr:World} (h:DI w ns k dn v C wr) (hk:k < ns.length):wr.cell? ⟨w.heap.size,k,none⟩=some v/\wr.frozen? ⟨w.heap.size,k,none⟩=false/\w.heap.size < wr.heap.size :=
 ⟨by rw [h.row.cellAt k (by omega),h.cur hk],h.row.frozenAt k,(h.row.lt _ rfl).2⟩
theorem DI.cells6 {w:World} {ns:List (List Nat)} {k:Nat} {dn:List Nat} {v:Value} {C:List Value} {wr w6:World} {tmp:Obj} (h:DI w ns k dn v C wr) (hk:k < ns.length) (hgrow6:(wr.alloc tmp).grownBy w6 v.ownBlock):w6.cell? ⟨w.heap.size,k,none⟩=some v/\w6.frozen? ⟨w.heap.size,k,none⟩=false:=by
 have hne0:some w.heap.size ≠ v.ownBlock:=fun e => by have:=(h.own.lt _ e.symm).1; omega
 have hrow6:w6.ownsRow w.heap.size 77 1 (.slice (some ⟨w.heap.size,0,none⟩) ns.length ns.length) ns.length C:=(h.row.alloc tmp).kept hgrow6 (.inr hne0)
 exact ⟨by rw [hrow6.cellAt k (by omega),h.cur hk],hrow6.frozenAt k⟩
def SRowB (base:Nat) (w:World) (A:Option Addr) (L:List ByteArray):Prop:=∀ (j:Nat) (h:j < L.length),∃ g,A=some ⟨g,0,none⟩/\base<=g/\w.cell? ⟨g,j,none⟩=some (.string L[j])
theorem SRowB.of_own {w:World} {base:Nat} {v:Value} {M:List Bs} (h:w.ownsRow base 9 1 v M.length (M.map encStr)):∃ A c,v=.slice A M.length c/\SRowB base w A (mkL M):=by
 rcases h.2 with ⟨h1,h2⟩ | ⟨g,cap,cur,h1,hb,_⟩
 ·exact ⟨none,0,by rw [h1,h2],fun j hj => by rw [mkL_len] at hj; omega⟩
 ·subst h1
  refine ⟨some ⟨g,0,none⟩,cap,rfl,fun j hj => ⟨g,rfl,hb,?_⟩⟩
  have hj2:j < M.length:=by rw [mkL_len] at hj; exact hj
  rw [h.cellAt j (by omega),enc_at M j hj2]
  have e:(mkL M)[j]=mkB M[j]:=List.getElem_map _
  rw [e]
structure Kq (R:Nat) (a b:World):Prop where
 size:a.heap.size<=b.heap.size
 block:∀ c,c < a.heap.size->c ≠ R->b.heap[c]?=a.heap[c]?
theorem SRowB.kq {R base:Nat} {w w':World} {A:Option Addr} {L:List ByteArray} (h:SRowB base w A L) (hR:R < base) (hk:Kq R w w'):SRowB base w' A L:=fun j hj => by
 obtain ⟨g,e,hb,hc⟩:=h j hj
 have hl:g < w.heap.size:=World.block_lt_of_cell? w _ hc
 exact ⟨g,e,hb,(World.cell?_of_block (a:=⟨g,j,none⟩) (hk.block g hl (by omega))).trans hc⟩
theorem Kq.step {R k:Nat} {w6 wr w8:World} {v u:Value} {tmp:Obj} (h:Kq R w6 wr) (hv:∀ b,v.ownBlock=some b->w6.heap.size<=b) (hg:(wr.alloc tmp).grownBy w8 v.ownBlock):Kq R w6 (w8.setCell ⟨R,k,none⟩ u):=by
 have h2:=hg.size
 refine ⟨by have:=h.size; simp [World.setCell] at h2 ⊢; omega,fun c hc hne => ?_⟩
 refine (Below.heap_setCell w8 ⟨R,k,none⟩ _ c hne).trans ((NmR.app_keep hg (by have:=h.size; omega) (fun e => by have:=hv c e.symm; omega)).trans (h.block c hc hne))
def DirOut (ns:List (List Nat)) (w:World) (e:Ending) (w':World):Prop :=
 ∃ A c,e=.returned (.slice A ns.length c)/\NsRow w' A ns/\Below w.heap.size w w'/\∀ g,A=some ⟨g,0,none⟩->∃ cs,w'.heap[g]?=some (.cells cs 77 (0,0))
theorem infoSl:(Tryz.prog.info? 77).map (fun i => (i.zero,i.size,i.bytes))=some (some (.slice none 0 0),1,24):=by kernel_rfl
theorem di_start {w w1:World} {ns:List (List Nat)} (h:w1.ownsRow w.heap.size 77 1 (.slice (some ⟨w.heap.size,0,none⟩) ns.length ns.length) ns.length (madeCells (Value.slice none 0 0).cells (ns.length * 1)).toList) (hg:w.grownBy w1 none):DI w ns 0 [] nilS (madeCells (Value.slice none 0 0).cells (ns.length * 1)).toList w1:=by
 have e:(madeCells (Value.slice none 0 0).cells (ns.length * 1)).toList=List.replicate ns.length nilS:=by
  rw [Nat.mul_one]; exact toList_madeCells_one _ _
 rw [e] at h ⊢
 exact ⟨h,fun hk => by rw [List.getElem?_replicate,if_pos hk],World.ownsRow_nil _ _ _ _,fun i hi => absurd hi (by omega),fun i _ hi => by rw [List.getElem?_replicate,if_pos hi],(Below.refl _ _).grown hg (Nat.le_refl _) (fun k e => by cases e)⟩
set_option maxRecDepth 100000 in
set_option maxHeartbeats 8000000 in
theorem direct_any (fs:List GenL.Fd) (X:Nat->Ex) (FA:Option Addr) (fc:Nat) (w:World) (hm:fs.length<=14) (hf:Flds w FA fs) (hX:Forms w fs X) (hT:Tab w) :
  Calls Tryz.prog 44 #[.slice FA fs.length fc] w (DirOut (needsF fs X) w):=by
 obtain ⟨i0,hi,hz0,hz1,hz2⟩:=info_parts1 infoInt
 obtain ⟨s0,hsi,hsz0,hsz1,hsz2⟩:=info_parts1 infoSl
 obtain ⟨ns,hns⟩:∃ ns,needsF fs X=ns:=⟨_,rfl⟩
 have hnl:ns.length=fs.length:=by rw [← hns,needsF_len]
 have hnd:∀ k,k < fs.length->nd ns k=needF fs X k:=fun k hk => by rw [← hns,needsF_nd _ _ _ hk]
 rw [hns]
 have hst:=fun w1 => di_start (w:=w) (w1:=w1) (ns:=ns)
 rw [hnl] at hst
 have hfin:∀ C wr,DI w ns fs.length [] nilS C wr->DirOut ns w (.returned (.slice (some ⟨w.heap.size,0,none⟩) fs.length fs.length)) wr:=fun C wr h => by
  rw [← hnl] at h
  exact ⟨some ⟨w.heap.size,0,none⟩,fs.length,by rw [hnl],h.done,h.below,fun g e => by
   injection e with e; injection e with e _ _
   rw [← e]; exact ⟨_,own_blk h.row⟩⟩
 have HF:=Lib.hid hf
 have HX:=Lib.hid hX
 have HT:=Lib.hid hT
 have HNd:=Lib.hid hnd
 have HSt:=Lib.hid hst
 have HFin:=Lib.hid hfin
 have HNl:=Lib.hid hnl
 clear hf hX hT hnd hst hfin hnl hns
 go_enter Tryz.func44,Tryz.ntmps44
 go_wp2_with ((at_make; refine wpList_make_full _ rfl _ _ 97 rfl w.heap.size 77 s0 _ 1 Tryz.underlying97 hsi hsz0 hsz1 .i64 .i64 _ _ fs.length rfl rfl rfl rfl (by rw [hsz2]; omega) (by unfold maxLen; omega) (Nat.le_refl _) ?_; intro w1 hown hgrow))
 have hI:=HSt.out w1 hown hgrow
 have HI:=Lib.hid hI
 clear hI hown hgrow
 go_wp2_with fail
 go_loopw [4,5,6,7,9,10,11,17] (fun _ _ _ _ _ _ _ ii wr => ∃ (k:Nat) (C:List Value),ii=.int .i64 k/\k<=fs.length/\DI w ns k [] nilS C wr) (fun _ _ _ _ _ _ _ ii _ => fs.length - (intOf ii).toNat)
 case atStart => exact ⟨0,_,rfl,by omega,HI.out⟩
 case round =>
  obtain ⟨k,C,rfl,hk,hV⟩:=hrel
  by_cases hlt:k < fs.length
  ·obtain ⟨ad,rfl,hat⟩:=HF.out.below hV.below k hlt
   obtain ⟨q0,q1,q2,q3,q4,q5,q6,q7,q8⟩:=hat
   obtain ⟨hs,his⟩:=HX.out.below hV.below k hlt
   have hnk:=HNd.out k hlt
   unfold needF at hnk
   rw [dif_pos hlt] at hnk
   have hT5:=HT.out.below hV.below
   obtain ⟨f,hfk⟩:∃ f,fs[k]=f:=⟨_,rfl⟩
   rw [hfk] at q0 q1 q2 q3 q4 q5 q6 q7 q8 hs his hnk
   obtain ⟨W5,hW5⟩:∃ V,wr.alloc (.cells #[.string f.nm,.int .i64 f.kind,.int .i64 f.ty,.int .i64 f.d.op,.int .i64 f.d.k,.int .i64 f.d.n,.string f.d.s,.string f.d.nm,.slice f.A f.n f.c] 47)=V:=⟨_,rfl⟩
   obtain ⟨B9,hB9⟩:∃ B,wr.heap.size=B:=⟨_,rfl⟩
   have hb5:=b_new wr (.cells #[.string f.nm,.int .i64 f.kind,.int .i64 f.ty,.int .i64 f.d.op,.int .i64 f.d.k,.int .i64 f.d.n,.string f.d.s,.string f.d.nm,.slice f.A f.n f.c] 47)
   have hcell:=head_cells wr f
   unfold rightHead at hcell
   rw [hW5,hB9] at hcell
   rw [hW5] at hb5
   have hof:=NmO.of_any (X k) f.d f.A f.n f.c W5 (his.below hb5) (hT5.below hb5)
   have hV5:=hV.keep hb5
   have hlen:=ofL_len (X k)
   have hkl:k < ns.length:=by rw [HNl.out]; exact hlt
   generalize hM:ofL (X k)=M at hof hnk hlen
   have HOf:=Lib.hid hof
   have HV5:=Lib.hid hV5
   have HCell:=Lib.hid hcell
   have HW5:=Lib.hid hW5
   have HB9:=Lib.hid hB9
   have HNk:=Lib.hid hnk
   obtain ⟨k0,k1,k2,k3,k4,k5,k6,k7,k8⟩:=hcell W5 (Below.refl _ _)
   clear hof hV5 hcell hW5 hB9 hb5 his hT5 hs hfk hV hnk hM
   by_cases h1:f.kind=1
   ·have t1:(f.kind == 1)=true:=beq_iff_eq.2 h1
    have hnk:=HNk.out
    rw [if_pos h1] at hnk
    have hN:=DI.next (by rw [hnk]; exact HV5.out) hkl
    have HN:=Lib.hid hN
    clear hnk hN h1
    go_wp2_with fail
    rw [HW5.out]
    go_roundw
    case rel => exact ⟨k + 1,C,by go_num,by omega,HN.out⟩
    case measure => simp [intOf]; omega
   ·have t1:(f.kind == 1)=false:=beq_eq_false_iff_ne.2 h1
    have hnk:=HNk.out
    rw [if_neg h1] at hnk
    have HNk:=Lib.hid hnk
    clear hnk h1
    go_wp2_with fail
    rw [HW5.out,HB9.out]
    go_wp2_with fail
    refine HOf.out.mono ?_; rintro e w6 ⟨v6,rfl,hown6,hb6⟩
    obtain ⟨A6,c6,rfl,hr6⟩:=SRowB.of_own hown6
    have hRl:w.heap.size < W5.heap.size:=(HV5.out.row.lt _ rfl).2
    have hV6:=HV5.out.keep hb6
    have HV6:=Lib.hid hV6
    have HR6:=Lib.hid hr6
    clear hown6 hr6 hV6 hb6
    go_wp2_with fail
    go_loopw [9,10,11,33] (fun _ _ _ ii wr => ∃ (m:Nat) (v:Value) (C:List Value),ii=.int .i64 m/\m<=M.length/\DI w ns k (((mkL M).take m).map (plN fs)) v C wr/\Kq w.heap.size w6 wr/\∀ b,v.ownBlock=some b->w6.heap.size<=b) (fun _ _ _ ii _ => M.length - (intOf ii).toNat)
    case atStart => exact ⟨0,nilS,C,rfl,by omega,HV6.out,⟨Nat.le_refl _,fun _ _ _ => rfl⟩,fun b e => by simp [nilS,Value.ownBlock] at e⟩
    case round =>
     obtain ⟨m,v,C2,rfl,hml,hV7,hb7,hv7⟩:=hrel
     by_cases hmm:m < M.length
     ·have hmm2:m < (mkL M).length:=by rw [mkL_len]; exact hmm
      obtain ⟨g6,rfl,_,hc6⟩:=SRowB.kq HR6.out hRl hb7 m hmm2
      obtain ⟨r9,hfi⟩:∃ r9:Int,Calls Tryz.prog 69 #[.slice (some ad) fs.length fc,.string (mkL M)[m]] wr fun e w' => e=.returned (.tuple #[.int .i64 (plN fs (mkL M)[m]:Nat),.int .i64 r9])/\wr=w':=by
       have:=find_any (mkL M)[m] fs (some ad) fc wr (HF.out.below hV7.below) (by omega)
       refine ⟨if atF fs (mkL M)[m] < fs.length then 0 else 5,this.mono fun e w' h => ⟨?_,h.2⟩⟩
       rw [h.1]; unfold plN
       by_cases h9:atF fs (mkL M)[m] < fs.length
       ·simp only [if_pos h9]
       ·simp only [if_neg h9]; rfl
      have htk:((mkL M).take (m + 1)).map (plN fs)=((mkL M).take m).map (plN fs) ++ [plN fs (mkL M)[m]]:=by
       rw [List.take_succ_eq_append_getElem hmm2,List.map_append]; rfl
      have hstep:∀ (gg cap:Nat) (w6:World) (tmp:Obj),w6.ownsRow (w.heap.size + 1) 3 1 (.slice (some ⟨gg,0,none⟩) (m + 1) cap) (m + 1) (nV (((mkL M).take m).map (plN fs)) ++ [.int .i64 (plN fs (mkL M)[m]:Nat)])->(wr.alloc tmp).grownBy w6 v.ownBlock->(v.ownBlock=some gg ∨ gg=wr.heap.size + 1)->DI w ns k (((mkL M).take (m + 1)).map (plN fs)) (.slice (some ⟨gg,0,none⟩) (m + 1) cap) (C2.set k (.slice (some ⟨gg,0,none⟩) (m + 1) cap)) (w6.setCell ⟨w.heap.size,k,none⟩ (.slice (some ⟨gg,0,none⟩) (m + 1) cap)):=fun gg cap w6 tmp h1 h2 h3 => by
       have hdl:(((mkL M).take m).map (plN fs)).length=m:=by rw [List.length_map,List.length_take]; omega
       have:=hV7.step (j:=plN fs (mkL M)[m]) (gg:=gg) (cap:=cap) hkl (by rw [hdl]; exact h1) h2 h3
       rw [hdl] at this
       rw [htk]; exact this
      have hown7:wr.ownsRow (w.heap.size + 1) 3 1 v m (nV (((mkL M).take m).map (plN fs))):=by
       have hdl:(((mkL M).take m).map (plN fs)).length=m:=by rw [List.length_map,List.length_take]; omega
       have:=hV7.own
       rw [hdl] at this; exact this
      have hkq:∀ (w8:World) (tmp:Obj) (u:Value),(wr.alloc tmp).grownBy w8 v.ownBlock->Kq w.heap.size w6 (w8.setCell ⟨w.heap.size,k,none⟩ u):=fun w8 tmp u h => hb7.step hv7 h
      have hov:∀ gg:Nat,(v.ownBlock=some gg ∨ gg=wr.heap.size + 1)->w6.heap.size<=gg:=fun gg h => by
       rcases h with h | h
       ·exact hv7 gg h
       ·have:=hb7.size; omega
      have hkeep:∀ (w6:World) (tmp:Obj),(wr.alloc tmp).grownBy w6 v.ownBlock->(w6.cell? ⟨w.heap.size,k,none⟩=some v/\w6.frozen? ⟨w.heap.size,k,none⟩=false):=fun w6 tmp h => hV7.cells6 hkl h
      obtain ⟨z1,z2,z3⟩:=hV7.cells hkl
      generalize nV (((mkL M).take m).map (plN fs))=xs7 at hown7 hstep
      generalize plN fs (mkL M)[m]=pl at hfi hstep
      generalize (mkL M)[m]=s at hfi hc6
      have HStep:=Lib.hid hstep
      have HOwn:=Lib.hid hown7
      have HKeep:=Lib.hid hkeep
      have HFi:=Lib.hid hfi
      have HKq:=Lib.hid hkq
      have HOv:=Lib.hid hov
      have hki:(k:Int) < (fs.length:Int):=by omega
      clear hstep hown7 hkeep hkq hov hfi hb7 hv7 htk hV7 hmm2
      go_wp2_with (first
       | (go_at_call 69; refine HFi.out.mono ?_; rintro e w1 ⟨rfl,rfl⟩)
       | (at_builtin; refine wpList_append_lies _ rfl _ _ 77 rfl (w.heap.size + 1) 3 i0 _ 1 8 Tryz.underlying77 hi hz0 hz1 hz2 rfl (by decide) v m xs7 rfl (HOwn.out.alloc _) ⟨wr.heap.size,0,none⟩ 1 1 [.int .i64 (pl:Int)] rfl rfl (World.news_of_block (cs:=#[.int .i64 (pl:Int)]) (t:=3) (fr:=(0,0)) (World.alloc_heap_new wr _)) (by simp [Value.oneCell']) (by decide) (by unfold maxLen; omega) (by omega) (by simp; omega) (wr.heap.size + 1) (by simp) ?_; intro gg cap w8 hown8 hgrow8 hat8 hlt8; obtain ⟨y0,yf⟩:=HKeep.out w8 _ hgrow8; have hN:=HStep.out gg cap w8 _ hown8 hgrow8 hat8; have HN:=Lib.hid hN; have HQ:=Lib.hid (HKq.out w8 _ (.slice (some ⟨gg,0,none⟩) (m + 1) cap) hgrow8); have HO9:=Lib.hid (HOv.out gg hat8); clear hN hown8 hgrow8 hat8 hlt8))
      go_roundw
      case rel => exact ⟨m + 1,_,_,by go_num,by omega,HN.out,HQ.out,fun b e => by injection e with e; rw [← e]; exact HO9.out⟩
      case measure => simp [intOf]; omega
     ·obtain rfl:m=M.length:=by omega
      have hN:=DI.next (v:=v) (C:=C2) (by rw [HNk.out]; have:=hV7; rw [List.take_of_length_le (by rw [mkL_len]; exact Nat.le_refl _)] at this; exact this) hkl
      have HN:=Lib.hid hN
      clear hN hV7 hb7 hv7
      go_wp2_with fail
      go_roundw
      case rel => exact ⟨k + 1,_,by go_num,by omega,HN.out⟩
      case measure => simp [intOf]; omega
  ·obtain rfl:k=fs.length:=by omega
   have hO:=HFin.out C wr hV
   have HO:=Lib.hid hO
   clear hO hV
   go_wp2_with fail
   go_ret
   exact HO.out
end RkD
namespace ShT
open Go.RowKit
open ValM LexM NumM ExM NmM Kit ExL ExP ExN RawV Within RawL GenL FldP FldR FldC FrmM NmA NmT PgM PgA RkM RkA
set_option linter.unusedVariables false
def frBox (FA:Option Addr) (n fc:Nat) (PA:Option Addr) (pn pc:Nat):Obj:=.cells #[.slice FA n fc,.slice PA pn pc] 29
theorem fr_cells (w:World) (FA:Option Addr) (n fc:Nat) (PA:Option Addr) (pn pc:Nat) (V:World) (hV:Below (w.alloc (frBox FA n fc PA pn pc)).heap.size (w.alloc (frBox FA n fc PA pn pc)) V):V.cell? ⟨w.heap.size,0,none⟩=some (.slice FA n fc)/\V.cell? ⟨w.heap.size,1,none⟩=some (.slice PA pn pc):=by
 have e1:V.heap[w.heap.size]?=_:=(hV.block _ (by simp)).trans (World.alloc_heap_new w (frBox FA n fc PA pn pc))
 unfold frBox at e1
 exact ⟨by simp [World.cell?,e1],by simp [World.cell?,e1]⟩
def fdBox (f:GenL.Fd):Obj:=.cells #[.string f.nm,.int .i64 f.kind,.int .i64 f.ty,.int .i64 f.d.op,.int .i64 f.d.k,.int .i64 f.d.n,.string f.d.s,.string f.d.nm,.slice f.A f.n f.c] 47
set_option maxHeartbeats 2000000 in
theorem check_any (n:Nat) (FA:Option Addr) (fc:Nat) (pn:Nat) (PA:Option Addr) (pc:Nat) (R1 R2:Int) (w:World)
  (h1:∀ V,Below w.heap.size w V->Calls Tryz.prog 27 #[.slice FA n fc] V fun e w' => ∃ v p,e=.returned (.tuple #[v,p,.int .i64 R1])/\Below V.heap.size V w')
  (h2:R1=0->∀ V,Below w.heap.size w V->Calls Tryz.prog 28 #[.slice PA pn pc,.slice FA n fc] V fun e w' => e=.returned (.int .i64 R2)/\Below V.heap.size V w') :
  Calls Tryz.prog 12 #[.agg #[.slice FA n fc,.slice PA pn pc]] w fun e w' => e=.returned (.int .i64 (if R1=0 then R2 else R1))/\Below w.heap.size w w':=by
 obtain ⟨W1,hW1⟩:∃ V,w.alloc (frBox FA n fc PA pn pc)=V:=⟨_,rfl⟩
 obtain ⟨B1,hB1⟩:∃ B,w.heap.size=B:=⟨_,rfl⟩
 have hb1:=b_new w (frBox FA n fc PA pn pc)
 have hcell:=fr_cells w FA n fc PA pn pc
 rw [hW1] at hb1 hcell
 rw [hB1] at hcell
 obtain ⟨c0,c1⟩:=hcell W1 (Below.refl _ _)
 have H1:=Lib.hid (h1 W1 hb1)
 have H2:=Lib.hid h2
 have HB:=Lib.hid hb1
 have HCell:=Lib.hid hcell
 have HW1:=Lib.hid hW1
 have HB1:=Lib.hid hB1
 clear h1 h2 hb1 hcell hW1 hB1
 unfold frBox at HW1
 by_cases h0:R1=0
 ·subst h0
  rw [if_pos rfl]
  have H3:=Lib.hid (H2.out rfl)
  go_enter Tryz.func12,Tryz.ntmps12
  go_upto_region 1 with fail
  rw [HW1.out,HB1.out]
  go_wp2_with fail
  refine H1.out.mono ?_; rintro e w1 ⟨v,p,rfl,hb1⟩
  obtain ⟨c0,c1⟩:=HCell.out w1 hb1
  have HB2:=Lib.hid (b_trans HB.out hb1)
  clear hb1
  go_wp2_with fail
  refine (H3.out _ HB2.out).mono ?_; rintro e w2 ⟨rfl,hb2⟩
  have HB3:=Lib.hid (b_trans HB2.out hb2)
  clear hb2
  go_wp2_with fail
  go_ret
  exact ⟨rfl,HB3.out⟩
 ·rw [if_neg h0]
  have t1:(R1 != 0)=true:=bne_iff_ne.2 h0
  clear h0
  go_enter Tryz.func12,Tryz.ntmps12
  go_upto_region 1 with fail
  rw [HW1.out,HB1.out]
  go_wp2_with fail
  refine H1.out.mono ?_; rintro e w1 ⟨v,p,rfl,hb1⟩
  have HB2:=Lib.hid (b_trans HB.out hb1)
  clear hb1
  go_wp2_with fail
  go_ret
  exact ⟨rfl,HB2.out⟩
end ShT
namespace ShL
open Go.RowKit
open ValM LexM NumM ExM NmM Kit ExL ExP ExN RawV Within RawL GenL FldP FldR FldC FrmM PgM PgA RkM RkA ShT
set_option linter.unusedVariables false
theorem strV_snoc (M:List ByteArray) (s:ByteArray):NmA.strV (M ++ [s])=NmA.strV M ++ [.string s]:=by unfold NmA.strV; rw [List.map_append]; rfl
end ShL
namespace RkO
open Go.RowKit
open ValM LexM NumM ExM NmM Kit ExL ExP ExN ExC RawV Within RawL GenL FldP FldR FldC NmO NmA NmI NmT NmR RkM RkA RkB RkC RkD
set_option linter.unusedVariables false
theorem nodup_bd:∀ (n:Nat) (l:List Nat),l.Nodup->(∀ x ∈ l,x < n)->l.length<=n
 | 0,l,_,h => by
  cases l with
  | nil => exact Nat.le_refl _
  | cons x l => exact absurd (h x (by simp)) (by omega)
 | n + 1,l,hd,h => by
  have h1:=nodup_bd n (l.erase n) (hd.erase n) (fun x hx => by
   have h2:=(hd.mem_erase_iff).1 hx
   have h3:=h x h2.2
   omega)
  by_cases hm:n ∈ l
  ·rw [List.length_erase_of_mem hm] at h1
   omega
  ·rw [List.erase_of_not_mem hm] at h1
   omega
def RankOk (ns:List (List Nat)) (w:World) (e:Ending) (w':World):Prop :=
 ∃ v,e=.returned (.tuple #[v,.slice none 0 0,.int .i64 0])/\w'.ownsRow w.heap.size 3 1 v ns.length (iV (rankF ns))/\Below w.heap.size w w'
theorem idx_none {r:List Int} (h:∀ i,i < r.length->rk r i ≠ -1):Lib.idxOf r (-1)=-1:=by
 have:=Lib.idxOf_miss r r.length (-1) fun j hj => h j hj
 rwa [List.take_length] at this
theorem index_any (r:List Int) (x:Int) (v:Value) (base:Nat) (w:World) (hl:r.length<=1048576) (h:w.ownsRow base 3 1 v r.length (iV r)):Calls Tryz.prog 46 #[v,.int .i64 x] w fun e w' => e=.returned (.int .i64 (Lib.idxOf r x))/\w=w':=by
 rcases Nat.eq_zero_or_pos r.length with h0 | h0
 ·obtain ⟨A,c,rfl,_⟩:=IRow.of_own h
  obtain rfl:r=[]:=List.eq_nil_of_length_eq_zero h0
  exact (Tryz.slices_Index_int_empty A c x w).mono fun e w' h => ⟨h.1,h.2.symm⟩
 ·obtain ⟨A,c,rfl,hr⟩:=IRow.of_own h
  obtain ⟨g,rfl,_⟩:=hr 0 h0
  have:=Tryz.slices_Index_int g 0 r.length c r x w (Nat.le_refl _) (by omega) (fun j hj => by
   obtain ⟨g',e,hc⟩:=hr j hj
   injection e with e; injection e with e _ _
   subst e
   rw [Nat.zero_add]; exact hc)
  rw [List.take_length] at this
  exact this.mono fun e w' h => ⟨h.1,h.2.symm⟩
set_option maxRecDepth 100000 in
set_option maxHeartbeats 4000000 in
theorem of_bad (fs:List GenL.Fd) (X:Nat->Ex) (FA:Option Addr) (fc:Nat) (w:World) (hm:fs.length<=1000000000000) (hf:Flds w FA fs) (hX:Forms w fs X) (hT:Tab w) (hcap:fs.length<=fc/\fc<=maxLen) (h0:checkF fs X ≠ 0) :
  Calls Tryz.prog 27 #[.slice FA fs.length fc] w fun e w' => e=.returned (.tuple #[.slice none 0 0,.slice none 0 0,.int .i64 (checkF fs X)])/\Below w.heap.size w w':=by
 have hc:=FldC.check_any fs X FA fc w hm hf hX hT hcap
 obtain ⟨R,hR⟩:∃ R,checkF fs X=R:=⟨_,rfl⟩
 rw [hR] at h0 hc ⊢
 have t1:(R != 0)=true:=bne_iff_ne.2 h0
 have HC:=Lib.hid hc
 clear hc hR hf hX hT h0
 go_enter Tryz.func27,Tryz.ntmps27
 go_wp2_with (go_at_call 43; refine HC.out.mono ?_; rintro e w1 ⟨rfl,hb⟩; have HB:=Lib.hid hb; clear hb)
 exact bodyPost_ret (v:=.tuple #[.slice none 0 0,.slice none 0 0,.int .i64 R]) (by simp [results,Tryz.results27,go_sem]) rfl ⟨rfl,HB.out⟩
set_option maxRecDepth 100000 in
set_option maxHeartbeats 4000000 in
theorem of_ok (fs:List GenL.Fd) (X:Nat->Ex) (FA:Option Addr) (fc:Nat) (w:World) (hm:fs.length<=14) (hf:Flds w FA fs) (hX:Forms w fs X) (hT:Tab w) (hcap:fs.length<=fc/\fc<=maxLen) (h0:checkF fs X=0) (hr:∀ i,i < fs.length->0<=rk (rankF (needsF fs X)) i) :
  Calls Tryz.prog 27 #[.slice FA fs.length fc] w (RankOk (needsF fs X) w):=by
 have hc:=FldC.check_any fs X FA fc w (Nat.le_trans hm (by decide)) hf hX hT hcap
 rw [h0] at hc
 clear h0
 have hd:∀ V:World,Below w.heap.size w V->Calls Tryz.prog 44 #[.slice FA fs.length fc] V (DirOut (needsF fs X) V):=fun V hV => direct_any fs X FA fc V hm (hf.below hV) (hX.below hV) (hT.below hV)
 have hok:=needsF_ok fs X hm
 have hnl:=needsF_len fs X
 obtain ⟨ns,hns⟩:∃ ns,needsF fs X=ns:=⟨_,rfl⟩
 rw [hns] at hd hok hnl hr ⊢
 have hix:Lib.idxOf (rankF ns) (-1)=-1:=idx_none fun i hi => by
  rw [rankF_len,hnl] at hi
  have:=hr i hi
  omega
 have HC:=Lib.hid hc
 have HD:=Lib.hid hd
 have HI:=Lib.hid hix
 have HNl:=Lib.hid hnl
 clear hnl hc hns hf hX hT hd hix hr
 go_enter Tryz.func27,Tryz.ntmps27
 go_wp2_with fail
 refine HC.out.mono ?_; rintro e w1 ⟨rfl,hb⟩
 have HB:=Lib.hid hb
 clear hb
 go_wp2_with fail
 refine (HD.out w1 HB.out).mono ?_; rintro e w2 ⟨A2,c2,rfl,hns2,hb2,-⟩
 have hrk:=ranked_any ns A2 c2 w2 hok hns2
 have HR:=Lib.hid hrk
 have HB2:=Lib.hid (b_trans HB.out hb2)
 clear hrk hns2 hb2
 go_wp2_with fail
 refine HR.out.mono ?_; rintro e w3 ⟨v3,rfl,hown3,hb3⟩
 have hown:=own_base hown3 HB2.out.size
 have HB3:=Lib.hid (b_trans HB2.out hb3)
 have hin:=index_any (rankF ns) (-1) v3 w.heap.size w3 (by rw [rankF_len,HNl.out]; omega) (by rw [rankF_len]; exact hown)
 rw [HI.out] at hin
 have HIn:=Lib.hid hin
 have HO:=Lib.hid hown
 clear hb3 hown3 hin hown
 go_wp2_with fail
 refine HIn.out.mono ?_; rintro e w4 ⟨rfl,rfl⟩
 go_wp2_with fail
 exact bodyPost_ret (v:=.tuple #[v3,.slice none 0 0,.int .i64 0]) (by simp [results,Tryz.results27,go_sem]) rfl ⟨v3,rfl,HO.out,HB3.out⟩
end RkO
end Go.Proofs.YtjhhmdmmllblhaaGreatDoor
