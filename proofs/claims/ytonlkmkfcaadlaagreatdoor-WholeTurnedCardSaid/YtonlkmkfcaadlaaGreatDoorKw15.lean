/- RkDir WhTie WhAns WhKn: what these laws name of them. -/
import Derived.Laws.CopyOwn
import Derived.RangeFuncRecord
import Derived.Test.YtonlkmkfcaadlaaGreatDoorKw13
import Derived.Test.YtonlkmkfcaadlaaGreatDoorKw14
namespace Go.Proofs.YtonlkmkfcaadlaaGreatDoor
set_option linter.unusedVariables false
namespace RkA
open Go.RowKit
open Kit RkM
set_option linter.unusedVariables false
def iV (r:List Int):List Value:=r.map (Value.int .i64)
theorem iV_len (r:List Int):(iV r).length=r.length:=List.length_map _
def IRow (w:World) (A:Option Addr) (r:List Int):Prop:=∀ (j:Nat) (h:j < r.length),∃ g,A=some ⟨g,0,none⟩/\w.cell? ⟨g,j,none⟩=some (.int .i64 (rk r j))
def NtRow (w:World) (A:Option Addr) (L:List Nat):Prop:=∀ (j:Nat) (h:j < L.length),∃ g,A=some ⟨g,0,none⟩/\w.cell? ⟨g,j,none⟩=some (.int .i64 (L[j]:Int))
theorem rk_at (r:List Int) (j:Nat) (h:j < r.length):rk r j=r[j]:=by unfold rk; rw [List.getD_eq_getElem?_getD,List.getElem?_eq_getElem h]; rfl
theorem IRow.of_own {w:World} {base:Nat} {v:Value} {r:List Int} (h:w.ownsRow base 3 1 v r.length (iV r)):∃ A c,v=.slice A r.length c/\IRow w A r:=by
 rcases h.2 with ⟨h1,h2⟩ | ⟨g,cap,cur,h1,_⟩
 ·exact ⟨none,0,by rw [h1,h2],fun j hj => by omega⟩
 ·subst h1
  refine ⟨some ⟨g,0,none⟩,cap,rfl,fun j hj => ⟨g,rfl,?_⟩⟩
  rw [h.cellAt j (by omega),List.getElem?_eq_getElem (by rw [iV_len]; exact hj),rk_at r j hj]
  unfold iV; rw [List.getElem_map]
theorem NtRow.below {w w':World} {A:Option Addr} {L:List Nat} (h:NtRow w A L) (hb:Below w.heap.size w w'):NtRow w' A L:=fun j hj => by
 obtain ⟨g,e,hc⟩:=h j hj
 exact ⟨g,e,(hb.cell (p:=⟨g,j,none⟩) (World.block_lt_of_cell? w _ hc)).trans hc⟩
theorem above_at {r:List Int} {L:List Nat} {k:Nat} (h:k < L.length) (a:Int):aboveI r (L.drop k) a=if rk r L[k]=-1 then -1 else aboveI r (L.drop (k + 1)) (max a (rk r L[k] + 1)):=by
 rw [List.drop_eq_getElem_cons h,aboveI]
set_option maxHeartbeats 2000000 in
theorem above_any (L:List Nat) (r:List Int) (A B:Option Addr) (c d:Nat) (w:World) (hn:L.length<=1048576) (hA:NtRow w A L) (hB:IRow w B r) (hin:∀ i ∈ L,i < r.length) (hr:r.length<=1048576) (hbd:Bd r 1000000) :
  Calls Tryz.prog 134 #[.slice A L.length c,.slice B r.length d] w fun e w' => e=.returned (.int .i64 (aboveI r L 0))/\w=w':=by
 obtain ⟨R,hR⟩:∃ R,aboveI r L 0=R:=⟨_,rfl⟩
 rw [hR]
 have HR:=Lib.hid hR
 have HA:=Lib.hid hA
 have HB:=Lib.hid hB
 have HI:=Lib.hid hin
 have HD:=Lib.hid hbd
 clear hR hA hB hin hbd
 go_enter Tryz.func134,Tryz.ntmps134
 go_wp2_with fail
 go_loopw [5,7,10] (fun a _ i wr => ∃ (k:Nat) (x:Int),k<=L.length/\i=.int .i64 k/\a=.int .i64 x/\0<=x/\x<=1000001/\wr=w/\aboveI r (L.drop k) x=R) (fun _ _ i _ => L.length - (intOf i).toNat)
 case atStart => exact ⟨0,0,by omega,rfl,rfl,by omega,by omega,rfl,HR.out⟩
 case round =>
  obtain ⟨k,x,hk,rfl,rfl,hx0,hx1,rfl,hf⟩:=hrel
  by_cases hlt:k < L.length
  ·obtain ⟨g,rfl,hc⟩:=HA.out k hlt
   have hpl:=HI.out L[k] (List.getElem_mem hlt)
   obtain ⟨g2,rfl,hc2⟩:=HB.out L[k] hpl
   rw [above_at hlt] at hf
   obtain ⟨h1,h2⟩:=HD.out L[k]
   generalize L[k]=p at hc hc2 hf hpl h1 h2
   generalize rk r p=v at hc2 hf h1 h2
   by_cases he:v=-1
   ·rw [if_pos he] at hf
    subst he
    obtain rfl:R=-1:=hf.symm
    clear hf HR
    go_wp2_with fail
    go_ret
    exact ⟨rfl,rfl⟩
   ·rw [if_neg he] at hf
    have t1:(v == -1)=false:=beq_eq_false_iff_ne.2 he
    have HF:=Lib.hid hf
    clear hf he
    go_wp2_with fail
    go_roundw
    case rel => exact ⟨k + 1,max x (v + 1),by omega,by go_num,by go_num,by omega,by omega,by first | trivial | rfl,HF.out⟩
    case measure => simp [intOf]; omega
  ·have hkl:k=L.length:=by omega
   rw [hkl,List.drop_length] at hf
   obtain rfl:x=R:=hf
   clear hkl
   go_wp2_with fail
   go_ret
   exact ⟨rfl,rfl⟩
end RkA
namespace RkB
open Go.RowKit
open Kit RkM RkA RegI
set_option linter.unusedVariables false
theorem infoInt:(Tryz.prog.info? 3).map (fun i => (i.zero,i.size,i.bytes))=some (some (.int .i64 0),1,8):=by kernel_rfl
theorem infoI1:(Tryz.prog.info? 3).map (·.size)=some 1:=by kernel_rfl
theorem info_parts1 {t:TypeId} {z:Value} {s b:Nat} (h:(Tryz.prog.info? t).map (fun i => (i.zero,i.size,i.bytes))=some (some z,s,b)):∃ i0,Tryz.prog.info? t=some i0/\i0.zero=some z/\i0.size=s/\i0.bytes=b:=by
 cases hi:Tryz.prog.info? t with
 | none => rw [hi] at h; cases h
 | some i0 =>
  rw [hi] at h
  simp only [Option.map_some,Option.some.injEq,Prod.mk.injEq] at h
  exact ⟨i0,rfl,h.1,h.2.1,h.2.2⟩
theorem own_blk {w:World} {base g n:Nat} {xs:List Value} {e:TypeId} (h:w.ownsRow base e 1 (.slice (some ⟨g,0,none⟩) n n) n xs):w.heap[g]?=some (.cells xs.toArray e (0,0)):=by
 rcases h.2 with ⟨h',_⟩ | ⟨g',cap',cur,h',hb,hg,hnc,hcm,hcs,htake⟩
 ·simp at h'
 ·simp only [Value.slice.injEq,Option.some.injEq,Addr.mk.injEq,and_true,true_and] at h'
  obtain ⟨rfl,rfl⟩:=h'
  rw [hg,← htake,List.take_of_length_le (by simp [hcs])]
theorem blk_own {w:World} {base g n:Nat} {xs:List Value} {e:TypeId} (h:w.heap[g]?=some (.cells xs.toArray e (0,0))) (hl:xs.length=n) (hb:base<=g) (hm:n<=maxLen):w.ownsRow base e 1 (.slice (some ⟨g,0,none⟩) n n) n xs :=
 ⟨by omega,.inr ⟨g,n,xs.toArray,rfl,hb,h,Nat.le_refl _,hm,by simp [hl],by simp [List.take_of_length_le (Nat.le_of_eq hl)]⟩⟩
theorem cell_of_blk {w:World} {g j:Nat} {X:List Value} {e:TypeId} (h:w.heap[g]?=some (.cells X.toArray e (0,0))):w.cell? ((⟨g,0,none⟩:Addr).add j)=X[j]?:=by
 have e1:((⟨g,0,none⟩:Addr).add j)=⟨g,j,none⟩:=by unfold Addr.add; split; rename_i h; subst h; rfl; exact congrArg (fun o => (⟨g,o,none⟩:Addr)) (Nat.zero_add j)
 rw [e1]; unfold World.cell?; rw [h]; simp
def RepOut (n:Nat) (w:World) (e:Ending) (w':World):Prop :=
 e=.returned (.slice (some ⟨w.heap.size,0,none⟩) n n)/\w'.ownsRow w.heap.size 3 1 (.slice (some ⟨w.heap.size,0,none⟩) n n) n (iV (List.replicate n (-1)))/\Below w.heap.size w w'
def FilledTo (X:List Value) (k:Nat):Prop:=∀ j,j < k->X[j]?=some (.int .i64 (-1))
theorem filled_all {X:List Value} (h:FilledTo X X.length):X=iV (List.replicate X.length (-1)):=by
 refine List.ext_getElem? fun j => ?_
 by_cases hj:j < X.length
 ·rw [h j hj]; unfold iV; rw [List.map_replicate,List.getElem?_replicate,if_pos hj]
 ·rw [List.getElem?_eq_none (by omega),List.getElem?_eq_none (by unfold iV; simp; omega)]
theorem filled_splice {X:List Value} {k m:Nat} (h:FilledTo X k) (hm:k + m<=X.length):FilledTo (splice X k (List.replicate m (.int .i64 (-1)))) (k + m):=fun j hj => by
 unfold splice
 by_cases h1:j < k
 ·rw [List.getElem?_append_left (by simp; omega),List.getElem?_take,if_pos h1,h j h1]
 ·rw [List.getElem?_append_right (by simp; omega),List.getElem?_append_left (by simp; omega),List.getElem?_replicate,if_pos (by simp; omega)]
set_option maxRecDepth 100000 in
set_option maxHeartbeats 4000000 in
theorem repeat_any (n B c:Nat) (w:World) (hn:n<=1000) (hB:B < w.heap.size) (hx:w.cell? ⟨B,0,none⟩=some (.int .i64 (-1))) :
  Calls Tryz.prog 133 #[.slice (some ⟨B,0,none⟩) 1 c,.int .i64 n] w (RepOut n w):=by
 obtain ⟨i0,hi,hz0,hz1,hz2⟩:=info_parts1 infoInt
 have hmul:∀ V:World,Calls Tryz.prog 163 #[.int .u64 1,.int .u64 n] V fun e w' => e=.returned (.tuple #[.int .u64 0,.int .u64 n])/\V=w':=fun V => by
  refine (Tryz.bits_Mul 1 n (by omega) (by omega) V).mono fun e w' hh => ?_
  rw [Nat.one_mul,Nat.div_eq_of_lt (by omega),Nat.mod_eq_of_lt (by omega)] at hh
  exact ⟨hh.1,hh.2.symm⟩
 have hwr:IntKind.u64.wrap (n:Int)=n:=IntWalk.u64_in _ (by omega)
 have hwr2:IntKind.i64.wrap (n:Int)=n:=IntWalk.i64_in _ (by omega)
 have hfin:∀ (X:List Value) (W:World),X.length=n->FilledTo X n->W.heap[w.heap.size]?=some (.cells X.toArray 3 (0,0))->Below w.heap.size w W->RepOut n w (.returned (.slice (some ⟨w.heap.size,0,none⟩) n n)) W:=fun X W hl hf hg hb => by
  refine ⟨rfl,?_,hb⟩
  subst hl
  rw [← filled_all hf]
  exact blk_own hg rfl (Nat.le_refl _) (by unfold maxLen; omega)
 have hst:∀ W:World,W.ownsRow w.heap.size 3 1 (.slice (some ⟨w.heap.size,0,none⟩) n n) n (madeCells (Value.int .i64 0).cells (n * 1)).toList->w.grownBy W none->(W.heap[w.heap.size]?=some (.cells (madeCells (Value.int .i64 0).cells (n * 1)).toList.toArray 3 (0,0))/\(madeCells (Value.int .i64 0).cells (n * 1)).toList.length=n/\Below w.heap.size w W)/\(∀ (j:Nat) (v:Value),(List.replicate (min 1 n) (Value.int .i64 (-1)))[j]?=some v->W.cell? ((⟨B,0,none⟩:Addr).add j)=some v):=fun W h1 h2 => by
  have hb:Below w.heap.size w W:=(Below.refl _ _).grown h2 (Nat.le_refl _) (fun k e => by cases e)
  refine ⟨⟨own_blk h1,by have:=h1.1; omega,hb⟩,fun j v hj => ?_⟩
  rw [List.getElem?_replicate] at hj
  by_cases h:j < min 1 n
  ·rw [if_pos h] at hj
   injection hj with hj
   obtain rfl:j=0:=by omega
   rw [← hj]
   exact (hb.cell (p:=⟨B,0,none⟩) hB).trans hx
  ·rw [if_neg h] at hj; cases hj
 have hrep1:∀ (X:List Value) (k m:Nat),FilledTo X k->k + m<=X.length->FilledTo (splice X k (List.replicate m (Value.int .i64 (-1)))) (k + m)/\(splice X k (List.replicate m (Value.int .i64 (-1)))).length=X.length:=fun X k m h hm => ⟨filled_splice h hm,length_splice _ _ _ (by simpa using hm)⟩
 have hone:∀ (m:Nat),∀ v ∈ List.replicate m (Value.int .i64 (-1)),v.oneCell'=true:=fun m v hv => by rw [List.eq_of_mem_replicate hv]; rfl
 have HSt:=Lib.hid hst
 have HRe:=Lib.hid hrep1
 have HOne:=Lib.hid hone
 clear hst hrep1 hone
 have HM:=Lib.hid hmul
 have HFin:=Lib.hid hfin
 have HX:=Lib.hid hx
 have n0:(0:Int)<=(n:Int):=by omega
 have n1:(n:Int)<=1000:=by omega
 clear hmul hfin hx
 go_enter Tryz.func133,Tryz.ntmps133
 go_wp2_with (first
  | (go_at_call 163; refine (HM.out _).mono ?_; rintro e w1 ⟨rfl,rfl⟩)
  | (at_make; refine wpList_make_full _ rfl _ _ 69 rfl w.heap.size 3 i0 _ 1 Tryz.underlying69 hi hz0 hz1 .i64 .i64 _ _ n rfl rfl (by first | rfl | simp [hwr,hwr2]) (by first | rfl | simp [hwr,hwr2]) (by rw [hz2]; omega) (by unfold maxLen; omega) (Nat.le_refl _) ?_; intro w1 hown hgrow; have H1:=Lib.hid (And.intro hown hgrow); clear hown hgrow)
  | (refine wpList_copy_splice (o:=⟨some 33,_,_,_,_,_⟩) rfl (.tmp 31) (.tmp 32) 69 69 rfl 3 Tryz.underlying69 infoI1 (some ⟨w.heap.size,0,none⟩) (some ⟨B,0,none⟩) n n 1 c rfl rfl w.heap.size 0 (madeCells (Value.int .i64 0).cells (n * 1)).toList 3 (HSt.out _ H1.out.1 H1.out.2).1.1 (List.replicate (min 1 n) (.int .i64 (-1))) (by rw [List.length_replicate]) (fun _ => ⟨rfl,_,rfl,(HSt.out _ H1.out.1 H1.out.2).2⟩) (by rw [List.length_replicate,(HSt.out _ H1.out.1 H1.out.2).1.2.1]; omega) (HOne.out _) w.heap.size w (HSt.out _ H1.out.1 H1.out.2).1.2.2 (Nat.le_refl _) ?_; intro w2 HG2 hb2; have HB2:=Lib.hid hb2; clear hb2))
 go_loopw [8] (fun s8 wr => ∃ (k:Nat) (X:List Value),s8=.int .i64 k/\k<=n/\(1<=k ∨ n=0)/\X.length=n/\FilledTo X k/\wr.heap[w.heap.size]?=some (.cells X.toArray 3 (0,0))/\Below w.heap.size w wr) (fun s8 _ => n - (intOf s8).toNat)
 case atStart =>
  have h1:=HRe.out (madeCells (Value.int .i64 0).cells (n * 1)).toList 0 (min 1 n) (fun j hj => absurd hj (by omega)) (by rw [(HSt.out _ H1.out.1 H1.out.2).1.2.1]; omega)
  rw [(HSt.out _ H1.out.1 H1.out.2).1.2.1,Nat.zero_add] at h1
  exact ⟨min 1 n,_,by simp,by omega,by omega,h1.2,h1.1,HG2.out,HB2.out⟩
 case round =>
  obtain ⟨k,X,rfl,hk,hk1,hl,hf,hg,hb⟩:=hrel
  by_cases hlt:k < n
  ·have hk1':1<=k:=by omega
   have hsrc:∀ (j:Nat) (v:Value),(List.replicate (min k (n - k)) (Value.int .i64 (-1)))[j]?=some v->wr.cell? ((⟨w.heap.size,0,none⟩:Addr).add j)=some v:=fun j v hj => by
    rw [List.getElem?_replicate] at hj
    by_cases h:j < min k (n - k)
    ·rw [if_pos h] at hj
     rw [cell_of_blk hg,hf j (by omega)]; exact hj
    ·rw [if_neg h] at hj; cases hj
   have hr1:=HRe.out X k (min k (n - k)) hf (by omega)
   have HR1:=Lib.hid hr1
   have HG:=Lib.hid hg
   have HS:=Lib.hid hsrc
   have HB:=Lib.hid hb
   have HL:=Lib.hid hl
   have ki:(k:Int) < (n:Int):=by omega
   have k1i:(1:Int)<=(k:Int):=by omega
   have hnk:¬ n=k:=by omega
   have hsl1:∀ V:World,(Instr.sliceAt 69 (.slice (some ⟨w.heap.size,0,none⟩) n n) (some (.int .i64 k)) none none).run Tryz.prog V=.ok (.slice (some ⟨w.heap.size,k,none⟩) (n - k) (n - k)) V:=fun V => by simp [go_sem,Tryz.underlying69,hnk,Nat.le_of_lt hlt]
   have hsl2:∀ V:World,(Instr.sliceAt 69 (.slice (some ⟨w.heap.size,0,none⟩) n n) none (some (.int .i64 k)) none).run Tryz.prog V=.ok (.slice (some ⟨w.heap.size,0,none⟩) k n) V:=fun V => by simp [go_sem,Tryz.underlying69,Nat.le_of_lt hlt]
   have hadd:∀ V:World,(do eqGuard .add 3 (.tmp 38) (.tmp 45) (.int .i64 k) (.int .i64 ((min k (n - k):Nat):Int)); binOp .add 3 (.int .i64 k) (.int .i64 ((min k (n - k):Nat):Int)):Sem Value).run Tryz.prog V=.ok (.int .i64 ((k + min k (n - k):Nat):Int)) V:=fun V => by
    rw [Int.natCast_add]; simp [go_sem,eqGuard,IntWalk.i64_in ((k:Int) + ((min k (n - k):Nat):Int)) (by omega)]
   clear hr1 hg hsrc hb hf hl hk1
   go_upto_region 9 with fail
   refine region_fill0 [(0,38),(1,39),(2,40),(3,41),(4,42),(5,43),(6,44),(7,45),(8,46),(9,8)] (JPW (fun i => match i with | 0 => .int .i64 k | 1 => .slice (some ⟨w.heap.size,0,none⟩) n n | 2 => .int .i64 k | 3 => .slice (some ⟨w.heap.size,k,none⟩) (n - k) (n - k) | 4 => .slice (some ⟨w.heap.size,0,none⟩) n n | 5 => .int .i64 k | 6 => .slice (some ⟨w.heap.size,0,none⟩) k n | 7 => .int .i64 ((min k (n - k):Nat):Int) | 8 => .int .i64 ((k + min k (n - k):Nat):Int) | 9 => .int .i64 ((k + min k (n - k):Nat):Int) | _ => undef) 7 9 (.int .i64 k) (fun V => V.heap[w.heap.size]?=some (.cells X.toArray 3 (0,0))/\(∀ (j:Nat) (v:Value),(List.replicate (min k (n - k)) (Value.int .i64 (-1)))[j]?=some v->V.cell? ((⟨w.heap.size,0,none⟩:Addr).add j)=some v)/\Below w.heap.size w V) (fun V => V.heap[w.heap.size]?=some (.cells (splice X k (List.replicate (min k (n - k)) (Value.int .i64 (-1)))).toArray 3 (0,0))/\Below w.heap.size w V)) (fun f => by simp only [fill,Act.put,List.setIfInBounds_toArray,List.set_cons_zero,List.set_cons_succ]; rfl) (by kernel_rfl) (by kernel_rfl) (by kernel_rfl) (jpw_start (⟨HG.out,HS.out,b_drew HB.out⟩) (by kernel_rfl)) ?_ ?_
   ·intro F hFr
    refine ⟨?_,?_,?_,?_,?_,?_,?_,?_,?_,?_,trivial⟩
    ·as_aux_lemma =>
     intro D f wx hJ hD hdep K9 hK
     have ew:f 9=_:=jpw_v0 hJ (by decide) hD
     exact stepF_val rfl (op_move rfl (v:=.int .i64 k) ((show _=f 9 from by rw [hFr]; kernel_rfl).trans ew)) (by rw [hFr,hFr]; kernel_rfl) (hK (updf f 0 (.int .i64 k)) _ (jpw_pure hJ (by decide) (by decide) rfl))
    ·as_aux_lemma =>
     intro D f wx hJ hD hdep K9 hK
     exact stepF_val rfl (op_move rfl (v:=.slice (some ⟨w.heap.size,0,none⟩) n n) (by rw [hFr]; kernel_rfl)) (by rw [hFr,hFr]; kernel_rfl) (hK (updf f 1 (.slice (some ⟨w.heap.size,0,none⟩) n n)) _ (jpw_pure hJ (by decide) (by decide) rfl))
    ·as_aux_lemma =>
     intro D f wx hJ hD hdep K9 hK
     have ew:f 9=_:=jpw_v0 hJ (by decide) hD
     exact stepF_val rfl (op_move rfl (v:=.int .i64 k) ((show _=f 9 from by rw [hFr]; kernel_rfl).trans ew)) (by rw [hFr,hFr]; kernel_rfl) (hK (updf f 2 (.int .i64 k)) _ (jpw_pure hJ (by decide) (by decide) rfl))
    ·as_aux_lemma =>
     intro D f wx hJ hD hdep K9 hK
     have e1:f 1=_:=hJ.1.1 1 (done hdep 1 (by kernel_rfl))
     have e2:f 2=_:=hJ.1.1 2 (done hdep 2 (by kernel_rfl))
     have hl:(Instr.sliceAt 69 (.slice (some ⟨w.heap.size,0,none⟩) n n) (some (.int .i64 k)) none none).run Tryz.prog wx=.ok (.slice (some ⟨w.heap.size,k,none⟩) (n - k) (n - k)) wx:=hsl1 wx
     exact stepF_val rfl (op_slice rfl (p:=.slice (some ⟨w.heap.size,0,none⟩) n n) ((show _=f 1 from by rw [hFr]; kernel_rfl).trans e1) (congrArg some ((show _=f 2 from by rw [hFr]; kernel_rfl).trans e2)) rfl rfl hl) (by rw [hFr,hFr]; kernel_rfl) (hK (updf f 3 (.slice (some ⟨w.heap.size,k,none⟩) (n - k) (n - k))) _ (jpw_pure hJ (by decide) (by decide) rfl))
    ·as_aux_lemma =>
     intro D f wx hJ hD hdep K9 hK
     exact stepF_val rfl (op_move rfl (v:=.slice (some ⟨w.heap.size,0,none⟩) n n) (by rw [hFr]; kernel_rfl)) (by rw [hFr,hFr]; kernel_rfl) (hK (updf f 4 (.slice (some ⟨w.heap.size,0,none⟩) n n)) _ (jpw_pure hJ (by decide) (by decide) rfl))
    ·as_aux_lemma =>
     intro D f wx hJ hD hdep K9 hK
     have ew:f 9=_:=jpw_v0 hJ (by decide) hD
     exact stepF_val rfl (op_move rfl (v:=.int .i64 k) ((show _=f 9 from by rw [hFr]; kernel_rfl).trans ew)) (by rw [hFr,hFr]; kernel_rfl) (hK (updf f 5 (.int .i64 k)) _ (jpw_pure hJ (by decide) (by decide) rfl))
    ·as_aux_lemma =>
     intro D f wx hJ hD hdep K9 hK
     have e4:f 4=_:=hJ.1.1 4 (done hdep 4 (by kernel_rfl))
     have e5:f 5=_:=hJ.1.1 5 (done hdep 5 (by kernel_rfl))
     have hl:(Instr.sliceAt 69 (.slice (some ⟨w.heap.size,0,none⟩) n n) none (some (.int .i64 k)) none).run Tryz.prog wx=.ok (.slice (some ⟨w.heap.size,0,none⟩) k n) wx:=hsl2 wx
     exact stepF_val rfl (op_slice rfl (p:=.slice (some ⟨w.heap.size,0,none⟩) n n) ((show _=f 4 from by rw [hFr]; kernel_rfl).trans e4) rfl (congrArg some ((show _=f 5 from by rw [hFr]; kernel_rfl).trans e5)) rfl hl) (by rw [hFr,hFr]; kernel_rfl) (hK (updf f 6 (.slice (some ⟨w.heap.size,0,none⟩) k n)) _ (jpw_pure hJ (by decide) (by decide) rfl))
    ·as_aux_lemma =>
     intro D f wx hJ hD hdep K9 hK
     have e3:f 3=_:=hJ.1.1 3 (done hdep 3 (by kernel_rfl))
     have e6:f 6=_:=hJ.1.1 6 (done hdep 6 (by kernel_rfl))
     obtain ⟨hA1,hA2,hA3⟩:=hJ.1.2.1 hD
     refine step_copy_splice rfl (.tmp 41) (.tmp 44) 69 69 rfl 3 Tryz.underlying69 infoI1 (some ⟨w.heap.size,k,none⟩) (some ⟨w.heap.size,0,none⟩) (n - k) (n - k) k n ((show _=f 3 from by rw [hFr]; kernel_rfl).trans e3) ((show _=f 6 from by rw [hFr]; kernel_rfl).trans e6) w.heap.size k X 3 hA1 (List.replicate (min k (n - k)) (.int .i64 (-1))) (by rw [List.length_replicate]) (fun _ => ⟨rfl,_,rfl,hA2⟩) (by rw [List.length_replicate,HL.out]; omega) (HOne.out _) w.heap.size w hA3 (Nat.le_refl _) ?_
     intro w4 HG4 hb4
     rw [List.length_replicate]
     have hk:=hK (updf f 7 (.int .i64 ((min k (n - k):Nat):Int))) w4 (jpw_eff hJ (by decide) rfl ⟨HG4.out,hb4⟩)
     rw [hFr] at hk ⊢
     exact hk
    ·as_aux_lemma =>
     intro D f wx hJ hD hdep K9 hK
     have e0:f 0=_:=hJ.1.1 0 (done hdep 0 (by kernel_rfl))
     have e7:f 7=_:=hJ.1.1 7 (done hdep 7 (by kernel_rfl))
     have hl:(do eqGuard .add 3 (.tmp 38) (.tmp 45) (.int .i64 k) (.int .i64 ((min k (n - k):Nat):Int)); binOp .add 3 (.int .i64 k) (.int .i64 ((min k (n - k):Nat):Int)):Sem Value).run Tryz.prog wx=.ok (.int .i64 ((k + min k (n - k):Nat):Int)) wx:=hadd wx
     exact stepF_val rfl (op_bin rfl (p:=.int .i64 k) (q:=.int .i64 ((min k (n - k):Nat):Int)) ((show _=f 0 from by rw [hFr]; kernel_rfl).trans e0) ((show _=f 7 from by rw [hFr]; kernel_rfl).trans e7) hl) (by rw [hFr,hFr]; kernel_rfl) (hK (updf f 8 (.int .i64 ((k + min k (n - k):Nat):Int))) _ (jpw_pure hJ (by decide) (by decide) rfl))
    ·as_aux_lemma =>
     intro D f wx hJ hD hdep K9 hK
     have hal:∀ j,j < 9->D j=true:=fun j hj => by match j,hj with | 0,_ => exact done hdep 0 (by kernel_rfl) | 1,_ => exact done hdep 1 (by kernel_rfl) | 2,_ => exact done hdep 2 (by kernel_rfl) | 3,_ => exact done hdep 3 (by kernel_rfl) | 4,_ => exact done hdep 4 (by kernel_rfl) | 5,_ => exact done hdep 5 (by kernel_rfl) | 6,_ => exact done hdep 6 (by kernel_rfl) | 7,_ => exact done hdep 7 (by kernel_rfl) | 8,_ => exact done hdep 8 (by kernel_rfl)
     have e8:f 8=_:=hJ.1.1 8 (done hdep 8 (by kernel_rfl))
     exact stepF_val rfl (op_assign rfl (v:=.int .i64 ((k + min k (n - k):Nat):Int)) ((show _=f 8 from by rw [hFr]; kernel_rfl).trans e8)) (by rw [hFr,hFr]; kernel_rfl) (hK (updf f 9 (.int .i64 ((k + min k (n - k):Nat):Int))) _ (jpw_last hJ (by decide) rfl hal))
   ·intro D f wx hJ hall
    obtain ⟨hG4,hB4⟩:=hJ.1.2.2 (hall 7 (by decide))
    have e9:f 9=.int .i64 ((k + min k (n - k):Nat):Int):=hJ.1.1 9 (hall 9 (by decide))
    have hk2:k + min k (n - k)<=n:=by omega
    have hk3:1<=min k (n - k):=by omega
    have HG4:=Lib.hid hG4
    have HB4:=Lib.hid hB4
    rw [e9]
    clear e9 hG4 hB4 hJ hall hsl1 hsl2 hadd
    go_roundw
    case rel => exact ⟨.int .i64 ((k + min k (n - k):Nat):Int),_,_,_,_,_,_,_,_,_,_,_,_,_,⟨k + min k (n - k),_,rfl,by omega,by omega,HR1.out.2.trans HL.out,HR1.out.1,HG4.out,HB4.out⟩,rfl⟩
    case measure => simp [intOf]; omega
  ·obtain rfl:k=n:=by omega
   have hO:=HFin.out X wr hl hf hg hb
   have HO:=Lib.hid hO
   clear hO hl hf hg hb hk1
   go_wp2_with fail
   go_ret
   exact HO.out
end RkB
namespace RkC
open Go.RowKit
open Kit RkM RkA RkB
set_option linter.unusedVariables false
def NsRow (w:World) (A:Option Addr) (ns:List (List Nat)):Prop:=∀ (i:Nat) (h:i < ns.length),∃ g,A=some ⟨g,0,none⟩/\∃ Ai ci,w.cell? ⟨g,i,none⟩=some (.slice Ai (nd ns i).length ci)/\NtRow w Ai (nd ns i)
theorem NsRow.below {w w':World} {A:Option Addr} {ns:List (List Nat)} (h:NsRow w A ns) (hb:Below w.heap.size w w'):NsRow w' A ns:=fun i hi => by
 obtain ⟨g,e,Ai,ci,hc,hr⟩:=h i hi
 exact ⟨g,e,Ai,ci,(hb.cell (p:=⟨g,i,none⟩) (World.block_lt_of_cell? w _ hc)).trans hc,hr.below hb⟩
def Okn (ns:List (List Nat)):Prop:=ns.length<=14/\∀ i,i < ns.length->(nd ns i).length<=1048576/\∀ j ∈ nd ns i,j < ns.length
def RanksOut (ns:List (List Nat)) (w:World) (e:Ending) (w':World):Prop :=
 ∃ v,e=.returned v/\w'.ownsRow w.heap.size 3 1 v ns.length (iV (rankF ns))/\Below w.heap.size w w'
theorem iV_set (r:List Int) (k:Nat) (u:Int):(iV r).set k (.int .i64 u)=iV (r.set k u):=by unfold iV; rw [List.map_set]
theorem iV_at (r:List Int) (k:Nat) (h:k < r.length):(iV r)[k]?=some (.int .i64 (rk r k)):=by
 rw [List.getElem?_eq_getElem (by rw [iV_len]; exact h),rk_at r k h]; unfold iV; rw [List.getElem_map]
theorem own_row {w:World} {base g n c:Nat} {r:List Int} (h:w.ownsRow base 3 1 (.slice (some ⟨g,0,none⟩) n c) n (iV r)) (hl:r.length=n):IRow w (some ⟨g,0,none⟩) r:=fun j hj => ⟨g,rfl,by
 rw [h.cellAt j (by omega),iV_at r j hj]⟩
structure RI (w:World) (g:Nat) (ns:List (List Nat)) (r:List Int) (wr:World):Prop where
 own:wr.ownsRow w.heap.size 3 1 (.slice (some ⟨g,0,none⟩) ns.length ns.length) ns.length (iV r)
 len:r.length=ns.length
 below:Below w.heap.size w wr
theorem RI.set {w:World} {g:Nat} {ns:List (List Nat)} {r:List Int} {wr:World} (h:RI w g ns r wr) (k:Nat) (u:Int):RI w g ns (r.set k u) (wr.setCell ⟨g,k,none⟩ (.int .i64 u)):=by
 refine ⟨by rw [← iV_set]; exact (h.own.stored k _).1,by rw [List.length_set,h.len],h.below.setCell (p:=⟨g,k,none⟩) (h.own.lt g rfl).1 _⟩
set_option maxRecDepth 100000 in
set_option maxHeartbeats 4000000 in
theorem ranked_any (ns:List (List Nat)) (A:Option Addr) (c:Nat) (w:World) (hk:Okn ns) (hA:NsRow w A ns) :
  Calls Tryz.prog 105 #[.slice A ns.length c] w (RanksOut ns w):=by
 obtain ⟨hn,hin⟩:=hk
 obtain ⟨W,hW⟩:∃ V,w.alloc (.cells #[.int .i64 (-1)] 3)=V:=⟨_,rfl⟩
 have hb0:=b_new w (.cells #[.int .i64 (-1)] 3)
 have hx0:W.cell? ⟨w.heap.size,0,none⟩=some (.int .i64 (-1)):=by
  rw [← hW]
  unfold World.cell?
  rw [World.alloc_heap_new w _]; rfl
 have hs0:w.heap.size < W.heap.size:=by rw [← hW]; simp
 rw [hW] at hb0
 have hrep:=repeat_any ns.length w.heap.size 1 W (by omega) hs0 hx0
 have hstart:∀ V:World,V.ownsRow W.heap.size 3 1 (.slice (some ⟨W.heap.size,0,none⟩) ns.length ns.length) ns.length (iV (List.replicate ns.length (-1)))->Below W.heap.size W V->RI w W.heap.size ns (passN ns 0) V:=fun V h1 h2 =>
  ⟨⟨h1.1,h1.2.imp id fun ⟨g,cap,cur,a,b,c⟩ => ⟨g,cap,cur,a,Nat.le_trans hb0.size b,c⟩⟩,pass_len ns 0,hb0.trans (h2.mono hb0.size)⟩
 have hbd:∀ p k:Nat,p < ns.length->k<=ns.length->Bd (sweepN ns (passN ns p) k) 1000000:=fun p k hp hk i => by
  have:=bd_sweep (ns:=ns) (bd_pass ns p) (Int.mul_nonneg (by omega) (by omega)) (pass_len ns p) k hk i
  have h2:(p:Int) * (ns.length:Int)<=14 * 14:=Int.mul_le_mul (by omega) (by omega) (by omega) (by omega)
  omega
 have habove:∀ (p k g:Nat) (wr:World) (Ai:Option Addr) (ci:Nat),p < ns.length->k < ns.length->RI w g ns (sweepN ns (passN ns p) k) wr->NtRow wr Ai (nd ns k)->Calls Tryz.prog 134 #[.slice Ai (nd ns k).length ci,.slice (some ⟨g,0,none⟩) ns.length ns.length] wr fun e w' => e=.returned (.int .i64 (aboveI (sweepN ns (passN ns p) k) (nd ns k) 0))/\wr=w':=fun p k g wr Ai ci hp hk hR hr => by
  have:=above_any (nd ns k) (sweepN ns (passN ns p) k) Ai (some ⟨g,0,none⟩) ci ns.length wr (hin k hk).1 hr (own_row hR.own hR.len) (fun i hi => by rw [hR.len]; exact (hin k hk).2 i hi) (by rw [hR.len]; omega) (hbd p k hp (by omega))
  rw [hR.len] at this
  exact this
 have HA:=Lib.hid hA
 have HR:=Lib.hid hrep
 have HS:=Lib.hid hstart
 have HAb:=Lib.hid habove
 have HW:=Lib.hid hW
 have HB0:=Lib.hid hb0
 clear hA hrep hstart hbd habove hW hb0 hx0
 go_enter Tryz.func105,Tryz.ntmps105
 go_wp2_with (go_at_call 133; rw [HW.out]; refine HR.out.mono ?_; rintro e w1 ⟨rfl,hown,hb1⟩; have hS:=HS.out w1 hown hb1; have HS1:=Lib.hid hS; clear hS hown hb1)
 generalize W.heap.size=g at HS1 ⊢
 go_loopw [4,5,12] (fun _ _ ii wr => ∃ p:Nat,ii=.int .i64 p/\p<=ns.length/\RI w g ns (passN ns p) wr) (fun _ _ ii _ => ns.length - (intOf ii).toNat)
 case atStart => exact ⟨0,rfl,by omega,HS1.out⟩
 case round =>
  obtain ⟨p,rfl,hp,hI⟩:=hrel
  have HI:=Lib.hid hI
  clear hI
  by_cases hlt:p < ns.length
  ·obtain ⟨Wp,rfl⟩:∃ V,V=wr:=⟨_,rfl⟩
   go_wp2_with fail
   go_loopw [4,5,16] (fun _ _ ii wr => ∃ k:Nat,ii=.int .i64 k/\k<=ns.length/\RI w g ns (sweepN ns (passN ns p) k) wr) (fun _ _ ii _ => ns.length - (intOf ii).toNat)
   case atStart => exact ⟨0,rfl,by omega,HI.out⟩
   case round =>
    obtain ⟨k,rfl,hk,hV⟩:=hrel
    by_cases hkl:k < ns.length
    ·obtain ⟨g2,rfl,Ai,ci,hc,hr⟩:=HA.out.below hV.below k hkl
     have hab:=HAb.out p k g wr Ai ci hlt hkl hV hr
     have hset:=hV.set k (aboveI (sweepN ns (passN ns p) k) (nd ns k) 0)
     have hcell:wr.cell? ⟨g,k,none⟩=some (.int .i64 (rk (sweepN ns (passN ns p) k) k)):=by rw [hV.own.cellAt k (by omega),iV_at _ _ (by rw [hV.len]; exact hkl)]
     have hfz:=hV.own.frozenAt k
     have hnext:RI w g ns (sweepN ns (passN ns p) (k + 1)) (wr.setCell ⟨g,k,none⟩ (.int .i64 (aboveI (sweepN ns (passN ns p) k) (nd ns k) 0))):=hset
     generalize aboveI (sweepN ns (passN ns p) k) (nd ns k) 0=u at hab hnext
     generalize rk (sweepN ns (passN ns p) k) k=u0 at hcell
     have HAB:=Lib.hid hab
     have HN:=Lib.hid hnext
     have hki:(k:Int) < (ns.length:Int):=by omega
     clear hab hset hnext hr hV
     go_wp2_with (go_at_call 134; refine HAB.out.mono ?_; rintro e w1 ⟨rfl,rfl⟩)
     go_roundw
     case rel => exact ⟨k + 1,by go_num,by omega,HN.out⟩
     case measure => simp [intOf]; omega
    ·obtain rfl:k=ns.length:=by omega
     have HV:=Lib.hid hV
     clear hV
     go_wp2_with fail
     go_roundw
     case rel => exact ⟨p + 1,by go_num,by omega,HV.out⟩
     case measure => simp [intOf]; omega
  ·obtain rfl:p=ns.length:=by omega
   go_wp2_with fail
   go_ret
   exact ⟨_,rfl,HI.out.own,HI.out.below⟩
end RkC
namespace RkD
open Go.RowKit
open ValM LexM NumM ExM NmM Kit ExL ExP ExN ExC RawV Within RawL GenL FldP FldR FldC NmO NmA NmI NmT NmR RkM RkA RkB RkC
set_option linter.unusedVariables false
def plN (fs:List GenL.Fd) (s:ByteArray):Nat:=if atF fs s < fs.length then atF fs s else 0
def needF (fs:List GenL.Fd) (X:Nat->Ex) (k:Nat):List Nat :=
 if h:k < fs.length then (if fs[k].kind=1 then [] else (mkL (ofL (X k))).map (plN fs)) else []
def needsF (fs:List GenL.Fd) (X:Nat->Ex):List (List Nat):=(List.range fs.length).map (needF fs X)
theorem needsF_len (fs:List GenL.Fd) (X:Nat->Ex):(needsF fs X).length=fs.length:=by unfold needsF; simp
theorem needsF_nd (fs:List GenL.Fd) (X:Nat->Ex) (k:Nat) (h:k < fs.length):nd (needsF fs X) k=needF fs X k:=by
 unfold nd needsF
 rw [List.getD_eq_getElem?_getD,List.getElem?_map,List.getElem?_range h]; rfl
theorem ofL_len (x:Ex):(ofL x).length<=60:=by
 unfold ofL
 by_cases h:x.checkE=0
 ·rw [if_pos h]
  have h1:=rise_len (bytesL (Ex.refs x))
  have h2:=refs_len x
  have h3:=(checkE_zero h).1
  have h4:(bytesL (Ex.refs x)).length=(Ex.refs x).length:=List.length_map _
  omega
 ·rw [if_neg h]; simp
theorem plN_lt (fs:List GenL.Fd) (s:ByteArray) (h:0 < fs.length):plN fs s < fs.length:=by unfold plN; split <;> omega
theorem needsF_ok (fs:List GenL.Fd) (X:Nat->Ex) (h:fs.length<=14):Okn (needsF fs X):=by
 refine ⟨by rw [needsF_len]; exact h,fun i hi => ?_⟩
 rw [needsF_len] at hi ⊢
 rw [needsF_nd _ _ _ hi]
 unfold needF
 rw [dif_pos hi]
 split
 ·exact ⟨by simp,fun j hj => by simp at hj⟩
 ·refine ⟨?_,fun j hj => ?_⟩
  ·rw [List.length_map,mkL_len]; have:=ofL_len (X i); omega
  ·obtain ⟨s,_,rfl⟩:=List.mem_map.1 hj
   exact plN_lt fs s (by omega)
def nV (L:List Nat):List Value:=L.map fun (j:Nat) => Value.int .i64 (j:Int)
theorem nV_len (L:List Nat):(nV L).length=L.length:=List.length_map _
theorem nV_snoc (L:List Nat) (j:Nat):nV (L ++ [j])=nV L ++ [.int .i64 (j:Int)]:=by unfold nV; rw [List.map_append]; rfl
def NtP (P:Nat->Prop) (w:World) (A:Option Addr) (L:List Nat):Prop:=∀ (j:Nat) (h:j < L.length),∃ g,A=some ⟨g,0,none⟩/\P g/\w.cell? ⟨g,j,none⟩=some (.int .i64 (L[j]:Int))
theorem NtP.row {P:Nat->Prop} {w:World} {A:Option Addr} {L:List Nat} (h:NtP P w A L):NtRow w A L:=fun j hj => by
 obtain ⟨g,e,_,hc⟩:=h j hj
 exact ⟨g,e,hc⟩
theorem NtP.keep {P Q:Nat->Prop} {w w':World} {A:Option Addr} {L:List Nat} (h:NtP P w A L) (hk:∀ b,P b->b < w.heap.size->w'.heap[b]?=w.heap[b]?) (hq:∀ b,P b->b < w.heap.size->Q b):NtP Q w' A L:=fun j hj => by
 obtain ⟨g,e,hp,hc⟩:=h j hj
 have hl:g < w.heap.size:=World.block_lt_of_cell? w _ hc
 exact ⟨g,e,hq _ hp hl,(World.cell?_of_block (a:=⟨g,j,none⟩) (hk _ hp hl)).trans hc⟩
theorem NtP.of_own {w:World} {base:Nat} {v:Value} {L:List Nat} (h:w.ownsRow base 3 1 v L.length (nV L)):∃ A c,v=.slice A L.length c/\NtP (fun b => base<=b) w A L:=by
 rcases h.2 with ⟨h1,h2⟩ | ⟨g,cap,cur,h1,hb,_⟩
 ·exact ⟨none,0,by rw [h1,h2],fun j hj => by omega⟩
 ·subst h1
  refine ⟨some ⟨g,0,none⟩,cap,rfl,fun j hj => ⟨g,rfl,hb,?_⟩⟩
  rw [h.cellAt j (by omega),List.getElem?_eq_getElem (by rw [nV_len]; exact hj)]
  unfold nV; rw [List.getElem_map]
def nilS:Value:=.slice none 0 0
structure DI (w:World) (ns:List (List Nat)) (k:Nat) (dn:List Nat) (v:Value) (C:List Value) (wr:World):Prop where
 row:wr.ownsRow w.heap.size 69 1 (.slice (some ⟨w.heap.size,0,none⟩) ns.length ns.length) ns.length C
 cur:k < ns.length->C[k]?=some v
 own:wr.ownsRow (w.heap.size + 1) 3 1 v dn.length (nV dn)
 fin:∀ i,i < k->∃ A c,C[i]?=some (.slice A (nd ns i).length c)/\NtP (fun b => w.heap.size < b/\some b ≠ v.ownBlock) wr A (nd ns i)
 rest:∀ i,k < i->i < ns.length->C[i]?=some nilS
 below:Below w.heap.size w wr
theorem DI.keep {w:World} {ns:List (List Nat)} {k:Nat} {dn:List Nat} {v:Value} {C:List Value} {wr w':World} (h:DI w ns k dn v C wr) (hb:Below wr.heap.size wr w'):DI w ns k dn v C w' :=
 ⟨GenL.own_below h.row hb,h.cur,GenL.own_below h.own hb,fun i hi => by
  obtain ⟨A,c,e,hn⟩:=h.fin i hi
  exact ⟨A,c,e,hn.keep (fun b _ hl => hb.block b hl) (fun b hp _ => hp)⟩,h.rest,h.below.trans (hb.mono h.below.size)⟩
theorem DI.next {w:World} {ns:List (List Nat)} {k:Nat} {v:Value} {C:List Value} {wr:World} (h:DI w ns k (nd ns k) v C wr) (hk:k < ns.length):DI w ns (k + 1) [] nilS C wr:=by
 refine ⟨h.row,fun hk1 => h.rest (k + 1) (by omega) hk1,World.ownsRow_nil _ _ _ _,fun i hi => ?_,fun i hi1 hi2 => h.rest i (by omega) hi2,h.below⟩
 by_cases e:i=k
 ·subst e
  obtain ⟨A,c,e1,hn⟩:=NtP.of_own h.own
  exact ⟨A,c,by rw [h.cur hk,e1],hn.keep (fun _ _ _ => rfl) (fun b hb _ => ⟨by omega,by simp [nilS,Value.ownBlock]⟩)⟩
 ·obtain ⟨A,c,e1,hn⟩:=h.fin i (by omega)
  exact ⟨A,c,e1,hn.keep (fun _ _ _ => rfl) (fun b hb _ => ⟨hb.1,by simp [nilS,Value.ownBlock]⟩)⟩
theorem DI.done {w:World} {ns:List (List Nat)} {C:List Value} {wr:World} (h:DI w ns ns.length [] nilS C wr):NsRow wr (some ⟨w.heap.size,0,none⟩) ns:=fun i hi => by
 obtain ⟨A,c,e,hn⟩:=h.fin i hi
 exact ⟨w.heap.size,rfl,A,c,by rw [h.row.cellAt i (by omega),e],hn.row⟩
theorem DI.step {w:World} {ns:List (List Nat)} {k:Nat} {dn:List Nat} {v:Value} {C:List Value} {wr w6:World} {j gg cap:Nat} {tmp:Obj} (h:DI w ns k dn v C wr) (hk:k < ns.length)
  (hown6:w6.ownsRow (w.heap.size + 1) 3 1 (.slice (some ⟨gg,0,none⟩) (dn.length + 1) cap) (dn.length + 1) (nV dn ++ [.int .i64 (j:Int)])) (hgrow6:(wr.alloc tmp).grownBy w6 v.ownBlock) (hat6:v.ownBlock=some gg ∨ gg=wr.heap.size + 1) :
  DI w ns k (dn ++ [j]) (.slice (some ⟨gg,0,none⟩) (dn.length + 1) cap) (C.set k (.slice (some ⟨gg,0,none⟩) (dn.length + 1) cap)) (w6.setCell ⟨w.heap.size,k,none⟩ (.slice (some ⟨gg,0,none⟩) (dn.length + 1) cap)):=by
 have hgg:w.heap.size + 1<=gg:=(hown6.lt gg rfl).1
 have hge:Value.ownBlock (.slice (some ⟨gg,0,none⟩) (dn.length + 1) cap)=some gg:=rfl
 have hwl:w.heap.size < wr.heap.size:=(h.row.lt _ rfl).2
 have hne0:some w.heap.size ≠ v.ownBlock:=fun e => by have:=(h.own.lt _ e.symm).1; omega
 have hrow6:w6.ownsRow w.heap.size 69 1 (.slice (some ⟨w.heap.size,0,none⟩) ns.length ns.length) ns.length C:=(h.row.alloc tmp).kept hgrow6 (.inr hne0)
 have f0:∀ b,b < wr.heap.size->b ≠ w.heap.size->some b ≠ v.ownBlock->(w6.setCell ⟨w.heap.size,k,none⟩ (.slice (some ⟨gg,0,none⟩) (dn.length + 1) cap)).heap[b]?=wr.heap[b]?:=fun b hl h1 h2 =>
  (Below.heap_setCell w6 ⟨w.heap.size,k,none⟩ _ b h1).trans (NmR.app_keep hgrow6 hl h2)
 have hCl:C.length=ns.length:=by have:=h.row.1; omega
 refine ⟨(hrow6.stored k _).1,fun _ => by rw [List.getElem?_set_self (by omega)],?_,fun i hi => ?_,fun i hi1 hi2 => ?_,?_⟩
 ·rw [List.length_append,nV_snoc]
  refine World.ownsRow.kept (row:=some w.heap.size) hown6 (hrow6.stored k _).2 (.inr ?_)
  rw [hge]; intro e; injection e with e; omega
 ·obtain ⟨A,c,e,hn⟩:=h.fin i hi
  refine ⟨A,c,by rw [List.getElem?_set_ne (by omega)]; exact e,hn.keep (fun b hb hl => f0 b hl (by omega) hb.2) (fun b hb hl => ⟨hb.1,?_⟩)⟩
  rw [hge]; intro e; injection e with e
  rcases hat6 with g | g
  ·exact hb.2 (by rw [g,e])
  ·omega
 ·rw [List.getElem?_set_ne (by omega)]; exact h.rest i hi1 hi2
 ·have h1:=h.below.size
  have h2:=hgrow6.size
  refine ⟨hgrow6.os.trans h.below.os,hgrow6.tape.trans h.below.tape,hgrow6.output.trans h.below.output,by simp [World.setCell] at h2 ⊢; omega,fun b hb => ?_⟩
  exact (f0 b (by omega) (by omega) (fun e => by have:=(h.own.lt _ e.symm).1; omega)).trans (h.below.block b hb)
theorem DI.cells {w:World} {ns:List (List Nat)} {k:Nat} {dn:List Nat} {v:Value} {C:List Value} {wr:World} (h:DI w ns k dn v C wr) (hk:k < ns.length):wr.cell? ⟨w.heap.size,k,none⟩=some v/\wr.frozen? ⟨w.heap.size,k,none⟩=false/\w.heap.size < wr.heap.size :=
 ⟨by rw [h.row.cellAt k (by omega),h.cur hk],h.row.frozenAt k,(h.row.lt _ rfl).2⟩
theorem DI.cells6 {w:World} {ns:List (List Nat)} {k:Nat} {dn:List Nat} {v:Value} {C:List Value} {wr w6:World} {tmp:Obj} (h:DI w ns k dn v C wr) (hk:k < ns.length) (hgrow6:(wr.alloc tmp).grownBy w6 v.ownBlock):w6.cell? ⟨w.heap.size,k,none⟩=some v/\w6.frozen? ⟨w.heap.size,k,none⟩=false:=by
 have hne0:some w.heap.size ≠ v.ownBlock:=fun e => by have:=(h.own.lt _ e.symm).1; omega
 have hrow6:w6.ownsRow w.heap.size 69 1 (.slice (some ⟨w.heap.size,0,none⟩) ns.length ns.length) ns.length C:=(h.row.alloc tmp).kept hgrow6 (.inr hne0)
 exact ⟨by rw [hrow6.cellAt k (by omega),h.cur hk],hrow6.frozenAt k⟩
def SRowB (base:Nat) (w:World) (A:Option Addr) (L:List ByteArray):Prop:=∀ (j:Nat) (h:j < L.length),∃ g,A=some ⟨g,0,none⟩/\base<=g/\w.cell? ⟨g,j,none⟩=some (.string L[j])
theorem SRowB.of_own {w:World} {base:Nat} {v:Value} {M:List Bs} (h:w.ownsRow base 9 1 v M.length (M.map encStr)):∃ A c,v=.slice A M.length c/\SRowB base w A (mkL M):=by
 rcases h.2 with ⟨h1,h2⟩ | ⟨g,cap,cur,h1,hb,_⟩
 ·exact ⟨none,0,by rw [h1,h2],fun j hj => by rw [mkL_len] at hj; omega⟩
 ·subst h1
  refine ⟨some ⟨g,0,none⟩,cap,rfl,fun j hj => ⟨g,rfl,hb,?_⟩⟩
  have hj2:j < M.length:=by rw [mkL_len] at hj; exact hj
  rw [h.cellAt j (by omega),enc_at M j hj2]
  have e:(mkL M)[j]=mkB M[j]:=List.getElem_map _
  rw [e]
structure Kq (R:Nat) (a b:World):Prop where
 size:a.heap.size<=b.heap.size
 block:∀ c,c < a.heap.size->c ≠ R->b.heap[c]?=a.heap[c]?
theorem SRowB.kq {R base:Nat} {w w':World} {A:Option Addr} {L:List ByteArray} (h:SRowB base w A L) (hR:R < base) (hk:Kq R w w'):SRowB base w' A L:=fun j hj => by
 obtain ⟨g,e,hb,hc⟩:=h j hj
 have hl:g < w.heap.size:=World.block_lt_of_cell? w _ hc
 exact ⟨g,e,hb,(World.cell?_of_block (a:=⟨g,j,none⟩) (hk.block g hl (by omega))).trans hc⟩
theorem Kq.step {R k:Nat} {w6 wr w8:World} {v u:Value} {tmp:Obj} (h:Kq R w6 wr) (hv:∀ b,v.ownBlock=some b->w6.heap.size<=b) (hg:(wr.alloc tmp).grownBy w8 v.ownBlock):Kq R w6 (w8.setCell ⟨R,k,none⟩ u):=by
 have h2:=hg.size
 refine ⟨by have:=h.size; simp [World.setCell] at h2 ⊢; omega,fun c hc hne => ?_⟩
 refine (Below.heap_setCell w8 ⟨R,k,none⟩ _ c hne).trans ((NmR.app_keep hg (by have:=h.size; omega) (fun e => by have:=hv c e.symm; omega)).trans (h.block c hc hne))
def DirOut (ns:List (List Nat)) (w:World) (e:Ending) (w':World):Prop :=
 ∃ A c,e=.returned (.slice A ns.length c)/\NsRow w' A ns/\Below w.heap.size w w'/\∀ g,A=some ⟨g,0,none⟩->∃ cs,w'.heap[g]?=some (.cells cs 69 (0,0))
theorem infoSl:(Tryz.prog.info? 69).map (fun i => (i.zero,i.size,i.bytes))=some (some (.slice none 0 0),1,24):=by kernel_rfl
theorem di_start {w w1:World} {ns:List (List Nat)} (h:w1.ownsRow w.heap.size 69 1 (.slice (some ⟨w.heap.size,0,none⟩) ns.length ns.length) ns.length (madeCells (Value.slice none 0 0).cells (ns.length * 1)).toList) (hg:w.grownBy w1 none):DI w ns 0 [] nilS (madeCells (Value.slice none 0 0).cells (ns.length * 1)).toList w1:=by
 have e:(madeCells (Value.slice none 0 0).cells (ns.length * 1)).toList=List.replicate ns.length nilS:=by
  rw [Nat.mul_one]; exact toList_madeCells_one _ _
 rw [e] at h ⊢
 exact ⟨h,fun hk => by rw [List.getElem?_replicate,if_pos hk],World.ownsRow_nil _ _ _ _,fun i hi => absurd hi (by omega),fun i _ hi => by rw [List.getElem?_replicate,if_pos hi],(Below.refl _ _).grown hg (Nat.le_refl _) (fun k e => by cases e)⟩
set_option maxRecDepth 100000 in
set_option maxHeartbeats 8000000 in
theorem direct_any (fs:List GenL.Fd) (X:Nat->Ex) (FA:Option Addr) (fc:Nat) (w:World) (hm:fs.length<=14) (hf:Flds w FA fs) (hX:Forms w fs X) (hT:Tab w) :
  Calls Tryz.prog 64 #[.slice FA fs.length fc] w (DirOut (needsF fs X) w):=by
 obtain ⟨i0,hi,hz0,hz1,hz2⟩:=info_parts1 infoInt
 obtain ⟨s0,hsi,hsz0,hsz1,hsz2⟩:=info_parts1 infoSl
 obtain ⟨ns,hns⟩:∃ ns,needsF fs X=ns:=⟨_,rfl⟩
 have hnl:ns.length=fs.length:=by rw [← hns,needsF_len]
 have hnd:∀ k,k < fs.length->nd ns k=needF fs X k:=fun k hk => by rw [← hns,needsF_nd _ _ _ hk]
 rw [hns]
 have hst:=fun w1 => di_start (w:=w) (w1:=w1) (ns:=ns)
 rw [hnl] at hst
 have hfin:∀ C wr,DI w ns fs.length [] nilS C wr->DirOut ns w (.returned (.slice (some ⟨w.heap.size,0,none⟩) fs.length fs.length)) wr:=fun C wr h => by
  rw [← hnl] at h
  exact ⟨some ⟨w.heap.size,0,none⟩,fs.length,by rw [hnl],h.done,h.below,fun g e => by
   injection e with e; injection e with e _ _
   rw [← e]; exact ⟨_,own_blk h.row⟩⟩
 have HF:=Lib.hid hf
 have HX:=Lib.hid hX
 have HT:=Lib.hid hT
 have HNd:=Lib.hid hnd
 have HSt:=Lib.hid hst
 have HFin:=Lib.hid hfin
 have HNl:=Lib.hid hnl
 clear hf hX hT hnd hst hfin hnl hns
 go_enter Tryz.func64,Tryz.ntmps64
 go_wp2_with ((at_make; refine wpList_make_full _ rfl _ _ 108 rfl w.heap.size 69 s0 _ 1 Tryz.underlying108 hsi hsz0 hsz1 .i64 .i64 _ _ fs.length rfl rfl rfl rfl (by rw [hsz2]; omega) (by unfold maxLen; omega) (Nat.le_refl _) ?_; intro w1 hown hgrow))
 have hI:=HSt.out w1 hown hgrow
 have HI:=Lib.hid hI
 clear hI hown hgrow
 go_wp2_with fail
 go_loopw [4,5,6,7,9,10,11,17] (fun _ _ _ _ _ _ _ ii wr => ∃ (k:Nat) (C:List Value),ii=.int .i64 k/\k<=fs.length/\DI w ns k [] nilS C wr) (fun _ _ _ _ _ _ _ ii _ => fs.length - (intOf ii).toNat)
 case atStart => exact ⟨0,_,rfl,by omega,HI.out⟩
 case round =>
  obtain ⟨k,C,rfl,hk,hV⟩:=hrel
  by_cases hlt:k < fs.length
  ·obtain ⟨ad,rfl,hat⟩:=HF.out.below hV.below k hlt
   obtain ⟨q0,q1,q2,q3,q4,q5,q6,q7,q8⟩:=hat
   obtain ⟨hs,his⟩:=HX.out.below hV.below k hlt
   have hnk:=HNd.out k hlt
   unfold needF at hnk
   rw [dif_pos hlt] at hnk
   have hT5:=HT.out.below hV.below
   obtain ⟨f,hfk⟩:∃ f,fs[k]=f:=⟨_,rfl⟩
   rw [hfk] at q0 q1 q2 q3 q4 q5 q6 q7 q8 hs his hnk
   obtain ⟨W5,hW5⟩:∃ V,wr.alloc (.cells #[.string f.nm,.int .i64 f.kind,.int .i64 f.ty,.int .i64 f.d.op,.int .i64 f.d.k,.int .i64 f.d.n,.string f.d.s,.string f.d.nm,.slice f.A f.n f.c] 43)=V:=⟨_,rfl⟩
   obtain ⟨B9,hB9⟩:∃ B,wr.heap.size=B:=⟨_,rfl⟩
   have hb5:=b_new wr (.cells #[.string f.nm,.int .i64 f.kind,.int .i64 f.ty,.int .i64 f.d.op,.int .i64 f.d.k,.int .i64 f.d.n,.string f.d.s,.string f.d.nm,.slice f.A f.n f.c] 43)
   have hcell:=head_cells wr f
   unfold rightHead at hcell
   rw [hW5,hB9] at hcell
   rw [hW5] at hb5
   have hof:=NmO.of_any (X k) f.d f.A f.n f.c W5 (his.below hb5) (hT5.below hb5)
   have hV5:=hV.keep hb5
   have hlen:=ofL_len (X k)
   have hkl:k < ns.length:=by rw [HNl.out]; exact hlt
   generalize hM:ofL (X k)=M at hof hnk hlen
   have HOf:=Lib.hid hof
   have HV5:=Lib.hid hV5
   have HCell:=Lib.hid hcell
   have HW5:=Lib.hid hW5
   have HB9:=Lib.hid hB9
   have HNk:=Lib.hid hnk
   obtain ⟨k0,k1,k2,k3,k4,k5,k6,k7,k8⟩:=hcell W5 (Below.refl _ _)
   clear hof hV5 hcell hW5 hB9 hb5 his hT5 hs hfk hV hnk hM
   by_cases h1:f.kind=1
   ·have t1:(f.kind == 1)=true:=beq_iff_eq.2 h1
    have hnk:=HNk.out
    rw [if_pos h1] at hnk
    have hN:=DI.next (by rw [hnk]; exact HV5.out) hkl
    have HN:=Lib.hid hN
    clear hnk hN h1
    go_wp2_with fail
    rw [HW5.out]
    go_roundw
    case rel => exact ⟨k + 1,C,by go_num,by omega,HN.out⟩
    case measure => simp [intOf]; omega
   ·have t1:(f.kind == 1)=false:=beq_eq_false_iff_ne.2 h1
    have hnk:=HNk.out
    rw [if_neg h1] at hnk
    have HNk:=Lib.hid hnk
    clear hnk h1
    go_wp2_with fail
    rw [HW5.out,HB9.out]
    go_wp2_with fail
    refine HOf.out.mono ?_; rintro e w6 ⟨v6,rfl,hown6,hb6⟩
    obtain ⟨A6,c6,rfl,hr6⟩:=SRowB.of_own hown6
    have hRl:w.heap.size < W5.heap.size:=(HV5.out.row.lt _ rfl).2
    have hV6:=HV5.out.keep hb6
    have HV6:=Lib.hid hV6
    have HR6:=Lib.hid hr6
    clear hown6 hr6 hV6 hb6
    go_wp2_with fail
    go_loopw [9,10,11,33] (fun _ _ _ ii wr => ∃ (m:Nat) (v:Value) (C:List Value),ii=.int .i64 m/\m<=M.length/\DI w ns k (((mkL M).take m).map (plN fs)) v C wr/\Kq w.heap.size w6 wr/\∀ b,v.ownBlock=some b->w6.heap.size<=b) (fun _ _ _ ii _ => M.length - (intOf ii).toNat)
    case atStart => exact ⟨0,nilS,C,rfl,by omega,HV6.out,⟨Nat.le_refl _,fun _ _ _ => rfl⟩,fun b e => by simp [nilS,Value.ownBlock] at e⟩
    case round =>
     obtain ⟨m,v,C2,rfl,hml,hV7,hb7,hv7⟩:=hrel
     by_cases hmm:m < M.length
     ·have hmm2:m < (mkL M).length:=by rw [mkL_len]; exact hmm
      obtain ⟨g6,rfl,_,hc6⟩:=SRowB.kq HR6.out hRl hb7 m hmm2
      obtain ⟨r9,hfi⟩:∃ r9:Int,Calls Tryz.prog 63 #[.slice (some ad) fs.length fc,.string (mkL M)[m]] wr fun e w' => e=.returned (.tuple #[.int .i64 (plN fs (mkL M)[m]:Nat),.int .i64 r9])/\wr=w':=by
       have:=find_any (mkL M)[m] fs (some ad) fc wr (HF.out.below hV7.below) (by omega)
       refine ⟨if atF fs (mkL M)[m] < fs.length then 0 else 5,this.mono fun e w' h => ⟨?_,h.2⟩⟩
       rw [h.1]; unfold plN
       by_cases h9:atF fs (mkL M)[m] < fs.length
       ·simp only [if_pos h9]
       ·simp only [if_neg h9]; rfl
      have htk:((mkL M).take (m + 1)).map (plN fs)=((mkL M).take m).map (plN fs) ++ [plN fs (mkL M)[m]]:=by
       rw [List.take_succ_eq_append_getElem hmm2,List.map_append]; rfl
      have hstep:∀ (gg cap:Nat) (w6:World) (tmp:Obj),w6.ownsRow (w.heap.size + 1) 3 1 (.slice (some ⟨gg,0,none⟩) (m + 1) cap) (m + 1) (nV (((mkL M).take m).map (plN fs)) ++ [.int .i64 (plN fs (mkL M)[m]:Nat)])->(wr.alloc tmp).grownBy w6 v.ownBlock->(v.ownBlock=some gg ∨ gg=wr.heap.size + 1)->DI w ns k (((mkL M).take (m + 1)).map (plN fs)) (.slice (some ⟨gg,0,none⟩) (m + 1) cap) (C2.set k (.slice (some ⟨gg,0,none⟩) (m + 1) cap)) (w6.setCell ⟨w.heap.size,k,none⟩ (.slice (some ⟨gg,0,none⟩) (m + 1) cap)):=fun gg cap w6 tmp h1 h2 h3 => by
       have hdl:(((mkL M).take m).map (plN fs)).length=m:=by rw [List.length_map,List.length_take]; omega
       have:=hV7.step (j:=plN fs (mkL M)[m]) (gg:=gg) (cap:=cap) hkl (by rw [hdl]; exact h1) h2 h3
       rw [hdl] at this
       rw [htk]; exact this
      have hown7:wr.ownsRow (w.heap.size + 1) 3 1 v m (nV (((mkL M).take m).map (plN fs))):=by
       have hdl:(((mkL M).take m).map (plN fs)).length=m:=by rw [List.length_map,List.length_take]; omega
       have:=hV7.own
       rw [hdl] at this; exact this
      have hkq:∀ (w8:World) (tmp:Obj) (u:Value),(wr.alloc tmp).grownBy w8 v.ownBlock->Kq w.heap.size w6 (w8.setCell ⟨w.heap.size,k,none⟩ u):=fun w8 tmp u h => hb7.step hv7 h
      have hov:∀ gg:Nat,(v.ownBlock=some gg ∨ gg=wr.heap.size + 1)->w6.heap.size<=gg:=fun gg h => by
       rcases h with h | h
       ·exact hv7 gg h
       ·have:=hb7.size; omega
      have hkeep:∀ (w6:World) (tmp:Obj),(wr.alloc tmp).grownBy w6 v.ownBlock->(w6.cell? ⟨w.heap.size,k,none⟩=some v/\w6.frozen? ⟨w.heap.size,k,none⟩=false):=fun w6 tmp h => hV7.cells6 hkl h
      obtain ⟨z1,z2,z3⟩:=hV7.cells hkl
      generalize nV (((mkL M).take m).map (plN fs))=xs7 at hown7 hstep
      generalize plN fs (mkL M)[m]=pl at hfi hstep
      generalize (mkL M)[m]=s at hfi hc6
      have HStep:=Lib.hid hstep
      have HOwn:=Lib.hid hown7
      have HKeep:=Lib.hid hkeep
      have HFi:=Lib.hid hfi
      have HKq:=Lib.hid hkq
      have HOv:=Lib.hid hov
      have hki:(k:Int) < (fs.length:Int):=by omega
      clear hstep hown7 hkeep hkq hov hfi hb7 hv7 htk hV7 hmm2
      go_wp2_with (first
       | (go_at_call 63; refine HFi.out.mono ?_; rintro e w1 ⟨rfl,rfl⟩)
       | (at_builtin; refine wpList_append_lies _ rfl _ _ 69 rfl (w.heap.size + 1) 3 i0 _ 1 8 Tryz.underlying69 hi hz0 hz1 hz2 rfl (by decide) v m xs7 rfl (HOwn.out.alloc _) ⟨wr.heap.size,0,none⟩ 1 1 [.int .i64 (pl:Int)] rfl rfl (World.news_of_block (cs:=#[.int .i64 (pl:Int)]) (t:=3) (fr:=(0,0)) (World.alloc_heap_new wr _)) (by simp [Value.oneCell']) (by decide) (by unfold maxLen; omega) (by omega) (by simp; omega) (wr.heap.size + 1) (by simp) ?_; intro gg cap w8 hown8 hgrow8 hat8 hlt8; obtain ⟨y0,yf⟩:=HKeep.out w8 _ hgrow8; have hN:=HStep.out gg cap w8 _ hown8 hgrow8 hat8; have HN:=Lib.hid hN; have HQ:=Lib.hid (HKq.out w8 _ (.slice (some ⟨gg,0,none⟩) (m + 1) cap) hgrow8); have HO9:=Lib.hid (HOv.out gg hat8); clear hN hown8 hgrow8 hat8 hlt8))
      go_roundw
      case rel => exact ⟨m + 1,_,_,by go_num,by omega,HN.out,HQ.out,fun b e => by injection e with e; rw [← e]; exact HO9.out⟩
      case measure => simp [intOf]; omega
     ·obtain rfl:m=M.length:=by omega
      have hN:=DI.next (v:=v) (C:=C2) (by rw [HNk.out]; have:=hV7; rw [List.take_of_length_le (by rw [mkL_len]; exact Nat.le_refl _)] at this; exact this) hkl
      have HN:=Lib.hid hN
      clear hN hV7 hb7 hv7
      go_wp2_with fail
      go_roundw
      case rel => exact ⟨k + 1,_,by go_num,by omega,HN.out⟩
      case measure => simp [intOf]; omega
  ·obtain rfl:k=fs.length:=by omega
   have hO:=HFin.out C wr hV
   have HO:=Lib.hid hO
   clear hO hV
   go_wp2_with fail
   go_ret
   exact HO.out
end RkD
namespace WhT
open Go.RowKit
open ValM LexM NumM ExM NmM StrM EvM EvP Kit ExL ExP ExN ExC RawV Within RawL RawN GenL FrmM FldP FldR FldC TyM Ty NmO NmA NmI NmT NmR RkM RkA RkB RkC RkD TxT WhM
set_option linter.unusedVariables false
theorem chain {ns:List (List Nat)} (h0:∀ i,i < ns.length->0<=rk (rankF ns) i) (h:∀ i,i < ns.length->∀ j ∈ nd ns i,j < ns.length):∀ (r i:Nat),i < ns.length->rk (rankF ns) i=(r:Int) →
  ∃ l:List Nat,l.Nodup/\l.length=r + 1/\∀ x ∈ l,x < ns.length/\rk (rankF ns) x<=(r:Int)
 | 0,i,hi,hr => ⟨[i],by simp,rfl,fun x hx => by
  rw [List.mem_singleton] at hx
  subst hx
  exact ⟨hi,by omega⟩⟩
 | r + 1,i,hi,hr => by
  obtain ⟨h1,h2,h3⟩:=rank_mx h0 h i hi
  rcases h3 with h3 | ⟨j,hj,e⟩
  ·omega
  ·obtain ⟨l,a,b,c⟩:=chain h0 h r j (h i hi j hj) (by omega)
   refine ⟨i :: l,List.nodup_cons.2 ⟨fun hm => ?_,a⟩,by rw [List.length_cons,b],fun x hx => ?_⟩
   ·have:=(c i hm).2
    omega
   ·rcases List.mem_cons.1 hx with rfl | hx
    ·exact ⟨hi,by omega⟩
    ·exact ⟨(c x hx).1,by have:=(c x hx).2; omega⟩
theorem bd_nodup:∀ (n:Nat) (l:List Nat),l.Nodup->(∀ x ∈ l,x < n)->l.length<=n
 | 0,l,_,h => by
  cases l with
  | nil => exact Nat.le_refl _
  | cons x l => exact absurd (h x (by simp)) (by omega)
 | n + 1,l,hd,h => by
  have h1:=bd_nodup n (l.erase n) (hd.erase n) (fun x hx => by
   have h2:=(hd.mem_erase_iff).1 hx
   have h3:=h x h2.2
   omega)
  by_cases hm:n ∈ l
  ·rw [List.length_erase_of_mem hm] at h1
   omega
  ·rw [List.erase_of_not_mem hm] at h1
   omega
theorem rank_lt {ns:List (List Nat)} (h0:∀ i,i < ns.length->0<=rk (rankF ns) i) (h:∀ i,i < ns.length->∀ j ∈ nd ns i,j < ns.length) (i:Nat) (hi:i < ns.length):(rk (rankF ns) i).toNat < ns.length:=by
 have h1:=h0 i hi
 obtain ⟨l,a,b,c⟩:=chain h0 h (rk (rankF ns) i).toNat i hi (by omega)
 have:=bd_nodup ns.length l a fun x hx => (c x hx).1
 omega
def toW (e:FE):Fw:=⟨e.nm,e.kind,e.ty,e.x⟩
theorem toW_fts (es:List FE):ftsW (es.map toW)=fts (es.map FE.fd):=by
 unfold ftsW fts
 rw [List.map_map,List.map_map]; rfl
theorem typ_zero {es:List FE} {X:Nat->Ex} (hX:Srcs X es) (h:checkF (es.map FE.fd) X=0):∀ (k:Nat) (hk:k < es.length),srcE (es.map FE.fd) es[k].fd es[k].x=0:=fun k hk => by
 unfold checkF at h
 by_cases h1:14 < (es.map FE.fd).length
 ·rw [if_pos h1] at h; exact absurd h (by decide)
 ·rw [if_neg h1] at h
  by_cases h2:scan (ownE (es.map FE.fd) X) (es.map FE.fd).length=0
  ·rw [if_pos h2] at h
   have h3:=scan_all _ h k (by rw [List.length_map]; exact hk)
   rw [typ_at hX k hk] at h3
   exact h3
  ·rw [if_neg h2] at h; exact absurd h h2
def rho (es:List FE) (X:Nat->Ex) (s:ByteArray):Nat:=(rk (rankF (needsF (es.map FE.fd) X)) (atF (es.map FE.fd) s)).toNat
theorem at_own {es:List FE} {X:Nat->Ex} (hX:Srcs X es) (h:checkF (es.map FE.fd) X=0) (k:Nat) (hk:k < es.length):atF (es.map FE.fd) es[k].nm=k:=by
 have h1:=(own_zero hX h k hk).2
 have h2:=nm_first (es.map FE.fd) es[k].nm k (by rw [List.length_map]; exact hk) (by rw [List.getElem_map]; rfl)
 omega
theorem deps_lt (es:List FE) (X:Nat->Ex):∀ i,i < (needsF (es.map FE.fd) X).length->∀ j ∈ nd (needsF (es.map FE.fd) X) i,j < (needsF (es.map FE.fd) X).length:=fun i hi j hj => by
 rw [needsF_len] at hi ⊢
 rw [needsF_nd _ _ _ hi] at hj
 unfold needF at hj
 rw [dif_pos hi] at hj
 by_cases h1:(es.map FE.fd)[i].kind=1
 ·rw [if_pos h1] at hj; cases hj
 ·rw [if_neg h1] at hj
  obtain ⟨s,_,rfl⟩:=List.mem_map.1 hj
  unfold plN
  split
  ·assumption
  ·omega
theorem dep_mem {es:List FE} {X:Nat->Ex} (hX:Srcs X es) (k:Nat) (hk:k < es.length) (h1:es[k].kind ≠ 1) (hc:es[k].x.checkE=0) (s:ByteArray) (hs:s ∈ Ex.refs es[k].x):plN (es.map FE.fd) s ∈ nd (needsF (es.map FE.fd) X) k:=by
 have hk':k < (es.map FE.fd).length:=by rw [List.length_map]; exact hk
 rw [needsF_nd _ _ _ hk']
 unfold needF
 rw [dif_pos hk',if_neg (by rw [List.getElem_map]; exact h1),hX k hk]
 refine List.mem_map.2 ⟨s,?_,rfl⟩
 have hh:hasB (mkL (ofL es[k].x)) s=true:=by
  rw [hasB_mkL,decide_eq_true_eq]
  unfold ofL
  rw [if_pos hc,rise_mem]
  unfold bytesL
  exact List.mem_map.2 ⟨s,hs,rfl⟩
 exact (hasB_true _ _).1 hh
theorem wk_ranks {es:List FE} {X:Nat->Ex} {w:World} (hX:Srcs X es) (hi:FIs w es) (h:checkF (es.map FE.fd) X=0) (hr:∀ i,i < es.length->0<=rk (rankF (needsF (es.map FE.fd) X)) i):Wt (es.map toW) (rho es X):=by
 have hnl:(needsF (es.map FE.fd) X).length=es.length:=by rw [needsF_len,List.length_map]
 have hr':∀ i,i < (needsF (es.map FE.fd) X).length->0<=rk (rankF (needsF (es.map FE.fd) X)) i:=fun i hi => hr i (by omega)
 have hok:∀ (k:Nat) (hk:k < es.length),_:=fun k hk => fl_ok (hi k hk) (own_zero hX h k hk).1
 have each:∀ f ∈ es.map toW,∃ k,∃ hk:k < es.length,f=toW es[k]:=fun f hf => by
  obtain ⟨e,he,rfl⟩:=List.mem_map.1 hf
  obtain ⟨k,hk,rfl⟩:=List.getElem_of_mem he
  exact ⟨k,hk,rfl⟩
 have hrho:∀ (k:Nat) (hk:k < es.length),rho es X es[k].nm=(rk (rankF (needsF (es.map FE.fd) X)) k).toNat:=fun k hk => by
  unfold rho; rw [at_own hX h k hk]
 have hsrc:∀ (k:Nat) (hk:k < es.length),es[k].kind ≠ 1->es[k].x.checkE=0:=fun k hk h1 => (hok k hk).2 (by have:=(hok k hk).1.k.1; have h2:1<=es[k].kind:=this; omega)
 have hty:∀ (k:Nat) (hk:k < es.length),es[k].kind ≠ 1->ofT (fts (es.map FE.fd)) es[k].x=Ex.ty (fts (es.map FE.fd)) es[k].x:=fun k hk h1 => by unfold ofT; rw [if_pos (hsrc k hk h1)]
 refine { apart:=fun i j hi hj e => ?_,lt:=fun f hf => ?_,dep:=fun f hf h1 s hs hg => ?_,ty:=fun f hf => ?_,src:=fun f hf h1 => ?_,kinds:=fun f hf => ?_,form:=fun f hf h2 => ?_,look:=fun f hf h3 => ?_ }
 ·rw [List.length_map] at hi hj
  rw [List.getElem_map,List.getElem_map] at e
  have e':es[i].nm=es[j].nm:=e
  rw [← at_own hX h i hi,e',at_own hX h j hj]
 ·obtain ⟨k,hk,rfl⟩:=each f hf
  have:=rank_lt hr' (deps_lt es X) k (by omega)
  rw [List.length_map]
  show rho es X es[k].nm < _
  rw [hrho k hk]; omega
 ·obtain ⟨k,hk,rfl⟩:=each f hf
  obtain ⟨g,hg,rfl⟩:=hg
  obtain ⟨j,hj,rfl⟩:=each g hg
  have hs':es[j].nm ∈ Ex.refs es[k].x:=hs
  have h1':es[k].kind ≠ 1:=h1
  have hm:=dep_mem hX k hk h1' (hsrc k hk h1') _ hs'
  have hpl:plN (es.map FE.fd) es[j].nm=j:=by
   unfold plN
   rw [at_own hX h j hj,if_pos (by rw [List.length_map]; exact hj)]
  rw [hpl] at hm
  have hmx:=(rank_mx hr' (deps_lt es X) k (by omega)).2.1 j hm
  show rho es X es[j].nm < rho es X es[k].nm
  rw [hrho j hj,hrho k hk]
  have:=hr j hj
  omega
 ·obtain ⟨k,hk,rfl⟩:=each f hf
  exact (hok k hk).1.t
 ·obtain ⟨k,hk,rfl⟩:=each f hf
  exact hsrc k hk h1
 ·obtain ⟨k,hk,rfl⟩:=each f hf
  exact (hok k hk).1.k
 ·obtain ⟨k,hk,rfl⟩:=each f hf
  have h2':es[k].kind=2:=h2
  have hz:=typ_zero hX h k hk
  unfold srcE at hz
  rw [if_pos (show es[k].fd.kind=2 from h2')] at hz
  unfold fitsT at hz
  rw [hty k hk (by omega)] at hz
  rw [toW_fts]
  show Ex.ty _ es[k].x=(es[k].ty,0)
  by_cases a:(Ex.ty (fts (es.map FE.fd)) es[k].x).2=0
  ·rw [if_pos a] at hz
   by_cases b:(Ex.ty (fts (es.map FE.fd)) es[k].x).1=es[k].fd.ty
   ·exact Prod.ext b a
   ·rw [if_neg b] at hz; exact absurd hz (by decide)
  ·rw [if_neg a] at hz; exact absurd hz a
 ·obtain ⟨k,hk,rfl⟩:=each f hf
  have h3':es[k].kind=3:=h3
  have hz:=typ_zero hX h k hk
  unfold srcE at hz
  rw [if_neg (show ¬ es[k].fd.kind=2 by show ¬ es[k].kind=2; omega),if_pos (show es[k].fd.kind=3 from h3'),hty k hk (by omega)] at hz
  rw [toW_fts]
  exact hz
end WhT
namespace WhM
open NumM ValM ExM NmM TyM StrM EvM EvP FoM
set_option linter.unusedVariables false
def hasB' (out:List Fo) (nm:ByteArray) (key:Vl):Bool:=out.any (hitB nm key)
def add1 (an:Fw->Vl->Vl) (kn:List (ByteArray × Vl)) (out:List Fo) (f:Fw):List Fo :=
 if f.kind=3/\knV (ofV kn f.x)=true/\hasB' out f.nm (ofV kn f.x)=false then out ++ [⟨f.nm,ofV kn f.x,an f (ofV kn f.x)⟩] else out
def addO (an:Fw->Vl->Vl) (kn:List (ByteArray × Vl)):List Fo->List Fw->List Fo
 | out,[] => out
 | out,f :: l => addO an kn (add1 an kn out f) l
def orcV (an:Fw->Vl->Vl) (ins:List Fo) (F:List Fw):Nat->List Fo
 | 0 => []
 | t + 1 => addO an (named F (allV ins (orcV an ins F t) F)) (orcV an ins F t) F
theorem addO_snoc (an:Fw->Vl->Vl) (kn:List (ByteArray × Vl)):∀ (l:List Fw) (out:List Fo) (f:Fw),addO an kn out (l ++ [f])=add1 an kn (addO an kn out l) f
 | [],_,_ => rfl
 | g :: l,out,f => addO_snoc an kn l (add1 an kn out g) f
structure OrcOk (an:Fw->Vl->Vl) (F:List Fw) (out:List Fo):Prop where
 each:∀ o ∈ out,∃ f ∈ F,o.nm=f.nm/\f.kind=3/\knV o.key=true/\o.key.k=(Ex.ty (ftsW F) f.x).1/\o.has=an f o.key
 once:∀ (i j:Nat) (hi:i < out.length) (hj:j < out.length),i < j->¬ (out[i].nm=out[j].nm/\out[i].key=out[j].key)
def AnOk (an:Fw->Vl->Vl) (F:List Fw):Prop:=∀ f ∈ F,f.kind=3->∀ key,knV key=true->(an f key).ok/\(an f key).k=f.ty
theorem add1_pre (an:Fw->Vl->Vl) (kn:List (ByteArray × Vl)) (out:List Fo) (f:Fw):out <+: add1 an kn out f:=by
 unfold add1
 split
 ·exact List.prefix_append _ _
 ·exact List.prefix_refl _
theorem addO_pre (an:Fw->Vl->Vl) (kn:List (ByteArray × Vl)):∀ (l:List Fw) (out:List Fo),out <+: addO an kn out l
 | [],_ => List.prefix_refl _
 | f :: l,out => (add1_pre an kn out f).trans (addO_pre an kn l _)
theorem has_pre {a b:List Fo} (h:a <+: b) {nm:ByteArray} {key:Vl} (ha:hasB' a nm key=true):hasB' b nm key=true:=by
 unfold hasB' at ha ⊢
 obtain ⟨t,rfl⟩:=h
 rw [List.any_append,ha]; rfl
theorem add1_has (an:Fw->Vl->Vl) (kn:List (ByteArray × Vl)) (out:List Fo) (f:Fw) (h3:f.kind=3) (hk:knV (ofV kn f.x)=true):hasB' (add1 an kn out f) f.nm (ofV kn f.x)=true:=by
 unfold add1
 by_cases h:hasB' out f.nm (ofV kn f.x)=true
 ·rw [if_neg fun e => by rw [h] at e; exact absurd e.2.2 (by decide)]
  exact h
 ·rw [if_pos ⟨h3,hk,by simpa using h⟩]
  unfold hasB'
  rw [List.any_append]
  have:hitB f.nm (ofV kn f.x) ⟨f.nm,ofV kn f.x,an f (ofV kn f.x)⟩=true:=hit_iff.2 ⟨rfl,rfl⟩
  simp [this]
theorem addO_has (an:Fw->Vl->Vl) (kn:List (ByteArray × Vl)):∀ (l:List Fw) (out:List Fo),∀ f ∈ l,f.kind=3->knV (ofV kn f.x)=true->hasB' (addO an kn out l) f.nm (ofV kn f.x)=true
 | g :: l,out,f,hf,h3,hk => by
  rcases List.mem_cons.1 hf with rfl | hf
  ·exact has_pre (addO_pre an kn l _) (add1_has an kn out f h3 hk)
  ·exact addO_has an kn l _ f hf h3 hk
theorem add1_ok {an:Fw->Vl->Vl} {F:List Fw} {kn:List (ByteArray × Vl)} {out:List Fo} {f:Fw} (h:OrcOk an F out) (hf:f ∈ F) (ht:f.kind=3->knV (ofV kn f.x)=true->(ofV kn f.x).k=(Ex.ty (ftsW F) f.x).1):OrcOk an F (add1 an kn out f):=by
 unfold add1
 by_cases hc:f.kind=3/\knV (ofV kn f.x)=true/\hasB' out f.nm (ofV kn f.x)=false
 ·rw [if_pos hc]
  obtain ⟨h3,hk,hn⟩:=hc
  refine ⟨fun o ho => ?_,fun i j hi hj hij => ?_⟩
  ·rcases List.mem_append.1 ho with ho | ho
   ·exact h.each o ho
   ·rw [List.mem_singleton] at ho
    subst ho
    exact ⟨f,hf,rfl,h3,hk,ht h3 hk,rfl⟩
  ·rw [List.length_append,List.length_singleton] at hi hj
   have hi':i < out.length:=by omega
   rw [List.getElem_append_left hi']
   by_cases hj':j < out.length
   ·rw [List.getElem_append_left hj']
    exact h.once i j hi' hj' hij
   ·have e:j=out.length:=by omega
    subst e
    rw [List.getElem_append_right (Nat.le_refl _)]
    simp only [Nat.sub_self,List.getElem_singleton]
    rintro ⟨e1,e2⟩
    unfold hasB' at hn
    have:=List.any_eq_false.1 hn out[i] (List.getElem_mem hi')
    exact this (hit_iff.2 ⟨e1,e2⟩)
 ·rw [if_neg hc]; exact h
theorem addO_ok {an:Fw->Vl->Vl} {F:List Fw} {kn:List (ByteArray × Vl)}:∀ (l:List Fw) (out:List Fo),(∀ f ∈ l,f ∈ F)->(∀ f ∈ l,f.kind=3->knV (ofV kn f.x)=true->(ofV kn f.x).k=(Ex.ty (ftsW F) f.x).1)->OrcOk an F out->OrcOk an F (addO an kn out l)
 | [],_,_,_,h => h
 | f :: l,out,hl,ht,h => addO_ok l _ (fun g hg => hl g (by simp [hg])) (fun g hg => ht g (by simp [hg])) (add1_ok h (hl f (by simp)) (ht f (by simp)))
theorem OrcOk.oks {an:Fw->Vl->Vl} {F:List Fw} {out:List Fo} (h:OrcOk an F out) (ha:AnOk an F):Oks out:=fun o ho => by
 obtain ⟨f,hf,_,h3,hk,_,e⟩:=h.each o ho
 rw [e]; exact (ha f hf h3 _ hk).1
theorem OrcOk.ty {an:Fw->Vl->Vl} {F:List Fw} {out:List Fo} (h:OrcOk an F out) (ha:AnOk an F) (hp:Apart F):∀ f ∈ F,f.kind=3->∀ o ∈ out,o.nm=f.nm->o.has.k=f.ty:=fun f hf h3 o ho e => by
 obtain ⟨g,hg,e1,g3,hk,_,e2⟩:=h.each o ho
 have:f=g:=by
  obtain ⟨i,hi,rfl⟩:=List.getElem_of_mem hf
  obtain ⟨j,hj,rfl⟩:=List.getElem_of_mem hg
  have:=hp i j hi hj (e.symm.trans e1)
  subst this; rfl
 subst this
 rw [e2]; exact (ha f hf h3 _ hk).2
theorem OrcOk.tyor {an:Fw->Vl->Vl} {F:List Fw} {out:List Fo} (h:OrcOk an F out) (ha:AnOk an F) (hp:Apart F):TyOr F out:=fun f hf h3 o ho e => .inl (h.ty ha hp f hf h3 o ho e)
theorem orc_ok {an:Fw->Vl->Vl} {ins:List Fo} {F:List Fw} {ρ:ByteArray->Nat} (hF:Wt F ρ) (hi:TyIn F ins) (oi:Oks ins) (ha:AnOk an F):∀ t,OrcOk an F (orcV an ins F t)
 | 0 => ⟨fun o ho => (by cases ho),fun i j hi => absurd hi (Nat.not_lt_zero i)⟩
 | t + 1 => by
  have ih:=orc_ok hF hi oi ha t
  have oo:=ih.oks ha
  refine addO_ok F _ (fun f hf => hf) (fun f hf h3 hk => ?_) ih
  have hs:=hF.src f hf (by omega)
  have hv:=all_ok hF.toWk oi oo
  rw [of_ev hv hs] at hk ⊢
  have:=ev_kind hF.toWk (all_len _ _ _) hv (all_ty hF hi (ih.tyor ha hF.apart) oi oo) (checkE_zero hs).2.2 (t:=(Ex.ty (ftsW F) f.x).1) (Prod.ext rfl (hF.look f hf h3))
  rcases this with e | e | e
  ·exact e
  ·have:=kn_kind hk; omega
  ·have:=kn_kind hk; omega
theorem askF_hit {nm:ByteArray} {key:Vl}:∀ {out:List Fo},hasB' out nm key=true->∃ o ∈ out,o.nm=nm/\askF out nm key=o.has
 | [],h => by cases h
 | o :: l,h => by
  unfold askF
  by_cases e:hitB nm key o=true
  ·rw [if_pos e]; exact ⟨o,by simp,(hit_iff.1 e).1,rfl⟩
  ·rw [if_neg e]
   have:hasB' l nm key=true:=by
    unfold hasB' at h ⊢
    rw [List.any_cons] at h
    rw [Bool.not_eq_true] at e
    rw [e] at h
    simpa using h
   obtain ⟨p,hp,h1,h2⟩:=askF_hit this
   exact ⟨p,by simp [hp],h1,h2⟩
theorem gro_nop {v w:Vl} (h:Gro v w) (hw:w.k ≠ 4):v.k ≠ 4:=by
 rcases h with h | h | ⟨h1,h2⟩
 ·exact absurd h hw
 ·rw [h]; exact hw
 ·omega
theorem take_pre {a b:List Fo} (h:a <+: b):b.take a.length=a:=by
 obtain ⟨t,rfl⟩:=h
 exact List.take_left
def InNop (F:List Fw) (ins:List Fo):Prop:=∀ f ∈ F,f.kind=1->(inV ins f).k ≠ 4
theorem answered {an:Fw->Vl->Vl} {ins:List Fo} {F:List Fw} {ρ:ByteArray->Nat} (hF:Wt F ρ) (hi:TyIn F ins) (oi:Oks ins) (ha:AnOk an F) (hn:InNop F ins):∀ (t i:Nat) (h:i < F.length),ρ F[i].nm < t->((allV ins (orcV an ins F t) F)[i]'(by rw [all_len]; exact h)).k ≠ 4
 | 0,_,_,hr => absurd hr (by omega)
 | t + 1,i,h,hr => by
  have hm:=List.getElem_mem h
  have o0:=orc_ok hF hi oi ha t
  have o1:=orc_ok hF hi oi ha (t + 1)
  have hp:orcV an ins F t <+: orcV an ins F (t + 1):=addO_pre _ _ _ _
  have v0:=all_ok hF.toWk oi (o0.oks ha)
  have v1:=all_ok hF.toWk oi (o1.oks ha)
  have hg:GroAll F (allV ins (orcV an ins F (t + 1)) F) (allV ins (orcV an ins F t) F):=by
   have:=all_grows hF.toWk oi (o1.oks ha) (orcV an ins F t).length
   rw [take_pre hp] at this
   exact this
  -- what the source refers to
  have href:F[i].kind ≠ 1->∀ s ∈ Ex.refs F[i].x,(factV (named F (allV ins (orcV an ins F t) F)) s).k ≠ 4:=fun k1 s hs => by
   by_cases hex:∃ g ∈ F,g.nm=s
   ·have hlt:=hF.dep _ hm k1 s hs hex
    obtain ⟨g,hg',rfl⟩:=hex
    obtain ⟨j,hj,rfl⟩:=List.getElem_of_mem hg'
    rw [named_fact hF.apart (all_len _ _ _) j hj]
    exact answered hF hi oi ha hn t j hj (by omega)
   ·rw [named_no (all_len _ _ _) fun f hf e => hex ⟨f,hf,e⟩]
    exact (by decide:(5:Int) ≠ 4)
  rw [all_at hF.toWk oi (o1.oks ha) i h]
  unfold oneV
  by_cases k1:F[i].kind=1
  ·rw [if_pos k1]; exact hn _ hm k1
  ·rw [if_neg k1]
   have hs:=hF.src _ hm k1
   have hx:=(checkE_zero hs).2.2
   have e0:=ev_nop (named_ok v0) F[i].x hx (href k1)
   have eg:=ev_gro (fun s => named_gro hF.apart (all_len _ _ _) (all_len _ _ _) hg s) F[i].x
   have e1:=gro_nop eg e0
   rw [of_ev v1 hs]
   by_cases k3:F[i].kind=3
   ·rw [if_pos k3]
    unfold askV
    by_cases hk:knV (Ex.ev (named F (allV ins (orcV an ins F (t + 1)) F)) F[i].x)=true
    ·rw [if_pos hk]
     have heq:Ex.ev (named F (allV ins (orcV an ins F (t + 1)) F)) F[i].x=Ex.ev (named F (allV ins (orcV an ins F t) F)) F[i].x:=by
      rcases eg with e | e | ⟨e,_⟩
      ·exact absurd e e0
      ·exact e
      ·have:=kn_kind hk; omega
     have hhas:hasB' (orcV an ins F (t + 1)) F[i].nm (Ex.ev (named F (allV ins (orcV an ins F (t + 1)) F)) F[i].x)=true:=by
      rw [heq] at hk ⊢
      have:=addO_has an (named F (allV ins (orcV an ins F t) F)) F (orcV an ins F t) F[i] hm k3 (by rw [of_ev v0 hs]; exact hk)
      rw [of_ev v0 hs] at this
      exact this
     obtain ⟨o,ho,h1,h2⟩:=askF_hit hhas
     rw [h2,o1.ty ha hF.apart _ hm k3 o ho h1]
     have:=hF.ty _ hm
     omega
    ·rw [if_neg hk]; exact e1
   ·rw [if_neg k3]; exact e1
theorem all_answered {an:Fw->Vl->Vl} {ins:List Fo} {F:List Fw} {ρ:ByteArray->Nat} (hF:Wt F ρ) (hi:TyIn F ins) (oi:Oks ins) (ha:AnOk an F) (hn:InNop F ins):∀ v ∈ allV ins (orcV an ins F F.length) F,v.k ≠ 4:=fun v hv => by
 obtain ⟨i,h,rfl⟩:=List.getElem_of_mem hv
 rw [all_len] at h
 exact answered hF hi oi ha hn F.length i h (hF.lt _ (List.getElem_mem h))
end WhM
namespace WhM
open NumM ValM ExM NmM TyM StrM EvM EvP FoM
set_option linter.unusedVariables false
theorem fact_map {nm:Nat->ByteArray} {a:Nat->Vl} (j:Nat):∀ (l:List Nat),j ∈ l->(∀ i ∈ l,nm i=nm j->i=j)->factV (l.map fun i => (nm i,a i)) (nm j)=a j
 | [],h,_ => by cases h
 | i :: l,h,hi => by
  rw [List.map_cons,factV]
  by_cases e:nm i=nm j
  ·rw [if_pos (show (nm i,a i).1=nm j from e)]
   rw [hi i (by simp) e]
  ·rw [if_neg (show ¬ (nm i,a i).1=nm j from e)]
   refine fact_map j l ?_ fun k hk => hi k (by simp [hk])
   rcases List.mem_cons.1 h with rfl | h
   ·exact absurd rfl e
   ·exact h
def nmW (F:List Fw) (i:Nat):ByteArray:=(F[i]?.map Fw.nm).getD e0
theorem nmW_at (F:List Fw) (i:Nat) (h:i < F.length):nmW F i=F[i].nm:=by unfold nmW; rw [List.getElem?_eq_getElem h]; rfl
structure OrdW (F:List Fw) (o:List Nat):Prop where
 len:o.length=F.length
 lt:∀ i ∈ o,i < F.length
 all:∀ i,i < F.length->i ∈ o
 nd:o.Nodup
 ahead:∀ (t:Nat) (h:t < o.length) (h2:o[t] < F.length),F[o[t]].kind ≠ 1->∀ s ∈ Ex.refs F[o[t]].x,∃ j,∃ hj:j < F.length,j ∈ o.take t/\F[j].nm=s
def knO (F:List Fw) (a:Nat->Vl) (l:List Nat):List (ByteArray × Vl):=l.map fun i => (nmW F i,a i)
def atV (vs:List Vl) (i:Nat):Vl:=vs[i]?.getD zeroV
theorem atV_at (vs:List Vl) (i:Nat) (h:i < vs.length):atV vs i=vs[i]:=by unfold atV; rw [List.getElem?_eq_getElem h]; rfl
theorem atV_ok {vs:List Vl} (h:OkL vs) (i:Nat):i < vs.length->(atV vs i).ok:=fun hi => by rw [atV_at _ _ hi]; exact h _ (List.getElem_mem hi)
theorem one_known {ins orc:List Fo} {F:List Fw} {ρ:ByteArray->Nat} (hF:Wk F ρ) (hi:Oks ins) (ho:Oks orc) {o:List Nat} (hO:OrdW F o) (t:Nat) (ht:t < o.length) (hl:o[t] < F.length) :
  oneV ins orc F[o[t]] (knO F (atV (allV ins orc F)) (o.take t))=atV (allV ins orc F) o[t]:=by
 have hok:=all_ok hF hi ho
 have hln:=all_len ins orc F
 rw [atV_at _ _ (by omega),all_at hF hi ho _ hl]
 refine one_congr fun h1 => ?_
 have hs:=hF.src _ (List.getElem_mem hl) h1
 have hkn:∀ f ∈ knO F (atV (allV ins orc F)) (o.take t),f.2.ok:=fun f hf => by
  unfold knO at hf
  obtain ⟨i,hi',rfl⟩:=List.mem_map.1 hf
  exact atV_ok hok i (by rw [hln]; exact hO.lt i (List.mem_of_mem_take hi'))
 rw [of_ev hok hs,(ofE_ok hs hkn).2]
 refine ev_local _ _ _ fun s hs' => ?_
 obtain ⟨j,hj,hm,rfl⟩:=hO.ahead t ht hl h1 s hs'
 rw [named_fact hF.apart hln j hj,← nmW_at F j hj]
 unfold knO
 rw [fact_map j (o.take t) hm fun i hi' e => ?_]
 ·exact atV_at _ _ _
 ·have hil:=hO.lt i (List.mem_of_mem_take hi')
  rw [nmW_at F i hil,nmW_at F j hj] at e
  exact hF.apart i j hil hj e
def vsO (n:Nat) (a:Nat->Vl) (l:List Nat):List Vl:=(List.range n).map fun i => if i ∈ l then a i else zeroV
theorem vsO_len (n:Nat) (a:Nat->Vl) (l:List Nat):(vsO n a l).length=n:=by unfold vsO; simp
theorem vsO_at (n:Nat) (a:Nat->Vl) (l:List Nat) (i:Nat) (h:i < (vsO n a l).length):(vsO n a l)[i]=if i ∈ l then a i else zeroV:=by simp [vsO]
theorem vsO_zero (n:Nat) (a:Nat->Vl):vsO n a []=List.replicate n zeroV:=by
 refine List.ext_getElem (by rw [vsO_len,List.length_replicate]) fun i h1 h2 => ?_
 rw [vsO_at,List.getElem_replicate,if_neg (by simp)]
theorem vsO_set (n:Nat) (a:Nat->Vl) (o:List Nat) (t:Nat) (ht:t < o.length):(vsO n a (o.take t)).set o[t] (a o[t])=vsO n a (o.take (t + 1)):=by
 refine List.ext_getElem (by rw [List.length_set,vsO_len,vsO_len]) fun i h1 h2 => ?_
 rw [List.getElem_set,vsO_at,vsO_at]
 have hte:o.take (t + 1)=o.take t ++ [o[t]]:=List.take_succ_eq_append_getElem ht
 rw [hte]
 by_cases e:o[t]=i
 ·rw [if_pos e,if_pos (List.mem_append.2 (.inr (List.mem_singleton.2 e.symm))),e]
 ·rw [if_neg e]
  by_cases hm:i ∈ o.take t
  ·rw [if_pos hm,if_pos (List.mem_append.2 (.inl hm))]
  ·rw [if_neg hm,if_neg]
   rw [List.mem_append]
   rintro (h | h)
   ·exact hm h
   ·rw [List.mem_singleton] at h; exact e h.symm
theorem vsO_all {F:List Fw} {o:List Nat} (hO:OrdW F o) {vs:List Vl} (hl:vs.length=F.length):vsO F.length (atV vs) (o.take o.length)=vs:=by
 refine List.ext_getElem (by rw [vsO_len,hl]) fun i h1 h2 => ?_
 rw [vsO_at,List.take_length,if_pos (hO.all i (by omega))]
 exact atV_at _ _ _
end WhM
end Go.Proofs.YtonlkmkfcaadlaaGreatDoor
